/-
  What package word's own Next, Len and Is answer.
-/
import Derived.Test.YtcjfejhfafiaiaaWLP
namespace Go.Proofs.Ytcjfejhfafiaiaa
open Go.RowKit Go.Lib

theorem WdAt.kept {w w' : World} {p : Nat} {x : Nat × Nat} {t : ByteArray} {l : List WdL} (h : WdAt w p x t l) (hb : w'.heap[p]? = w.heap[p]?) : WdAt w' p x t l :=
  ⟨by have := h.row; unfold WRow Blk at this ⊢; rw [hb]; exact this, h.may, h.words, h.b1, h.b2⟩

theorem WdAt.lt {w : World} {p : Nat} {x : Nat × Nat} {t : ByteArray} {l : List WdL} (h : WdAt w p x t l) : p < w.heap.size := (Array.getElem?_eq_some_iff.1 h.row).1

theorem WdAt.below {w w' : World} {p : Nat} {x : Nat × Nat} {t : ByteArray} {l : List WdL} (h : WdAt w p x t l) (b : Below w.heap.size w w') : WdAt w' p x t l := h.kept (b.block p h.lt)

theorem peek_any (w : World) (p : Nat) (x : Nat × Nat) (t : ByteArray) (l : List WdL) (h : WdAt w p x t l) (hf : WFirst t) :
    Calls Try.prog 11 #[wptr p] w fun e w' => e = .returned (.tuple #[wdVal (wHead l).1, .bool (wHead l).2]) ∧ Below w.heap.size w w' := by
  rcases Nat.eq_zero_or_pos t.size with h0 | h0
  · have hl := last_of h h0
    subst hl
    exact peek_none w p x t _ h h0
  · have hl := (first_of h hf h0).1
    have := peek_some w p x t l h hf h0
    rw [hl]
    exact this

theorem peek_at (w : World) (p : Nat) (x : Nat × Nat) (t : ByteArray) (l : List WdL) (h : WdAt w p x t l) (hf : WFirst t) (s : ByteArray) (ln col : Int) (b : Bool) (hx : wHead l = ((s, ln, col), b)) :
    Calls Try.prog 11 #[wptr p] w fun e w' => e = .returned (.tuple #[.agg #[.string s, .int .i64 ln, .int .i64 col], .bool b]) ∧ Below w.heap.size w w' := by
  have := peek_any w p x t l h hf
  rw [hx] at this
  exact this

theorem BlkW.made (w : World) (s : ByteArray) (ln col : Int) : Blk (w.alloc (.cells #[.string s, .int .i64 ln, .int .i64 col] 44)) w.heap.size 44 [.string s, .int .i64 ln, .int .i64 col] := Go.heap_alloc_new _ _

theorem Blk.kept {w w' : World} {b : Nat} {ty : TypeId} {xs : List Value} (h : Blk w b ty xs) (hb : w'.heap[b]? = w.heap[b]?) : Blk w' b ty xs := by
  unfold Blk at h ⊢
  rw [hb]
  exact h

theorem Blk.lt {w : World} {b : Nat} {ty : TypeId} {xs : List Value} (h : Blk w b ty xs) : b < w.heap.size := (Array.getElem?_eq_some_iff.1 h).1

/-- Three cells are set. -/
def set3 (v : World) (b : Nat) (v0 v1 v2 : Value) : World := ((v.setCell ⟨b, 0, none⟩ v0).setCell ⟨b, 1, none⟩ v1).setCell ⟨b, 2, none⟩ v2

theorem blk_set3 {v : World} {b : Nat} {ty : TypeId} {u0 u1 u2 : Value} (h : Blk v b ty [u0, u1, u2]) (v0 v1 v2 : Value) : Blk (set3 v b v0 v1 v2) b ty [v0, v1, v2] := by
  have := row_set (i := 2) (row_set (i := 1) (row_set (i := 0) h v0) v1) v2
  unfold set3 Blk
  rw [this]
  simp

theorem set3_grown (v : World) (b : Nat) (v0 v1 v2 : Value) : v.grownBy (set3 v b v0 v1 v2) (some b) :=
  grownBy_trans (grownBy_trans (grownBy_setCell _ _ _ _) (grownBy_setCell _ _ _ _)) (grownBy_setCell _ _ _ _)

set_option maxRecDepth 20000 in
set_option maxHeartbeats 3200000 in
theorem next_no (w : World) (v : Value) (hv : ∀ w', Below w.heap.size w w' → Calls Try.prog 11 #[v] w' fun e w'' => e = .returned (.tuple #[wdVal (⟨#[]⟩, 0, 0), .bool false]) ∧ Below w'.heap.size w' w'') :
    Calls Try.prog 15 #[v] w fun e w' => e = .returned (.tuple #[wdVal (⟨#[]⟩, 0, 0), .bool false]) ∧ Below w.heap.size w w' := by
  have B1 : Hid (Below w.heap.size w (w.alloc (.cells #[.string ⟨#[]⟩, .int .i64 0, .int .i64 0] 44))) := Hid.of ((Below.refl _ _).alloc (Nat.le_refl _) _)
  have R1 := Hid.of (BlkW.made w ⟨#[]⟩ 0 0)
  have HV := Hid.of hv
  clear hv
  go_enter Try.func15, Try.ntmps15
  go_wp2_with fail
  refine (HV.out _ B1.out).mono ?_
  rintro e w2 ⟨rfl, b2⟩
  have R2 := Hid.of (R1.out.kept (b2.block _ R1.out.lt))
  have B2 := Hid.of (B1.out.trans (b2.mono B1.out.size))
  clear b2
  have R3 := (R2.out.kept (Below.heap_alloc _ (.cells #[.string ⟨#[]⟩, .int .i64 0, .int .i64 0] 44) _ R2.out.lt))
  have Q3 := BlkW.made w2 ⟨#[]⟩ 0 0
  have d0 := Q3.cell 0 _ rfl
  have d1 := Q3.cell 1 _ rfl
  have d2 := Q3.cell 2 _ rfl
  have f0 : (w2.alloc (.cells #[.string ⟨#[]⟩, .int .i64 0, .int .i64 0] 44)).frozen? ⟨w.heap.size, 0, none⟩ = false := row_frozen R3
  have f1 : (w2.alloc (.cells #[.string ⟨#[]⟩, .int .i64 0, .int .i64 0] 44)).frozen? ⟨w.heap.size, 1, none⟩ = false := row_frozen R3
  have f2 : (w2.alloc (.cells #[.string ⟨#[]⟩, .int .i64 0, .int .i64 0] 44)).frozen? ⟨w.heap.size, 2, none⟩ = false := row_frozen R3
  have c0 := R3.cell 0 _ rfl
  have c1 := R3.cell 1 _ rfl
  have c2 := R3.cell 2 _ rfl
  have z := Hid.of (blk_set3 R3 (.string ⟨#[]⟩) (.int .i64 0) (.int .i64 0))
  clear R3 Q3
  go_wp2_with fail
  have z0 := z.out.cell 0 _ rfl
  have z1 := z.out.cell 1 _ rfl
  have z2 := z.out.cell 2 _ rfl
  have b4 := (B2.out.alloc B2.out.size (.cells #[.string ⟨#[]⟩, .int .i64 0, .int .i64 0] 44)).grown (set3_grown _ w.heap.size (.string ⟨#[]⟩) (.int .i64 0) (.int .i64 0)) (by have := B2.out.size; simp; omega) (fun k hk => by cases hk; exact Nat.le_refl _)
  unfold set3 at z0 z1 z2 b4
  refine bodyPost_ret (v := .tuple #[wdVal (⟨#[]⟩, 0, 0), .bool false]) ?_ rfl ⟨rfl, b4⟩
  simp [results, Try.results15, go_sem, z0, z1, z2]

set_option maxRecDepth 20000 in
set_option maxHeartbeats 3200000 in
theorem next_some (w : World) (p : Nat) (x : Nat × Nat) (t : ByteArray) (s : ByteArray) (ln col : Int) (l : List WdL) (h : WdAt w p x t ((s, ln, col) :: l)) (hf : WFirst t) :
    Calls Try.prog 15 #[wptr p] w fun e w' => e = .returned (.tuple #[wdVal (s, ln, col), .bool true]) ∧ ∃ x' t', WdAt w' p x' t' l ∧ WFirst t' ∧ Step (fun k => k = p) (fun k => k = p) w w' := by
  have h0 : 0 < t.size := by
    rcases Nat.eq_zero_or_pos t.size with h0 | h0
    · have := last_of h h0
      cases this
    · exact h0
  have B1 : Hid (Below w.heap.size w (w.alloc (.cells #[.string ⟨#[]⟩, .int .i64 0, .int .i64 0] 44))) := Hid.of ((Below.refl _ _).alloc (Nat.le_refl _) _)
  have R1 := Hid.of (BlkW.made w ⟨#[]⟩ 0 0)
  have K1 := Hid.of (h.below B1.out)
  have LP := Hid.of h.lt
  have HF := Hid.of hf
  clear h hf
  go_enter Try.func15, Try.ntmps15
  go_wp2_with fail
  refine (peek_at _ p x t _ K1.out HF.out s ln col true rfl).mono ?_
  rintro e w2 ⟨rfl, b2⟩
  have R2 := Hid.of (R1.out.kept (b2.block _ R1.out.lt))
  have B2 := Hid.of (B1.out.trans (b2.mono B1.out.size))
  have K2 := Hid.of (K1.out.below b2)
  clear b2
  have B3 : Hid (Below w.heap.size w (w2.alloc (.cells #[.string s, .int .i64 ln, .int .i64 col] 44))) := Hid.of (B2.out.alloc B2.out.size _)
  have R3 := Hid.of (R2.out.kept (Below.heap_alloc _ (.cells #[.string s, .int .i64 ln, .int .i64 col] 44) _ R2.out.lt))
  have K3 := Hid.of (K2.out.below ((Below.refl _ _).alloc (Nat.le_refl _) (.cells #[.string s, .int .i64 ln, .int .i64 col] 44)))
  have Q3 := Hid.of (BlkW.made w2 s ln col)
  go_wp2_with fail
  refine (drop_any _ p x t _ K3.out HF.out h0).mono ?_
  rintro e w4 ⟨rfl, ⟨x4, t4, k4, f4, -⟩, g4⟩
  have K4 := Hid.of k4
  have F4 := Hid.of f4
  have hne : ∀ b, w.heap.size ≤ b → b ≠ p := fun b hb e => by have := LP.out; omega
  have r4 := R3.out.kept (g4.block _ R3.out.lt (fun e => hne _ (Nat.le_refl _) (Option.some.inj e)))
  have q4 := Q3.out.kept (g4.block _ Q3.out.lt (fun e => hne _ B2.out.size (Option.some.inj e)))
  have G4 := Hid.of g4
  clear k4 f4 g4 hne
  have d0 := q4.cell 0 _ rfl
  have d1 := q4.cell 1 _ rfl
  have d2 := q4.cell 2 _ rfl
  have f0 : w4.frozen? ⟨w.heap.size, 0, none⟩ = false := row_frozen r4
  have f1 : w4.frozen? ⟨w.heap.size, 1, none⟩ = false := row_frozen r4
  have f2 : w4.frozen? ⟨w.heap.size, 2, none⟩ = false := row_frozen r4
  have c0 := r4.cell 0 _ rfl
  have c1 := r4.cell 1 _ rfl
  have c2 := r4.cell 2 _ rfl
  have z := Hid.of (blk_set3 r4 (.string s) (.int .i64 ln) (.int .i64 col))
  clear r4 q4
  go_wp2_with fail
  have z0 := z.out.cell 0 _ rfl
  have z1 := z.out.cell 1 _ rfl
  have z2 := z.out.cell 2 _ rfl
  have g5 := set3_grown w4 w.heap.size (.string s) (.int .i64 ln) (.int .i64 col)
  have k5 : WdAt (set3 w4 w.heap.size (.string s) (.int .i64 ln) (.int .i64 col)) p x4 t4 l := K4.out.kept (g5.block _ K4.out.lt (fun e => by have := LP.out; cases e; omega))
  have st : Step (fun k => k = p) (fun k => k = p) w (set3 w4 w.heap.size (.string s) (.int .i64 ln) (.int .i64 col)) := by
    have s4 := G4.out.size
    have s5 := g5.size
    have s3 := B3.out.size
    refine ⟨(g5.os.trans G4.out.os).trans B3.out.os, (g5.tape.trans G4.out.tape).trans B3.out.tape, (g5.output.trans G4.out.output).trans B3.out.output, by omega, fun k hk hn => ?_, fun k hk => .inl hk⟩
    rw [g5.block k (by omega) (fun e => by cases e; omega), G4.out.block k (by omega) (fun e => hn (Option.some.inj e)), B3.out.block k hk]
  unfold set3 at z0 z1 z2 k5 st
  refine bodyPost_ret (v := .tuple #[wdVal (s, ln, col), .bool true]) ?_ rfl ⟨rfl, x4, t4, k5, F4.out, st⟩
  simp [results, Try.results15, go_sem, z0, z1, z2]

end Go.Proofs.Ytcjfejhfafiaiaa
