/-
  A bundle of texts: WLH WLI.
-/
import Derived.Deep.DeepCutAuto
import Derived.Deep.CutBlock
import Derived.Test.YtadepjpmpjipmaaGreatDoorQ22
import Derived.Test.YtadepjpmpjipmaaGreatDoorQ09
/-
  What package word's own Line answers.
-/
namespace Go.Proofs.YtadepjpmpjipmaaGreatDoor
open Go.RowKit Go.Lib

theorem tw_next {α : Type} {p : α → Bool} : ∀ {l : List α} {k : Nat} {y : α}, k ≤ (l.takeWhile p).length → l[k]? = some y → p y = true → k + 1 ≤ (l.takeWhile p).length
  | [], k, y, _, h, _ => by simp at h
  | z :: l, 0, y, _, h, hp => by
    simp at h
    subst h
    rw [List.takeWhile_cons, if_pos hp, List.length_cons]
    omega
  | z :: l, k + 1, y, hk, h, hp => by
    rw [List.takeWhile_cons] at hk ⊢
    split at hk
    · rename_i hz
      rw [if_pos hz]
      rw [List.length_cons] at hk ⊢
      have := tw_next (l := l) (k := k) (by omega) (by simpa using h) hp
      omega
    · simp at hk

theorem tw_stop {α : Type} {p : α → Bool} : ∀ {l : List α} {k : Nat} {y : α}, k ≤ (l.takeWhile p).length → l[k]? = some y → p y = false → (l.takeWhile p).length = k
  | [], k, y, _, h, _ => by simp at h
  | z :: l, 0, y, _, h, hp => by
    simp at h
    subst h
    rw [List.takeWhile_cons, if_neg (by rw [hp]; simp)]
    rfl
  | z :: l, k + 1, y, hk, h, hp => by
    rw [List.takeWhile_cons] at hk ⊢
    split at hk
    · rename_i hz
      rw [if_pos hz]
      rw [List.length_cons] at hk ⊢
      have := tw_stop (l := l) (k := k) (by omega) (by simpa using h) hp
      omega
    · simp at hk

theorem wLine_cons (x : WdL) (l : List WdL) : wLine (x :: l) = ((x :: l).takeWhile fun y => y.2.1 == x.2.1).length := rfl

theorem wLine_le : ∀ l : List WdL, wLine l ≤ l.length
  | [] => Nat.le_refl _
  | x :: l => by
    rw [wLine_cons]
    exact (List.takeWhile_sublist _).length_le

theorem wLine_one (x : WdL) (l : List WdL) : 1 ≤ wLine (x :: l) := by
  rw [wLine_cons, List.takeWhile_cons, if_pos (beq_self_eq_true _), List.length_cons]
  omega

theorem wLine_next {z y : WdL} {l : List WdL} {k : Nat} (hk : k ≤ wLine (z :: l)) (h : (z :: l)[k]? = some y) (e : y.2.1 = z.2.1) : k + 1 ≤ wLine (z :: l) := by
  rw [wLine_cons] at hk ⊢
  exact tw_next hk h (by simpa using e)

theorem wLine_stop {z y : WdL} {l : List WdL} {k : Nat} (hk : k ≤ wLine (z :: l)) (h : (z :: l)[k]? = some y) (e : ¬ y.2.1 = z.2.1) : wLine (z :: l) = k := by
  rw [wLine_cons] at hk ⊢
  exact tw_stop hk h (by rw [beq_eq_false_iff_ne]; exact e)

theorem word_cells (w : World) (s : ByteArray) (ln col : Int) : Cells (w.alloc (.cells #[.string s, .int .i64 ln, .int .i64 col] 118)) w.heap.size 0 (wdRow (s, ln, col)) := by
  intro j u hj
  rw [Nat.zero_add, World.cell?_alloc_new]
  simpa [wdRow] using hj

theorem wdRow_one (x : WdL) : ∀ u ∈ wdRow x, u.oneCell' = true := by
  intro u hu
  simp [wdRow] at hu
  rcases hu with rfl | rfl | rfl <;> rfl

theorem wdRow_three (x : WdL) : (wdRow x).length = 3 := rfl

/-- Behind k words that were taken: the row v, what is left, and the block b, that holds the next one. -/
structure LInv (w0 : World) (p : Nat) (l : List WdL) (wr : World) (v : Value) (b k : Nat) : Prop where
  row : wr.ownsRow w0.heap.size 118 3 v k (flat wdRow (l.take k))
  le : k ≤ wLine l
  zero : k = 0 → v = .slice none 0 0
  left : ∃ x t, WdAt wr p x t (l.drop k) ∧ WFirst t
  blk : Blk wr b 118 (wdRow (wHead (l.drop k)).1)
  own : w0.heap.size ≤ b
  off : ∀ g, v.ownBlock = some g → g ≠ b
  step : Step (fun j => j = p) (fun j => j = p) w0 wr

theorem LInv.drewN {w0 : World} {p : Nat} {l : List WdL} {wr : World} {v : Value} {b k : Nat} (h : LInv w0 p l wr v b k) (q : Nat) : LInv w0 p l (wr.drewN q) v b k := by
  obtain ⟨x, t, hk, hf⟩ := h.left
  refine ⟨h.row, h.le, h.zero, ⟨x, t, hk.drewN q, hf⟩, h.blk, h.own, h.off, ?_⟩
  have s := h.step
  exact ⟨s.os, s.tape, s.output, s.size, s.block, s.foot⟩

theorem flat_take_next {l : List WdL} {k : Nat} {y : WdL} (h : l[k]? = some y) : flat wdRow (l.take (k + 1)) = flat wdRow (l.take k) ++ wdRow y := by
  have h2 := List.getElem?_eq_some_iff.1 h
  rw [List.take_succ_eq_append_getElem h2.1, h2.2, flat_append, flat_one]

theorem Step.of_grown {w w' : World} {p : Nat} (g : w.grownBy w' (some p)) : Step (fun j => j = p) (fun j => j = p) w w' :=
  ⟨g.os, g.tape, g.output, g.size, fun k hk hn => g.block k hk (fun e => hn (Option.some.inj e)), fun _ h => .inl h⟩

theorem Step.grown {F F' : Nat → Prop} {w w' w'' : World} {row : Option Nat} (h : Step F F' w w') (g : w'.grownBy w'' row) (hr : ∀ k, row = some k → w.heap.size ≤ k) : Step F F' w w'' :=
  ⟨g.os.trans h.os, g.tape.trans h.tape, g.output.trans h.output, Nat.le_trans h.size g.size, fun k hk hn => by
    rw [g.block k (Nat.lt_of_lt_of_le hk h.size) (fun e => by have := hr k e.symm; omega)]
    exact h.block k hk hn, h.foot⟩

theorem LInv.grow {w0 : World} {p : Nat} {l : List WdL} {wd w3 : World} {v : Value} {b k : Nat} (J : LInv w0 p l wd v b k) (hp : p < w0.heap.size) (G : wd.grownBy w3 v.ownBlock) :
    (∀ x t l', WdAt wd p x t l' → WdAt w3 p x t l') ∧ Blk w3 b 118 (wdRow (wHead (l.drop k)).1) ∧ Step (fun j => j = p) (fun j => j = p) w0 w3 := by
  have hge : ∀ g, v.ownBlock = some g → w0.heap.size ≤ g := fun g hg => (J.row.lt g hg).1
  refine ⟨fun x t l' h => h.kept (G.block p h.lt (fun e => ?_)), J.blk.kept (G.block b J.blk.lt (fun e => J.off b e.symm rfl)), J.step.grown G hge⟩
  have := hge p e.symm
  omega

theorem own_grown {w w' : World} {B p : Nat} {e : TypeId} {sz : Nat} {v : Value} {n : Nat} {xs : List Value} (h : w.ownsRow B e sz v n xs) (g : w.grownBy w' (some p)) (hp : p < B) : w'.ownsRow B e sz v n xs := by
  refine (Step.of_grown g).own h (fun j hj c => ?_)
  have := (h.lt j hj).1
  simp only at c
  omega

theorem own_below {w w' : World} {B : Nat} {e : TypeId} {sz : Nat} {v : Value} {n : Nat} {xs : List Value} (h : w.ownsRow B e sz v n xs) (g : Below w.heap.size w w') : w'.ownsRow B e sz v n xs :=
  (Step.of_below (F := fun _ => False) g).own h (fun _ _ c => c)

set_option maxRecDepth 20000 in
set_option maxHeartbeats 6400000 in
theorem line_any (w : World) (p : Nat) (x : Nat × Nat) (t : ByteArray) (l : List WdL) (h : WdAt w p x t l) (hf : WFirst t) (hl : l.length ≤ 4000) :
    Calls Tryz.prog 112 #[wptr p] w fun e w' => ∃ v b, e = .returned v ∧ LInv w p l w' v b (wLine l) := by
  have K0 := Hid.of h
  have F0 := Hid.of hf
  have HL := Hid.of hl
  have LP := Hid.of h.lt
  obtain ⟨i0, hi, hz0, hz1, hz2⟩ := info_parts (show (Tryz.prog.info? 118).map (fun i => (i.zero, i.size, i.bytes)) = some (some (.agg #[.string ⟨#[]⟩, .int .i64 0, .int .i64 0]), 3, 32) by kernel_rfl)
  have HI := Hid.of hi
  have HZ0 := Hid.of hz0
  have HZ1 := Hid.of hz1
  have HZ2 := Hid.of hz2
  clear h hf hi hz0 hz1 hz2 hl
  have qT : ∀ (w : World) (a : Option Addr) (n c : Nat), (binOp .eql 97 (.slice a n c) (.slice none 0 0)).run Tryz.prog w = .ok (.bool a.isNone) w := fun w a n c => Lib.run_eql_slice_nil w _ _ a n c 0 0 Tryz.underlying97
  obtain ⟨s0, ln0, col0, b0, hx⟩ : ∃ s ln col b, wHead l = ((s, ln, col), b) := ⟨_, _, _, _, rfl⟩
  have HX := Hid.of hx
  clear hx
  go_enter Tryz.func112, Tryz.ntmps112
  go_wp2_with fail
  refine (peek_at _ p x t l K0.out F0.out s0 ln0 col0 b0 HX.out).mono ?_
  rintro e w2 ⟨rfl, b2⟩
  have B2 := Hid.of b2
  clear b2
  have I0 : Hid (LInv w p l (w2.alloc (.cells #[.string s0, .int .i64 ln0, .int .i64 col0] 118)) (.slice none 0 0) w2.heap.size 0) := Hid.of (by
    have b3 : Below w.heap.size w (w2.alloc (.cells #[.string s0, .int .i64 ln0, .int .i64 col0] 118)) := B2.out.alloc B2.out.size _
    refine ⟨World.ownsRow_nil _ _ _ 3, Nat.zero_le _, fun _ => rfl, ⟨x, t, K0.out.below b3, F0.out⟩, ?_, B2.out.size, (fun g hg => by simp [Value.ownBlock] at hg), Step.of_below b3⟩
    rw [List.drop_zero, HX.out]
    exact BlkW.made w2 s0 ln0 col0)
  have HX2 : Hid (b0 = (wHead (l.drop 0)).2) := Hid.of (by rw [List.drop_zero, HX.out])
  clear B2
  go_wp2_with fail
  go_loopw [3, 4, 5] (fun v pv bv wr => ∃ k b, pv = .pointer (some ⟨b, 0, none⟩) ∧ bv = .bool (wHead (l.drop k)).2 ∧ Hid (LInv w p l wr v b k)) (fun _ _ _ wr => leftOf p wr)
  case atStart => exact ⟨0, w2.heap.size, rfl, by rw [HX2.out], I0⟩
  case round =>
    clear I0 HX HX2
    obtain ⟨k, b, rfl, hb, I⟩ := hrel
    obtain ⟨x', t', hk', hf'⟩ := I.out.left
    have KA := Hid.of hk'
    have FA := Hid.of hf'
    clear hk' hf'
    cases hd : l.drop k with
    | nil =>
      rw [hd] at hb
      simp only [wHead] at hb
      subst hb
      have hkl : wLine l = k := by
        have h1 := congrArg List.length hd
        rw [List.length_drop, List.length_nil] at h1
        have h2 := wLine_le l
        have h3 := I.out.le
        omega
      have HKL := Hid.of hkl
      clear hd hkl
      go_wp2_with fail
      go_quiet (fail)
      go_wp2
      go_ret
      rw [HKL.out]
      exact ⟨_, b, rfl, I.out.drewN _⟩
    | cons y r =>
      obtain ⟨s, ln, col⟩ := y
      rw [hd] at hb
      simp only [wHead] at hb
      subst hb
      have hlk : k < l.length := by
        have := congrArg List.length hd
        rw [List.length_drop, List.length_cons] at this
        omega
      have hy : l[k]? = some (s, ln, col) := by
        rw [List.drop_eq_getElem_cons hlk] at hd
        rw [List.getElem?_eq_getElem hlk, (List.cons.inj hd).1]
      have blk := I.out.blk
      rw [hd] at blk
      have d0 := blk.cell 0 _ rfl
      have d1 := blk.cell 1 _ rfl
      have d2 := blk.cell 2 _ rfl
      simp only [wHead] at d0 d1 d2
      have HD := Hid.of hd
      have HY := Hid.of hy
      have K9 : Hid (k < 4000) := Hid.of (by have := HL.out; omega)
      clear hd hy blk
      cases k with
      | zero =>
        have hv := I.out.zero rfl
        subst hv
        have HLE : Hid (0 + 1 ≤ wLine l) := Hid.of (by
          cases hl : l with
          | nil => rw [hl] at hlk; simp at hlk
          | cons z r' => exact wLine_one z r')
        go_wp2_with fail
        go_quiet (fail)
        have J := Hid.of (I.out.drewN nq)
        have KJ := Hid.of (KA.out.drewN nq)
        generalize wr.drewN nq = wd at J KJ ⊢
        have blk := J.out.blk
        rw [HD.out] at blk
        have LW := Hid.of KA.out.left
        clear d0 d1 d2 I KA
        have d0 := blk.cell 0 _ rfl
        have d1 := blk.cell 1 _ rfl
        have d2 := blk.cell 2 _ rfl
        simp only [wHead] at d0 d1 d2
        have BK := Hid.of blk
        clear blk
        have OD := Hid.of J.out.row
        have BS : Hid (w.heap.size ≤ wd.heap.size) := Hid.of J.out.step.size
        go_wp2_with (at_builtin; go_loud (refine append_keep_law rfl _ _ 97 rfl w.heap.size 118 i0 (.agg #[.string ⟨#[]⟩, .int .i64 0, .int .i64 0]) 3 32 Tryz.underlying97 HI.out HZ0.out HZ1.out HZ2.out rfl (by decide) (.slice none 0 0) (0) _ rfl (OD.out.alloc _) wd.heap.size 0 1 1 (wdRow (s, ln, col)) rfl (word_cells wd s ln col) rfl (wdRow_one _) (by have := K9.out; unfold maxLen; omega) (by have := K9.out; omega) (by have := BS.out; simp; omega) ?_); intro v3 w3 o3 g3 k3 m3; have O3 := Hid.of o3; have G3 := Hid.of (grown_alloc g3); have M3 := Hid.of m3; clear o3 g3 k3 m3)
        have T0 : 0 < t'.size := by
          rcases Nat.eq_zero_or_pos t'.size with h0 | h0
          · have := last_of KJ.out h0
            rw [HD.out] at this
            cases this
          · exact h0
        obtain ⟨hk3, hb3, st3⟩ := J.out.grow LP.out G3.out
        have S3 := Hid.of st3
        rw [HD.out] at hb3
        have B3 := Hid.of hb3
        have K3 := Hid.of (hk3 _ _ _ KJ.out)
        have GE := Hid.of J.out.own
        clear hk3 hb3 st3 d0 d1 d2
        refine (drop_any _ p x' t' _ K3.out FA.out T0).mono ?_
        rintro e w4 ⟨rfl, ⟨x4, t4, k4, f4, s4⟩, g4⟩
        rw [List.tail_drop] at k4
        have b4 := B3.out.kept (g4.block _ B3.out.lt (fun e => by have := LP.out; have := GE.out; have := Option.some.inj e; omega))
        have O4 := Hid.of (own_grown O3.out g4 LP.out)
        have S4 := Hid.of (S3.out.trans (Step.of_grown g4))
        have K4 := Hid.of k4
        have F4 := Hid.of f4
        have d0 := b4.cell 0 _ rfl
        have d1 := b4.cell 1 _ rfl
        have d2 := b4.cell 2 _ rfl
        simp only [wHead] at d0 d1 d2
        obtain ⟨s5, ln5, col5, b5, hx⟩ : ∃ s9 l9 c9 b9, wHead (l.drop (0 + 1)) = ((s9, l9, c9), b9) := ⟨_, _, _, _, rfl⟩
        have HX := Hid.of hx
        clear b4 k4 f4 g4 hx B3 K3 S3
        have Q5 := Hid.of (BlkW.made w4 s ln col)
        have K5 := Hid.of (K4.out.below ((Below.refl _ _).alloc (Nat.le_refl _) (.cells #[.string s, .int .i64 ln, .int .i64 col] 118)))
        have S5 := Hid.of (S4.out.trans (Step.of_below ((Below.refl _ _).alloc (Nat.le_refl _) (.cells #[.string s, .int .i64 ln, .int .i64 col] 118))))
        have O5 := Hid.of (O4.out.alloc (.cells #[.string s, .int .i64 ln, .int .i64 col] 118))
        go_wp2_with fail
        refine (peek_at _ p x4 t4 _ K5.out F4.out s5 ln5 col5 b5 HX.out).mono ?_
        rintro e w6 ⟨rfl, b6⟩
        have Q6 := Q5.out.kept (b6.block _ Q5.out.lt)
        have K6 := Hid.of (K5.out.below b6)
        have S6 := Hid.of (S5.out.trans (Step.of_below b6))
        have O6 := Hid.of (own_below O5.out b6)
        have f0 : w6.frozen? ⟨w4.heap.size, 0, none⟩ = false := row_frozen Q6
        have f1 : w6.frozen? ⟨w4.heap.size, 1, none⟩ = false := row_frozen Q6
        have f2 : w6.frozen? ⟨w4.heap.size, 2, none⟩ = false := row_frozen Q6
        have z0 := Q6.cell 0 _ rfl
        have z1 := Q6.cell 1 _ rfl
        have z2 := Q6.cell 2 _ rfl
        have Z := Hid.of (blk_set3 Q6 (.string s5) (.int .i64 ln5) (.int .i64 col5))
        clear Q6 b6 d0 d1 d2
        go_wp2_with fail
        have g7 := set3_grown w6 w4.heap.size (.string s5) (.int .i64 ln5) (.int .i64 col5)
        have K7 : WdAt (set3 w6 w4.heap.size (.string s5) (.int .i64 ln5) (.int .i64 col5)) p x4 t4 _ := K6.out.kept (g7.block _ K6.out.lt (fun e => by have := K4.out.lt; have := Option.some.inj e; omega))
        have O7 := (Step.of_grown g7).own O6.out (fun g hg c => by have := (O4.out.lt g hg).2; simp only at c; omega)
        have S7 := S6.out.grown g7 (fun j hj => by cases hj; exact S4.out.size)
        have hfl : flat wdRow (l.take (0 + 1)) = flat wdRow (l.take 0) ++ wdRow (s, ln, col) := flat_take_next HY.out
        rw [← hfl] at O7
        refine ⟨⟨0 + 1, w4.heap.size, rfl, by rw [HX.out], Hid.of ⟨O7, HLE.out, fun c => by omega, ⟨x4, t4, K7, F4.out⟩, by rw [HX.out]; exact Z.out, S4.out.size, (fun g hg c => by have := (O4.out.lt g hg).2; omega), S7⟩⟩, ?_⟩
        show leftOf p (set3 w6 w4.heap.size (.string s5) (.int .i64 ln5) (.int .i64 col5)) < leftOf p wr
        rw [K7.left, LW.out]
        exact s4
      | succ k =>
        obtain ⟨z, r', hl⟩ : ∃ z r', l = z :: r' := by
          cases hl : l with
          | nil => rw [hl] at hlk; simp at hlk
          | cons z r' => exact ⟨z, r', rfl⟩
        obtain ⟨g, cap, rfl⟩ : ∃ g cap, u3 = .slice (some ⟨g, 0, none⟩) (k + 1) cap := by
          rcases I.out.row.2 with ⟨_, h⟩ | ⟨g, cap, cur, h, _⟩
          · cases h
          · exact ⟨g, cap, h⟩
        have c1 : wr.cell? ⟨g, 1, none⟩ = some (.int .i64 z.2.1) := by
          rw [I.out.row.cellAt 1 (by omega)]
          have := flat_at (enc := wdRow) wdRow_three (l.take (k + 1)) 0 z (by rw [hl]; rfl) 1 (by decide)
          rw [Nat.zero_mul, Nat.zero_add] at this
          rw [this]
          rfl
        have lk : (0 : Int) < ((k + 1 : Nat) : Int) := by omega
        by_cases hz : ln = z.2.1
        · subst hz
          have HLE : Hid (k + 1 + 1 ≤ wLine l) := Hid.of (by
            have h1 := I.out.le
            have h2 := HY.out
            rw [hl] at h1 h2 ⊢
            exact wLine_next h1 h2 rfl)
          clear hl
          go_wp2_with fail
          go_quiet (fail)
          have J := Hid.of (I.out.drewN nq)
          have KJ := Hid.of (KA.out.drewN nq)
          generalize wr.drewN nq = wd at J KJ ⊢
          have blk := J.out.blk
          rw [HD.out] at blk
          have LW := Hid.of KA.out.left
          clear d0 d1 d2 I KA
          have d0 := blk.cell 0 _ rfl
          have d1 := blk.cell 1 _ rfl
          have d2 := blk.cell 2 _ rfl
          simp only [wHead] at d0 d1 d2
          have BK := Hid.of blk
          clear blk
          have OD := Hid.of J.out.row
          have BS : Hid (w.heap.size ≤ wd.heap.size) := Hid.of J.out.step.size
          go_wp2_with (at_builtin; go_loud (refine append_keep_law rfl _ _ 97 rfl w.heap.size 118 i0 (.agg #[.string ⟨#[]⟩, .int .i64 0, .int .i64 0]) 3 32 Tryz.underlying97 HI.out HZ0.out HZ1.out HZ2.out rfl (by decide) (.slice (some ⟨g, 0, none⟩) (k + 1) cap) (k + 1) _ rfl (OD.out.alloc _) wd.heap.size 0 1 1 (wdRow (s, z.2.1, col)) rfl (word_cells wd s z.2.1 col) rfl (wdRow_one _) (by have := K9.out; unfold maxLen; omega) (by have := K9.out; omega) (by have := BS.out; simp; omega) ?_); intro v3 w3 o3 g3 k3 m3; have O3 := Hid.of o3; have G3 := Hid.of (grown_alloc g3); have M3 := Hid.of m3; clear o3 g3 k3 m3)
          have T0 : 0 < t'.size := by
            rcases Nat.eq_zero_or_pos t'.size with h0 | h0
            · have := last_of KJ.out h0
              rw [HD.out] at this
              cases this
            · exact h0
          obtain ⟨hk3, hb3, st3⟩ := J.out.grow LP.out G3.out
          have S3 := Hid.of st3
          rw [HD.out] at hb3
          have B3 := Hid.of hb3
          have K3 := Hid.of (hk3 _ _ _ KJ.out)
          have GE := Hid.of J.out.own
          clear hk3 hb3 st3 d0 d1 d2
          refine (drop_any _ p x' t' _ K3.out FA.out T0).mono ?_
          rintro e w4 ⟨rfl, ⟨x4, t4, k4, f4, s4⟩, g4⟩
          rw [List.tail_drop] at k4
          have b4 := B3.out.kept (g4.block _ B3.out.lt (fun e => by have := LP.out; have := GE.out; have := Option.some.inj e; omega))
          have O4 := Hid.of (own_grown O3.out g4 LP.out)
          have S4 := Hid.of (S3.out.trans (Step.of_grown g4))
          have K4 := Hid.of k4
          have F4 := Hid.of f4
          have d0 := b4.cell 0 _ rfl
          have d1 := b4.cell 1 _ rfl
          have d2 := b4.cell 2 _ rfl
          simp only [wHead] at d0 d1 d2
          obtain ⟨s5, ln5, col5, b5, hx⟩ : ∃ s9 l9 c9 b9, wHead (l.drop ((k + 1) + 1)) = ((s9, l9, c9), b9) := ⟨_, _, _, _, rfl⟩
          have HX := Hid.of hx
          clear b4 k4 f4 g4 hx B3 K3 S3
          have Q5 := Hid.of (BlkW.made w4 s z.2.1 col)
          have K5 := Hid.of (K4.out.below ((Below.refl _ _).alloc (Nat.le_refl _) (.cells #[.string s, .int .i64 z.2.1, .int .i64 col] 118)))
          have S5 := Hid.of (S4.out.trans (Step.of_below ((Below.refl _ _).alloc (Nat.le_refl _) (.cells #[.string s, .int .i64 z.2.1, .int .i64 col] 118))))
          have O5 := Hid.of (O4.out.alloc (.cells #[.string s, .int .i64 z.2.1, .int .i64 col] 118))
          go_wp2_with fail
          refine (peek_at _ p x4 t4 _ K5.out F4.out s5 ln5 col5 b5 HX.out).mono ?_
          rintro e w6 ⟨rfl, b6⟩
          have Q6 := Q5.out.kept (b6.block _ Q5.out.lt)
          have K6 := Hid.of (K5.out.below b6)
          have S6 := Hid.of (S5.out.trans (Step.of_below b6))
          have O6 := Hid.of (own_below O5.out b6)
          have f0 : w6.frozen? ⟨w4.heap.size, 0, none⟩ = false := row_frozen Q6
          have f1 : w6.frozen? ⟨w4.heap.size, 1, none⟩ = false := row_frozen Q6
          have f2 : w6.frozen? ⟨w4.heap.size, 2, none⟩ = false := row_frozen Q6
          have z0 := Q6.cell 0 _ rfl
          have z1 := Q6.cell 1 _ rfl
          have z2 := Q6.cell 2 _ rfl
          have Z := Hid.of (blk_set3 Q6 (.string s5) (.int .i64 ln5) (.int .i64 col5))
          clear Q6 b6 d0 d1 d2
          go_wp2_with fail
          have g7 := set3_grown w6 w4.heap.size (.string s5) (.int .i64 ln5) (.int .i64 col5)
          have K7 : WdAt (set3 w6 w4.heap.size (.string s5) (.int .i64 ln5) (.int .i64 col5)) p x4 t4 _ := K6.out.kept (g7.block _ K6.out.lt (fun e => by have := K4.out.lt; have := Option.some.inj e; omega))
          have O7 := (Step.of_grown g7).own O6.out (fun g hg c => by have := (O4.out.lt g hg).2; simp only at c; omega)
          have S7 := S6.out.grown g7 (fun j hj => by cases hj; exact S4.out.size)
          have hfl : flat wdRow (l.take ((k + 1) + 1)) = flat wdRow (l.take (k + 1)) ++ wdRow (s, z.2.1, col) := flat_take_next HY.out
          rw [← hfl] at O7
          refine ⟨⟨(k + 1) + 1, w4.heap.size, rfl, by rw [HX.out], Hid.of ⟨O7, HLE.out, fun c => by omega, ⟨x4, t4, K7, F4.out⟩, by rw [HX.out]; exact Z.out, S4.out.size, (fun g hg c => by have := (O4.out.lt g hg).2; omega), S7⟩⟩, ?_⟩
          show leftOf p (set3 w6 w4.heap.size (.string s5) (.int .i64 ln5) (.int .i64 col5)) < leftOf p wr
          rw [K7.left, LW.out]
          exact s4
        · have q1 : (ln == z.2.1) = false := by rw [beq_eq_false_iff_ne]; exact hz
          have HLE : Hid (wLine l = k + 1) := Hid.of (by
            have h1 := I.out.le
            have h2 := HY.out
            rw [hl] at h1 h2 ⊢
            exact wLine_stop h1 h2 hz)
          clear hl
          go_wp2_with fail
          go_quiet (fail)
          go_wp2
          go_ret
          rw [HLE.out]
          exact ⟨_, b, rfl, I.out.drewN _⟩

end Go.Proofs.YtadepjpmpjipmaaGreatDoor

/-
  The landed package word keeps what chapter 7 says.
-/
namespace Go.Proofs.YtadepjpmpjipmaaGreatDoor
open Go.RowKit Go.Lib

/-- Words lie in one block. -/
def WdRep (w : World) (p : Nat) (l : List WdL) (F : Nat → Prop) : Prop := F = (fun k => k = p) ∧ ∃ x t, WdAt w p x t l ∧ WFirst t

theorem WdRep.next {w w' : World} {p : Nat} {l : List WdL} {F : Nat → Prop} (h : WdRep w p l F) (b : Below w.heap.size w w') : WdRep w' p l F := by
  obtain ⟨hF, x, t, k, f⟩ := h
  exact ⟨hF, x, t, k.below b, f⟩

theorem word_cut (t : ByteArray) (w : World) : Calls Tryz.prog 65 #[.string t] w (CutEnd WdRep t w) := by
  rcases Nat.lt_or_ge 4000 t.size with h | h
  · refine (cut_long t w h).mono ?_
    rintro e w' ⟨rfl, b⟩
    have hw : wCut t.data.toList = (none, 2, 0) := by unfold wCut; rw [if_pos (by rw [byte_len]; exact h)]
    unfold CutEnd
    rw [hw]
    exact ⟨b, rfl⟩
  · rcases Nat.lt_or_ge (wLen wMay t.data.toList) t.size with hk | hk
    · refine (cut_wrong t w h hk).mono ?_
      rintro e w' ⟨rfl, b⟩
      have hw := wCut_maynot (t := t.data.toList) (by rw [byte_len]; exact h) (by rw [byte_len]; exact hk)
      unfold CutEnd
      rw [hw]
      exact ⟨b, rfl⟩
    · have hk2 : wLen wMay t.data.toList = t.size := by
        have := wLen_le wMay t.data.toList
        rw [byte_len] at this
        omega
      refine (cut_right t w h hk2).mono ?_
      rintro e w' ⟨p, x, t', rfl, k, f, hp, b⟩
      have hw := wCut_may (t := t.data.toList) (by rw [byte_len]; exact h) (wMay_all (by rw [hk2, byte_len]))
      unfold CutEnd
      rw [hw]
      exact ⟨b, p, _, rfl, ⟨rfl, x, t', k, f⟩, fun j hj => by have hj2 : j = p := hj; omega⟩

def words : WordSpec where
  Rep := WdRep
  lt := by
    rintro w p l F ⟨rfl, x, t, k, f⟩ j rfl
    exact k.lt
  kept := by
    rintro w w' p l F ⟨rfl, x, t, k, f⟩ - hb
    exact ⟨rfl, x, t, k.kept (hb p rfl), f⟩
  cut t w _ := word_cut t w
  peek := by
    rintro w p l F ⟨rfl, x, t, k, f⟩ -
    exact peek_any w p x t l k f
  line := by
    rintro w p l F ⟨rfl, x, t, k, f⟩ hl
    refine (line_any w p x t l k f hl).mono ?_
    rintro e w' ⟨v, b, rfl, I⟩
    obtain ⟨x', t', k', f'⟩ := I.left
    exact ⟨v, rfl, I.row, _, ⟨rfl, x', t', k', f'⟩, I.step, fun g hg c => by have := (I.row.lt g hg).1; have := k.lt; simp only at c; omega, fun _ h => h⟩

set_option maxRecDepth 20000 in
set_option maxHeartbeats 3200000 in
theorem line_nil (w : World) :
    Calls Tryz.prog 112 #[.pointer none] w fun e w' => (∃ a c, e = .returned (.slice a 0 c)) ∧ Below w.heap.size w w' := by
  go_enter Tryz.func112, Tryz.ntmps112
  go_wp2_with fail
  refine (peek_nil w).mono ?_
  rintro e w2 ⟨rfl, b2⟩
  have B2 := Hid.of (b2.alloc b2.size (.cells #[.string ⟨#[]⟩, .int .i64 0, .int .i64 0] 118))
  clear b2
  simp only [wdVal]
  go_wp2_with fail
  go_loopw [3, 4, 5] (fun lv _ bv wr => lv = .slice none 0 0 ∧ bv = .bool false ∧ Hid (Below w.heap.size w wr)) (fun _ _ _ _ => 0)
  case atStart => exact ⟨rfl, rfl, B2⟩
  case round =>
    obtain ⟨rfl, rfl, B⟩ := hrel
    clear B2
    go_wp2_with fail
    go_quiet (fail)
    go_wp2
    go_ret
    exact ⟨⟨_, _, rfl⟩, below_drewN B.out _⟩

end Go.Proofs.YtadepjpmpjipmaaGreatDoor
