/-
  What a walk with a Book wants: structs put together, tiers that are lent, variables as rows of one's own.
-/
import Derived.Test.YtfbgjoildibikaaQ16
import Derived.Test.YtfbgjoildibikaaQ21
import Derived.Test.YtfbgjoildibikaaKPHq
namespace Go.Proofs.Ytfbgjoildibikaa
open Go.RowKit Go.Lib

section
variable {P : Program}

/-- A struct put together, its cells said. -/
theorem wpList_builtP {ops : Array Oper} {rest : List Oper} {o : Oper} {a : Act} {w : World} {Q : Exit → Act → World → Prop} (hg : o.guard = none) (t : TypeId) (ps : List (Nat × Operand)) (ho : o.op = .build t ps.toArray)
    (cs : Array Value) (hc : P.built t (ps.map fun x => (x.1, a.eval x.2)) = some cs)
    (h : wpList P ops Q rest (a.put o.dst (.agg cs)) w) : wpList P ops Q (o :: rest) a w := by
  have e : P.built t (ps.toArray.map fun (i, x) => (i, a.eval x)).toList = some cs := by
    rw [← hc]
    congr 1
    simp
  exact wpList_build hg t ps.toArray ho (by rw [e]; rfl) (by rw [e]; exact h)

/-- A variable on the heap, its cells said. -/
theorem wpList_boxedP {ops : Array Oper} {rest : List Oper} {o : Oper} {a : Act} {w : World} {Q : Exit → Act → World → Prop} (hg : o.guard = none) (t : TypeId) (x : Operand) (ho : o.op = .box t x)
    (cs : Array Value) (hx : (a.eval x).cells = cs)
    (h : wpList P ops Q rest (a.put o.dst (.pointer (some ⟨w.heap.size, 0, none⟩))) (w.alloc (.cells cs t))) : wpList P ops Q (o :: rest) a w :=
  wpList_plain hg fun K hK => by
    unfold Oper.wp execOp
    simp only [ho, Instr.box, newVar, newRow, run_newObj_alloc, Sem.run_bind, Sem.run_pure, Result.andThen_ok, hx]
    exact hK _ _ h
end

set_option maxHeartbeats 400000 in
theorem LentTiers_own (v : Value) (l : List TierL) (w : World) (hv : CellRow w v l.length (flat penc l)) (hn : l.length ≤ 1000000) :
    Calls Try.prog 12 #[v] w fun e w' => ∃ g cap, e = .returned (.slice (some ⟨g, 0, none⟩) l.length cap) ∧ w'.ownsRow w.heap.size 63 4 (.slice (some ⟨g, 0, none⟩) (l.length + 1) cap) (l.length + 1) (flat penc (l ++ [tMark])) ∧ Below w.heap.size w w' := by
  have HC := Hid.of hv
  obtain ⟨sa, c, rfl, _⟩ := hv
  obtain ⟨i0, hi, hz0, hz1, hz2⟩ := info_parts (show (Try.prog.info? 63).map (fun i => (i.zero, i.size, i.bytes)) = some (some (.agg #[.string ⟨#[]⟩, .int .i64 0, .int .i64 0, .int .i64 0]), 4, 40) by kernel_rfl)
  have HI := Hid.of hi
  have HZ0 := Hid.of hz0
  have HZ1 := Hid.of hz1
  have HZ2 := Hid.of hz2
  clear hi hz0 hz1 hz2
  go_enter Try.func12, Try.ntmps12
  go_wp2_with (first | (at_builtin; refine append_row_law rfl _ (.tmp 3) 22 rfl w.heap.size 63 i0 (.agg #[.string ⟨#[]⟩, .int .i64 0, .int .i64 0, .int .i64 0]) 4 40 Try.underlying22 HI.out HZ0.out HZ1.out HZ2.out rfl (by decide) (.slice none 0 0) 0 [] rfl ⟨rfl, .inl ⟨rfl, rfl⟩⟩ _ l.length _ rfl HC.out (flat_length penc_len l) (flat_ones penc_one l) (by unfold maxLen; omega) (by omega) (Nat.le_refl _) ?_; intro v1 w1 o1 g1; have O1 : Hid (w1.ownsRow w.heap.size 63 4 v1 l.length (flat penc l)) := Hid.of (by simpa using o1); have b1 : Below w.heap.size w w1 := below_of_none g1; clear o1 g1) | (at_builtin; refine append_row_law rfl (.tmp 4) (.tmp 6) 22 rfl w.heap.size 63 i0 (.agg #[.string ⟨#[]⟩, .int .i64 0, .int .i64 0, .int .i64 0]) 4 40 Try.underlying22 HI.out HZ0.out HZ1.out HZ2.out rfl (by decide) v1 l.length _ rfl (O1.out.alloc _) (.slice (some ⟨w1.heap.size, 0, none⟩) 1 1) 1 (penc tMark) rfl ⟨_, _, rfl, .inr ⟨_, 0, rfl, by simp, new_cells w1 _ _⟩⟩ rfl (penc_one tMark) (by unfold maxLen; omega) (by omega) (by simp; have := b1.size; omega) ?_; intro v2 w2 o2 g2; have o3 := o2; obtain ⟨hl2, h2⟩ := o2; obtain ⟨g, cap, cur, rfl, hB, hrow, hcap, hmax, hcs, htk⟩ := h2.resolve_left (by simp)))
  go_ret
  have ef : flat penc (l ++ [tMark]) = flat penc l ++ penc tMark := by rw [flat_append, flat_one]
  exact ⟨g, cap, rfl, by rw [ef]; exact o3, (b1.alloc b1.size _).grown g2 (by have := b1.size; simp; omega) (fun k hk => own_ge O1.out hk)⟩

/-- A variable that holds a policy, as a row of one's own. -/
theorem var_own (w : World) (n : ByteArray) (s : Value) : (w.alloc (.cells #[.string n, s] 24)).ownsRow w.heap.size 24 2 (.slice (some ⟨w.heap.size, 0, none⟩) 1 1) 1 [.string n, s] :=
  ⟨rfl, .inr ⟨w.heap.size, 1, #[.string n, s], rfl, Nat.le_refl _, Go.heap_alloc_new _ _, Nat.le_refl _, by unfold maxLen; omega, rfl, rfl⟩⟩

theorem var_blk {w : World} {D b : Nat} {n : ByteArray} {s : Value} (h : w.ownsRow D 24 2 (.slice (some ⟨b, 0, none⟩) 1 1) 1 [.string n, s]) : PBlk w b n s := by
  rcases h.2 with ⟨h1, _⟩ | ⟨g, cap, cur, hv, hb, hg, hnc, hcm, hcs, htk⟩
  · cases h1
  · cases hv
    have e : cur.toList = [.string n, s] := by
      rw [← htk, List.take_of_length_le (by rw [Array.length_toList, hcs]; omega)]
    have e2 : cur = #[.string n, s] := Array.ext' (by rw [e])
    rw [e2] at hg
    exact hg

/-- Lent tiers, out of the row of one's own that they lie in. -/
theorem lent_of {w : World} {D g cap : Nat} {l : List TierL} (h : w.ownsRow D 63 4 (.slice (some ⟨g, 0, none⟩) (l.length + 1) cap) (l.length + 1) (flat penc (l ++ [tMark]))) : LentRow w D (.slice (some ⟨g, 0, none⟩) l.length cap) l.length (flat penc l) (penc tMark) := by
  have ef : flat penc (l ++ [tMark]) = flat penc l ++ penc tMark := by rw [flat_append, flat_one]
  rw [ef] at h
  rcases h.2 with ⟨h1, _⟩ | ⟨g', cap', cur, hv, hB, hrow, hcap, hmax, hcs, htk⟩
  · cases h1
  · cases hv
    refine ⟨g, cap, rfl, hB, (Array.getElem?_eq_some_iff.1 hrow).1, hcap, hmax, fun j u hj => ?_⟩
    rw [Nat.zero_add, cell_of_row w g j _ _ _ hrow]
    rw [← htk] at hj
    rw [List.getElem?_take] at hj
    split at hj
    · simpa using hj
    · cases hj

/-- A cell of the first row is set. -/
theorem Here.put {p D : Nat} {cs : Array Value} {T : TypeId} {w0 w : World} {rs : List Row1} {e : TypeId} {s g k c : Nat} {xs : List Value} (h : Here p D cs T w0 w (⟨e, s, .slice (some ⟨g, 0, none⟩) k c, k, xs⟩ :: rs) []) (o : Nat) (v : Value) :
    Here p D cs T w0 (w.setCell ⟨g, o, none⟩ v) (⟨e, s, .slice (some ⟨g, 0, none⟩) k c, k, xs.set o v⟩ :: rs) [] := by
  have own : w.ownsRow D e s (.slice (some ⟨g, 0, none⟩) k c) k xs := h.bag.own _ (List.mem_cons_self ..)
  obtain ⟨o1, g1⟩ := own.stored o v
  have hg : D ≤ g := (own.lt g rfl).1
  have hp := h.hp
  have hD := h.hD
  refine ⟨hp, Nat.le_trans hD g1.size, ?_, h.fr.grown g1 (by omega) (fun x hx => by cases hx; omega), h.bag.grow (r := ⟨e, s, .slice (some ⟨g, 0, none⟩) k c, k, xs⟩) g1 o1 (.inl rfl)⟩
  rw [g1.block p (by omega) (fun e => by have := Option.some.inj e; omega)]
  exact h.blk

end Go.Proofs.Ytfbgjoildibikaa
