/-
  ViewOrder: the order in which samples came does not matter; samples that no tier has any more change nothing.
-/
import Derived.StillTailTactics
import Derived.Deep.MidRow
import Derived.Test.YtdhkmcmipkfkjaaVLTr
import Derived.Test.YtdhkmcmipkfkjaaR15
import Derived.Test.YtdhkmcmipkfkjaaR12
import Derived.Test.YtdhkmcmipkfkjaaR10
import Derived.Test.YtdhkmcmipkfkjaaR02
import Derived.Test.YtdhkmcmipkfkjaaR08
namespace Go.Proofs.Ytdhkmcmipkfkjaa
open Go.RowKit Go.Lib

/-- What came in: a policy and a sample in variables. -/
structure PM (S : ReachSpec) (B : Nat) (n : ByteArray) (sl : Value) (p : PolL) (mn : ByteArray) (mt mx : Int) (w0 w : World) : Prop where
  pv : PV S B n sl p w0 w
  km : w.heap[B + 1]? = some (.cells #[.string mn, .int .i64 mt, .int .i64 mx] 28 (0, 0))

section
variable {S : ReachSpec} {B : Nat} {n : ByteArray} {sl : Value} {p : PolL} {mn : ByteArray} {mt mx : Int} {w0 w w' : World}
theorem PM.next (h : PM S B n sl p mn mt mx w0 w) (b : Below w.heap.size w w') : PM S B n sl p mn mt mx w0 w' := ⟨h.pv.next b, (b.block _ (Array.getElem?_eq_some_iff.1 h.km).1).trans h.km⟩
theorem PM.sat (h : PM S B n sl p mn mt mx w0 w) : w.cell? ⟨B + 1, 0, none⟩ = some (.string mn) ∧ w.cell? ⟨B + 1, 1, none⟩ = some (.int .i64 mt) ∧ w.cell? ⟨B + 1, 2, none⟩ = some (.int .i64 mx) := by
  refine ⟨?_, ?_, ?_⟩ <;> (rw [cell_of_row w (B + 1) _ _ _ _ h.km]; rfl)
end

/-- .. and the reach in a variable. -/
structure OZ (S : ReachSpec) (B : Nat) (n : ByteArray) (sl : Value) (p : PolL) (mn : ByteArray) (mt mx : Int) (w0 : World) (z : Nat) (now : Int) (s f : Value) (w : World) : Prop where
  pm : PM S B n sl p mn mt mx w0 w
  rh : RH S w0 z now n s f (now, p, []) w

section
variable {S : ReachSpec} {B z : Nat} {n : ByteArray} {sl s f : Value} {p : PolL} {mn : ByteArray} {mt mx now : Int} {w0 w w' : World}
theorem OZ.next (h : OZ S B n sl p mn mt mx w0 z now s f w) (b : Below w.heap.size w w') : OZ S B n sl p mn mt mx w0 z now s f w' := ⟨h.pm.next b, h.rh.next b⟩
theorem OZ.ok (h : OZ S B n sl p mn mt mx w0 z now s f w) : S.Ok w := h.rh.ok
theorem OZ.x (h : OZ S B n sl p mn mt mx w0 z now s f w) : RchRow w (.agg #[.int .i64 now, .string n, s, f]) (now, p, []) := h.rh.x
theorem OZ.cs2 (h : OZ S B n sl p mn mt mx w0 z now s f w) : Cs w [(⟨z, 0, none⟩, .int .i64 now), (⟨z, 1, none⟩, .string n), (⟨z, 2, none⟩, s), (⟨z, 3, none⟩, f), (⟨B + 1, 0, none⟩, .string mn), (⟨B + 1, 1, none⟩, .int .i64 mt), (⟨B + 1, 2, none⟩, .int .i64 mx)] := by
  obtain ⟨c0, c1, c2, c3⟩ := h.rh.at
  obtain ⟨e0, e1, e2⟩ := h.pm.sat
  have l1 := (Array.getElem?_eq_some_iff.1 h.rh.k).1
  have l2 := (Array.getElem?_eq_some_iff.1 h.pm.km).1
  exact .cons l1 c0 (.cons l1 c1 (.cons l1 c2 (.cons l1 c3 (.cons l2 e0 (.cons l2 e1 (.cons l2 e2 (.nil _)))))))
theorem OZ.cs (h : OZ S B n sl p mn mt mx w0 z now s f w) : Cs w [(⟨z, 0, none⟩, .int .i64 now), (⟨z, 1, none⟩, .string n), (⟨z, 2, none⟩, s), (⟨z, 3, none⟩, f)] := by
  obtain ⟨c0, c1, c2, c3⟩ := h.rh.at
  have l1 := (Array.getElem?_eq_some_iff.1 h.rh.k).1
  exact .cons l1 c0 (.cons l1 c1 (.cons l1 c2 (.cons l1 c3 (.nil _))))
end

/-- What All answers, told of each tier. -/
structure AllRow (w : World) (u : Value) (us : List Value) (r : RchL) (ss : List SamL) : Prop where
  o : CellRow w u us.length us
  i : ∀ (k : Nat) x, us[k]? = some x → ∃ a c, x = .slice a (vT r (k : Int) ss).length c ∧ CellRow w x (vT r (k : Int) ss).length (flat renc ((vT r (k : Int) ss).map rl))

theorem AllRow.of {D : Nat} {w : World} {u : Value} {us : List Value} {r : RchL} {ss : List SamL} (h : Bag D w (oRow u us :: vRows r ss us) []) : AllRow w u us r ss :=
  ⟨own_row (h.own _ (List.mem_cons_self ..)), fun k x hx => by
    have o := h.own _ (List.mem_cons_of_mem _ (vRows_at (r := r) (ss := ss) hx))
    obtain ⟨a, c, e, -⟩ := own_one o
    have rw_ := own_row o
    simp only at e rw_
    rw [tflat] at rw_
    exact ⟨a, c, e, rw_⟩⟩
theorem AllRow.kept {w w' : World} {u : Value} {us : List Value} {r : RchL} {ss : List SamL} (h : AllRow w u us r ss) (b : Below w.heap.size w w') : AllRow w' u us r ss :=
  ⟨h.o.kept b, fun k x hx => by
    obtain ⟨a, c, e, k⟩ := h.i k x hx
    exact ⟨a, c, e, k.kept b⟩⟩

end Go.Proofs.Ytdhkmcmipkfkjaa
