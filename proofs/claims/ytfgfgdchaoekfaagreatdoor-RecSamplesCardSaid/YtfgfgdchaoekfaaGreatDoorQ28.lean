/-
  A bundle of texts: RSO.
-/
import Derived.Test.YtfgfgdchaoekfaaGreatDoorQ24
import Derived.Test.YtfgfgdchaoekfaaGreatDoorQ26
namespace Go.Proofs.YtfgfgdchaoekfaaGreatDoor
open Go.ChangeShapes Go.WideShapes Go.ChangeAt Go.RowKit Go.Lib

theorem smp_leaves : leaves Tryz.prog 2 107 = some [9, 3, 3] := by kernel_rfl
theorem smp_size : Tryz.prog.cellsOf 107 = 3 := by kernel_rfl

theorem smps_of_trod {H : Type} {enc : TypeId × Value → H} {W : World} {sp : Nat → Bool} {a : Option Addr} {len cap : Nat} {d : DataW H} {ps : List MemPlace} (h : DataW.Trod enc Tryz.prog W 0 sp true 52 (.slice a len cap) d ps) :
    ∃ ss : List SamL, ss.length = len ∧ CellRow W (.slice a len cap) ss.length (flat aenc ss) ∧ ∀ s ∈ ss, SmIn s := by
  obtain ⟨l, hl, hr, hi⟩ : ∃ l : List SamL, l.length = len ∧ CellRow W (.slice a len cap) len (flat aenc l) ∧ ∀ x ∈ l, SmIn x :=
    rows_of_trod Tryz.underlying52 smp_size (by decide) aenc_len SmIn (⟨#[]⟩, 0, 0) (fun fuel cs x hl hx => by
      have hF := leaf_at 2 _ _ cs fuel x smp_leaves (by rw [smp_size]; omega) hx
      obtain ⟨n0, c0, w0⟩ := leaf_string Tryz.underlying9 (hF 0 _ rfl)
      obtain ⟨n1, c1, w1⟩ := leaf_int Tryz.underlying3 (hF 1 _ rfl)
      obtain ⟨n2, c2, w2⟩ := leaf_int Tryz.underlying3 (hF 2 _ rfl)
      refine ⟨(n0, n1, n2), ?_, w0, tin64_of n1 w1, tin64_of n2 w2⟩
      match cs, hl with
      | [x0, x1, x2], _ =>
        simp at c0 c1 c2
        subst c0 c1 c2
        rfl) h
  exact ⟨l, hl, by rw [hl]; exact hr, hi⟩

end Go.Proofs.YtfgfgdchaoekfaaGreatDoor
