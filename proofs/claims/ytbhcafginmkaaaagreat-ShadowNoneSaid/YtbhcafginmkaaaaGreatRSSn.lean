/-
  Samples that came in, by value.
-/
import Derived.Test.YtbhcafginmkaaaaGreatN34
namespace Go.Proofs.YtbhcafginmkaaaaGreat
open Go.ChangeShapes Go.WideShapes Go.ChangeAt Go.RowKit Go.Lib

theorem smp_leaves : leaves Tryz.prog 2 159 = some [9, 3, 3] := by kernel_rfl
theorem smp_size : Tryz.prog.cellsOf 159 = 3 := by kernel_rfl

set_option maxRecDepth 20000 in
theorem smp_of_trod {H : Type} {enc : TypeId × Value → H} {W : World} {sp : Nat → Bool} {r : Reach} {b0 : Nat} {v : Value} {d : DataW H} {ps : List MemPlace} (hv : Value.okWide Tryz.prog W r b0 159 v)
    (h : DataW.Trod enc Tryz.prog W 0 sp true 159 v d ps) : ∃ a : ByteArray × Int × Int, v = .agg #[.string a.1, .int .i64 a.2.1, .int .i64 a.2.2] ∧ a.1.size ≤ maxLen ∧ In64 a.2.1 ∧ In64 a.2.2 := by
  obtain ⟨cs, rfl, hsz⟩ := okWide_struct Tryz.underlying159 hv
  obtain ⟨fuel, hf⟩ := h
  have hl : cs.toList.length = 3 := Array.length_toList.trans (hsz.trans smp_size)
  have hF := leaf_at 2 _ _ cs.toList fuel _ smp_leaves (by rw [smp_size]; omega) hf
  obtain ⟨n0, c0, w0⟩ := leaf_string Tryz.underlying9 (hF 0 _ rfl)
  obtain ⟨n1, c1, w1⟩ := leaf_int Tryz.underlying3 (hF 1 _ rfl)
  obtain ⟨n2, c2, w2⟩ := leaf_int Tryz.underlying3 (hF 2 _ rfl)
  refine ⟨(n0, n1, n2), ?_, w0, in64_of n1 w1, in64_of n2 w2⟩
  have e : cs.toList = [.string n0, .int .i64 n1, .int .i64 n2] := by
    match hcs : cs.toList, hl with
    | [x0, x1, x2], _ =>
      rw [hcs] at c0 c1 c2
      simp at c0 c1 c2
      rw [c0, c1, c2]
  rw [← Array.toArray_toList (xs := cs), e]

end Go.Proofs.YtbhcafginmkaaaaGreat
