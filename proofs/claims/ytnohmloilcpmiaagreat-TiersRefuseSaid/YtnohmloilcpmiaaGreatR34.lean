/-
  A bundle of texts: POI RCV TRS RSS.
-/
import Derived.Deep.RegionHeld3
import Derived.Test.YtnohmloilcpmiaaGreatR20
import Derived.Test.YtnohmloilcpmiaaGreatR29
import Derived.Test.YtnohmloilcpmiaaGreatR18
import Derived.Test.YtnohmloilcpmiaaGreatR10
namespace Go.Proofs.YtnohmloilcpmiaaGreat
open Go.ChangeShapes Go.WideShapes Go.ChangeAt Go.RowKit Go.Lib

theorem in64_of (n : Int) (h : (Lit.int .i64 n).wf = true) : In64 n := int_bounds h

theorem cap_of_trod {H : Type} {enc : TypeId × Value → H} {P : Program} {W : World} {sp : Nat → Bool} {ty e : TypeId} {a : Option Addr} {len cap : Nat} {d : DataW H} {ps : List MemPlace} (ht : P.underlying ty = some (.slice e)) (h : DataW.Trod enc P W 0 sp true ty (.slice a len cap) d ps) : CapOk (.slice a len cap) := by
  obtain ⟨fuel, hf⟩ := h
  rcases DataW.trod_slice ht hf with ⟨h1, _⟩ | ⟨a', len', cap', elems, rest, n, _, h1, _, _, h2, _⟩
  · simp [Value.cells] at h1
    obtain ⟨_, rfl, rfl⟩ := h1
    exact Nat.le_refl _
  · simp [Value.cells] at h1
    obtain ⟨_, rfl, rfl⟩ := h1
    exact h2

end Go.Proofs.YtnohmloilcpmiaaGreat

namespace Go.Proofs.YtnohmloilcpmiaaGreat
open Go.RowKit Go.Lib

theorem rFind_some {r : RchL} {f : Int} : ∀ (j k i : Nat), rFind r f k j = some i → k ≤ i ∧ i < k + j ∧ rFromN r i ≤ f ∧ ∀ m, k ≤ m → m < i → f < rFromN r m
  | 0, k, i, h => by cases h
  | j + 1, k, i, h => by
    rw [rFind] at h
    split at h
    · rename_i hc
      cases h
      exact ⟨Nat.le_refl _, by omega, hc, fun m h1 h2 => by omega⟩
    · rename_i hc
      obtain ⟨h1, h2, h3, h4⟩ := rFind_some j (k + 1) i h
      refine ⟨by omega, by omega, h3, fun m m1 m2 => ?_⟩
      by_cases e : m = k
      · subst e
        omega
      · exact h4 m (by omega) m2

theorem rFind_none {r : RchL} {f : Int} : ∀ (j k : Nat), rFind r f k j = none → ∀ m, k ≤ m → m < k + j → f < rFromN r m
  | 0, k, _, m, h1, h2 => by omega
  | j + 1, k, h, m, h1, h2 => by
    rw [rFind] at h
    split at h
    · cases h
    · rename_i hc
      by_cases e : m = k
      · subst e
        omega
      · exact rFind_none j (k + 1) h m (by omega) (by omega)

/-- The tier that covers a time. -/
theorem cover_some {r : RchL} (f : Int) (h : 0 < r.2.1.2.length) : ∃ c : Nat, rCover r f = (c : Int) ∧ c < r.2.1.2.length ∧ (∀ m, m < c → f < rFromN r m) ∧ (c + 1 < r.2.1.2.length → rFromN r c ≤ f) := by
  unfold rCover
  split
  · rename_i k hk
    obtain ⟨h1, h2, h3, h4⟩ := rFind_some _ _ _ hk
    exact ⟨k, rfl, by omega, fun m hm => h4 m (Nat.zero_le _) hm, fun _ => h3⟩
  · rename_i hk
    have h1 := rFind_none _ _ hk
    exact ⟨r.2.1.2.length - 1, by omega, by omega, fun m hm => h1 m (Nat.zero_le _) (by omega), fun hc => by omega⟩

theorem rFrom_nat (r : RchL) (j : Nat) : rFrom r (j : Int) = rFromN r j := by
  unfold rFrom
  rw [if_neg (by omega)]
  rfl

section
variable {S : ReachSpec} {w0 w w' : World} {b4 b6 b9 : Nat} {n sn : ByteArray} {sl s f : Value} {t x now : Int} {r : RchL}
end

end Go.Proofs.YtnohmloilcpmiaaGreat

namespace Go.Proofs.YtnohmloilcpmiaaGreat
open Go.ChangeShapes Go.WideShapes Go.ChangeAt Go.RowKit Go.Lib

theorem tin64_of (n : Int) (h : (Lit.int .i64 n).wf = true) : TIn64 n := int_bounds h

end Go.Proofs.YtnohmloilcpmiaaGreat

namespace Go.Proofs.YtnohmloilcpmiaaGreat
open Go.ChangeShapes Go.WideShapes Go.ChangeAt Go.RowKit Go.Lib

theorem smp_leaves : leaves Tryz.prog 2 23 = some [9, 3, 3] := by kernel_rfl
theorem smp_size : Tryz.prog.cellsOf 23 = 3 := by kernel_rfl

set_option maxRecDepth 20000 in
theorem smp_of_trod {H : Type} {enc : TypeId × Value → H} {W : World} {sp : Nat → Bool} {r : Reach} {b0 : Nat} {v : Value} {d : DataW H} {ps : List MemPlace} (hv : Value.okWide Tryz.prog W r b0 23 v)
    (h : DataW.Trod enc Tryz.prog W 0 sp true 23 v d ps) : ∃ a : ByteArray × Int × Int, v = .agg #[.string a.1, .int .i64 a.2.1, .int .i64 a.2.2] ∧ a.1.size ≤ maxLen ∧ In64 a.2.1 ∧ In64 a.2.2 := by
  obtain ⟨cs, rfl, hsz⟩ := okWide_struct Tryz.underlying23 hv
  obtain ⟨fuel, hf⟩ := h
  have hl : cs.toList.length = 3 := Array.length_toList.trans (hsz.trans smp_size)
  have hF := leaf_at 2 _ _ cs.toList fuel _ smp_leaves (by rw [smp_size]; omega) hf
  obtain ⟨n0, c0, w0⟩ := leaf_string Tryz.underlying9 (hF 0 _ rfl)
  obtain ⟨n1, c1, w1⟩ := leaf_int Tryz.underlying3 (hF 1 _ rfl)
  obtain ⟨n2, c2, w2⟩ := leaf_int Tryz.underlying3 (hF 2 _ rfl)
  refine ⟨(n0, n1, n2), ?_, w0, in64_of n1 w1, in64_of n2 w2⟩
  have e : cs.toList = [.string n0, .int .i64 n1, .int .i64 n2] := by
    match hcs : cs.toList, hl with
    | [x0, x1, x2], _ =>
      rw [hcs] at c0 c1 c2
      simp at c0 c1 c2
      rw [c0, c1, c2]
  rw [← Array.toArray_toList (xs := cs), e]

end Go.Proofs.YtnohmloilcpmiaaGreat
