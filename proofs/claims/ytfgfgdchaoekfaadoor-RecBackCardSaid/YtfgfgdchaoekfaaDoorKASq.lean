/-
  A Book's lists of samples (package sedimentbook): SameSamples and stillSamples, which only read.
-/
import Derived.Test.YtfgfgdchaoekfaaDoorQ16
import Derived.Test.YtfgfgdchaoekfaaDoorQ09
namespace Go.Proofs.YtfgfgdchaoekfaaDoor
open Go.RowKit Go.Lib

set_option maxRecDepth 20000 in
set_option maxHeartbeats 1600000 in
theorem SameSamples_quiet (u v : Value) (ss : List SamL) (w : World) (hu : CellRow w u ss.length (flat aenc ss)) (hv : CellRow w v ss.length (flat aenc ss)) (hn : ss.length ≤ 1000000) :
    Calls Tryd.prog 13 #[u, v] w fun e w' => e = .returned (.bool true) ∧ ∃ q, w' = w.drewN q := by
  have HU := Hid.of hu
  have HV := Hid.of hv
  obtain ⟨ua, uc, rfl, _⟩ := hu
  obtain ⟨va, vc, rfl, _⟩ := hv
  go_enter Tryd.func13, Tryd.ntmps13
  go_wp2
  go_loopw [5] (fun i wr => ∃ j : Nat, j ≤ ss.length ∧ i = .int .i64 j ∧ ∃ q, wr = w.drewN q) (fun i _ => ss.length - (RowKit.intOf i).toNat)
  case atStart => exact ⟨0, Nat.zero_le _, rfl, 0, rfl⟩
  case round =>
    obtain ⟨j, hj, rfl, q, rfl⟩ := hrel
    by_cases hlt : j < ss.length
    · obtain ⟨b1, o1, rfl, _, hc1⟩ := a_at HU.out j ss[j] (by simp [hlt])
      obtain ⟨b2, o2, rfl, _, hc2⟩ := a_at HV.out j ss[j] (by simp [hlt])
      generalize ss[j] = x at hc1 hc2
      obtain ⟨x0, x1, x2⟩ := x
      obtain ⟨c0, c1, c2⟩ := hc1
      obtain ⟨d0, d1, d2⟩ := hc2
      simp only at c0 d0 c1 d1 c2 d2
      have he0 : (x0.toList == x0.toList) = true := beq_self_eq_true _
      have i0 : (0 : Int) ≤ (j : Int) := Int.natCast_nonneg _
      have i1 : (j : Int) < (ss.length : Int) := by omega
      clear HU HV
      go_wp2
      go_quiet (fail)
      go_wp2
      go_roundw
      case rel => exact ⟨j + 1, by omega, by go_num, _, rfl⟩
      case measure => simp [RowKit.intOf]; omega
    · go_wp2
      go_ret
      exact ⟨rfl, q, rfl⟩

end Go.Proofs.YtfgfgdchaoekfaaDoor
