/-
  A Book's lists of samples (package sedimentbook): SameSamples and stillSamples, which only read.
-/
import Derived.Test.YtfgfgdchaoekfaaGreatDoorQ16
import Derived.Test.YtfgfgdchaoekfaaGreatDoorQ09
namespace Go.Proofs.YtfgfgdchaoekfaaGreatDoor
open Go.RowKit Go.Lib

set_option maxRecDepth 20000 in
set_option maxHeartbeats 1600000 in
theorem SameSamples_quiet (u v : Value) (ss : List SamL) (w : World) (hu : CellRow w u ss.length (flat aenc ss)) (hv : CellRow w v ss.length (flat aenc ss)) (hn : ss.length ≤ 1000000) :
    Calls Tryz.prog 25 #[u, v] w fun e w' => e = .returned (.bool true) ∧ ∃ q, w' = w.drewN q := by
  have HU := Hid.of hu
  have HV := Hid.of hv
  obtain ⟨ua, uc, rfl, _⟩ := hu
  obtain ⟨va, vc, rfl, _⟩ := hv
  go_enter Tryz.func25, Tryz.ntmps25
  go_wp2
  go_loopw [5] (fun i wr => ∃ j : Nat, j ≤ ss.length ∧ i = .int .i64 j ∧ ∃ q, wr = w.drewN q) (fun i _ => ss.length - (RowKit.intOf i).toNat)
  case atStart => exact ⟨0, Nat.zero_le _, rfl, 0, rfl⟩
  case round =>
    obtain ⟨j, hj, rfl, q, rfl⟩ := hrel
    by_cases hlt : j < ss.length
    · obtain ⟨b1, o1, rfl, _, hc1⟩ := a_at HU.out j ss[j] (by simp [hlt])
      obtain ⟨b2, o2, rfl, _, hc2⟩ := a_at HV.out j ss[j] (by simp [hlt])
      generalize ss[j] = x at hc1 hc2
      obtain ⟨x0, x1, x2⟩ := x
      obtain ⟨c0, c1, c2⟩ := hc1
      obtain ⟨d0, d1, d2⟩ := hc2
      simp only at c0 d0 c1 d1 c2 d2
      have he0 : (x0.toList == x0.toList) = true := beq_self_eq_true _
      have i0 : (0 : Int) ≤ (j : Int) := Int.natCast_nonneg _
      have i1 : (j : Int) < (ss.length : Int) := by omega
      clear HU HV
      go_wp2
      go_quiet (fail)
      go_wp2
      go_roundw
      case rel => exact ⟨j + 1, by omega, by go_num, _, rfl⟩
      case measure => simp [RowKit.intOf]; omega
    · go_wp2
      go_ret
      exact ⟨rfl, q, rfl⟩

/-- The lists of ints that a Book keeps and their copies: each pair holds the same numbers. -/
def PairsA (w : World) (ls : List (Value × Value × List SamL)) : Prop := ∀ x ∈ ls, CellRow w x.1 x.2.2.length (flat aenc x.2.2) ∧ CellRow w x.2.1 x.2.2.length (flat aenc x.2.2) ∧ x.2.2.length ≤ 1000000

set_option maxHeartbeats 400000 in
theorem stillSamples_any (p : Nat) (V W : Value) (ls : List (Value × Value × List SamL)) (w : World) (h2 : w.cell? ⟨p, 6, none⟩ = some V) (h3 : w.cell? ⟨p, 7, none⟩ = some W)
    (hV : CellRow w V ls.length (ls.map (·.1))) (hW : CellRow w W ls.length (ls.map (·.2.1))) (hp : PairsA w ls) (hn : ls.length ≤ 1000) :
    Calls Tryz.prog 48 #[.pointer (some ⟨p, 0, none⟩)] w fun e w' => e = .returned (.bool true) ∧ ∃ q, w' = w.drewN q := by
  have HV := Hid.of hV
  have HW := Hid.of hW
  have HP := Hid.of hp
  clear hp
  obtain ⟨va, vc, rfl, _⟩ := hV
  obtain ⟨wa, wc, rfl, _⟩ := hW
  go_enter Tryz.func48, Tryz.ntmps48
  go_wp2
  go_loopw [3] (fun i wr => ∃ j : Nat, j ≤ ls.length ∧ i = .int .i64 j ∧ ∃ q, wr = w.drewN q) (fun i _ => ls.length - (RowKit.intOf i).toNat)
  case atStart => exact ⟨0, Nat.zero_le _, rfl, 0, rfl⟩
  case round =>
    obtain ⟨j, hj, rfl, q, rfl⟩ := hrel
    by_cases hlt : j < ls.length
    · obtain ⟨b1, o1, rfl, hl1, hc1⟩ := HV.out.at j ls[j].1 (by simp [hlt])
      obtain ⟨b2, o2, rfl, hl2, hc2⟩ := HW.out.at j ls[j].2.1 (by simp [hlt])
      have hx := HP.out ls[j] (List.getElem_mem hlt)
      generalize ls[j] = x at *
      obtain ⟨u, v, ss⟩ := x
      simp only at hc1 hc2 hx
      have HX := Hid.of hx
      have i0 : (0 : Int) ≤ (j : Int) := Int.natCast_nonneg _
      have i1 : (j : Int) < (ls.length : Int) := by omega
      clear hx HV HW HP hl1 hl2
      go_wp2
      go_quiet ((go_at_call 25; exact quiet_more (SameSamples_quiet u v ss _ (CellRow.drewN HX.out.1 _) (CellRow.drewN HX.out.2.1 _) HX.out.2.2)))
      go_wp2
      go_roundw
      case rel => exact ⟨j + 1, by omega, by go_num, _, rfl⟩
      case measure => simp [RowKit.intOf]; omega
    · go_wp2
      go_ret
      exact ⟨rfl, q, rfl⟩

end Go.Proofs.YtfgfgdchaoekfaaGreatDoor
