/-
  Marked lists of records (package sedimentbook): markedRecords.
-/
import Derived.Deep.RegionHeld3
import Derived.Test.YtfgfgdchaoekfaaGreatDoorQ16
import Derived.Test.YtfgfgdchaoekfaaGreatDoorQ09
namespace Go.Proofs.YtfgfgdchaoekfaaGreatDoor
open Go.RowKit Go.Lib

theorem SameRecords_named (u v : Value) (ss : List RecL) (n : Nat) (hl : ss.length = n) (w : World) (hu : CellRow w u n (flat renc ss)) (hv : CellRow w v n (flat renc ss)) (hn : n ≤ 1000000) :
    Calls Tryz.prog 13 #[u, v] w fun e w' => e = .returned (.bool true) ∧ ∃ q, w' = w.drewN q := by
  subst hl
  exact SameRecords_quiet u v ss w hu hv hn

/-- Lists of ints, each with its own marks. -/
def MarkedR (w : World) (ls : List (Value × Nat)) : Prop := ∀ (i : Nat) (x : Value × Nat), ls[i]? = some x → CellRow w x.1 x.2 (flat renc (rmarks i 0 x.2)) ∧ x.2 ≤ 1000000

set_option maxHeartbeats 800000 in
theorem markedRecords_any (L : Value) (ls : List (Value × Nat)) (w : World) (hL : CellRow w L ls.length (ls.map (·.1))) (hm : MarkedR w ls) (hn : ls.length ≤ 1000) :
    Calls Tryz.prog 71 #[L] w fun e w' => e = .returned (.bool true) ∧ Below w.heap.size w w' := by
  have HL := Hid.of hL
  have HM := Hid.of hm
  clear hm
  obtain ⟨la, lc, rfl, _⟩ := hL
  go_enter Tryz.func71, Tryz.ntmps71
  go_wp2
  go_loopw [3] (fun i wr => ∃ j : Nat, j ≤ ls.length ∧ i = .int .i64 j ∧ Below w.heap.size w wr) (fun i _ => ls.length - (RowKit.intOf i).toNat)
  case atStart => exact ⟨0, Nat.zero_le _, rfl, Below.refl _ _⟩
  case round =>
    obtain ⟨j, hj, rfl, hb⟩ := hrel
    by_cases hlt : j < ls.length
    · obtain ⟨b1, o1, rfl, hl1, hc1⟩ := HL.out.at j ls[j].1 (by simp [hlt])
      have hx := HM.out j ls[j] (by simp [hlt])
      generalize ls[j] = x at *
      obtain ⟨u, m⟩ := x
      simp only at hc1 hx
      obtain ⟨ua, uc, rfl, _⟩ := hx.1
      have q0 : wr.cell? ⟨b1, o1 + j, none⟩ = some (.slice ua m uc) := by rw [hb.cell hl1]; exact hc1
      have HX := Hid.of hx
      have HC := Hid.of hc1
      have HB := Hid.of hb
      have i0 : (0 : Int) ≤ (j : Int) := Int.natCast_nonneg _
      have i1 : (j : Int) < (ls.length : Int) := by omega
      clear hx HL HM hc1 hb
      go_wp2
      go_region_held3 (fun w' => w'.cell? ⟨b1, o1 + j, none⟩ = some (.slice ua m uc)) (go_keep) (first | (go_at_call 13; refine (SameRecords_named _ _ (rmarks j 0 m) m (rmarks_length j 0 m) _ (HX.out.1.kept C3.out) OM.out HX.out.2).mono ?_; rintro e' n4 ⟨rfl, q4, rfl⟩) | (go_at_call 110; refine (markRecords_any j 0 m (by omega) (by omega) HX.out.2 _).mono ?_; rintro e' n3 ⟨mv, rfl, om, c3⟩; have C3 := Hid.of (HB.out.drew.trans (c3.mono HB.out.drew.size)); have OM := Hid.of (own_row om); clear c3 om q0; have q0 : n3.cell? ⟨b1, o1 + j, none⟩ = some (.slice ua m uc) := (by rw [C3.out.cell hl1]; exact HC.out)))
      all_goals
        go_wp2
        go_roundw
        case rel => exact ⟨j + 1, by omega, by go_num, below_drewN C3.out _⟩
        case measure => simp [RowKit.intOf]; omega
    · go_wp2
      go_ret
      exact ⟨rfl, hb⟩

end Go.Proofs.YtfgfgdchaoekfaaGreatDoor
