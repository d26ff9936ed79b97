/-
  A bundle of texts: BKM.
-/
import Derived.Deep.RegionHeld3
import Derived.Test.YtdchjcidfaencaaGreatQ08
namespace Go.Proofs.YtdchjcidfaencaaGreat
open Go.RowKit Go.Lib

theorem own_cells {w : World} {B : Nat} {e : TypeId} {v : Value} {n : Nat} {xs : List Value} (h : w.ownsRow B e 1 v n xs) : CellRow w v n xs := by
  obtain ⟨hl, h⟩ := h
  rcases h with ⟨rfl, rfl⟩ | ⟨g, cap, cur, rfl, hB, hrow, hcap, hmax, hcs, htk⟩
  · exact ⟨none, 0, rfl, .inl (by simpa using hl)⟩
  · refine ⟨_, _, rfl, .inr ⟨g, 0, rfl, (Array.getElem?_eq_some_iff.1 hrow).1, fun j u hj => ?_⟩⟩
    rw [Nat.zero_add, cell_of_row w g j _ _ _ hrow]
    rw [← htk, List.getElem?_take] at hj
    split at hj
    · simpa using hj
    · cases hj

theorem SameInts_named (u v : Value) (ss : List Int) (n : Nat) (hl : ss.length = n) (w : World) (hu : CellRow w u n (ss.map (Value.int .i64))) (hv : CellRow w v n (ss.map (Value.int .i64))) (hn : n ≤ 1000000) :
    Calls Tryz.prog 87 #[u, v] w fun e w' => e = .returned (.bool true) ∧ ∃ q, w' = w.drewN q := by
  subst hl
  exact SameInts_quiet u v ss w hu hv hn

/-- Lists of ints, each with its own marks. -/
def Marked (w : World) (ls : List (Value × Nat)) : Prop := ∀ (i : Nat) (x : Value × Nat), ls[i]? = some x → CellRow w x.1 x.2 ((imarks i 0 x.2).map (Value.int .i64)) ∧ x.2 ≤ 1000000

set_option maxHeartbeats 800000 in
theorem markedInts_any (L : Value) (ls : List (Value × Nat)) (w : World) (hL : CellRow w L ls.length (ls.map (·.1))) (hm : Marked w ls) (hn : ls.length ≤ 1000) :
    Calls Tryz.prog 64 #[L] w fun e w' => e = .returned (.bool true) ∧ Below w.heap.size w w' := by
  have HL := Hid.of hL
  have HM := Hid.of hm
  clear hm
  obtain ⟨la, lc, rfl, _⟩ := hL
  go_enter Tryz.func64, Tryz.ntmps64
  go_wp2
  go_loopw [3] (fun i wr => ∃ j : Nat, j ≤ ls.length ∧ i = .int .i64 j ∧ Below w.heap.size w wr) (fun i _ => ls.length - (RowKit.intOf i).toNat)
  case atStart => exact ⟨0, Nat.zero_le _, rfl, Below.refl _ _⟩
  case round =>
    obtain ⟨j, hj, rfl, hb⟩ := hrel
    by_cases hlt : j < ls.length
    · obtain ⟨b1, o1, rfl, hl1, hc1⟩ := HL.out.at j ls[j].1 (by simp [hlt])
      have hx := HM.out j ls[j] (by simp [hlt])
      generalize ls[j] = x at *
      obtain ⟨u, m⟩ := x
      simp only at hc1 hx
      obtain ⟨ua, uc, rfl, _⟩ := hx.1
      have q0 : wr.cell? ⟨b1, o1 + j, none⟩ = some (.slice ua m uc) := by rw [hb.cell hl1]; exact hc1
      have HX := Hid.of hx
      have HC := Hid.of hc1
      have HB := Hid.of hb
      have i0 : (0 : Int) ≤ (j : Int) := Int.natCast_nonneg _
      have i1 : (j : Int) < (ls.length : Int) := by omega
      clear hx HL HM hc1 hb
      go_wp2
      go_region_held3 (fun w' => w'.cell? ⟨b1, o1 + j, none⟩ = some (.slice ua m uc)) (go_keep) (first | (go_at_call 87; refine (SameInts_named _ _ (imarks j 0 m) m (imarks_length j 0 m) _ (HX.out.1.kept C3.out) OM.out HX.out.2).mono ?_; rintro e' n4 ⟨rfl, q4, rfl⟩) | (go_at_call 94; refine (markInts_any j 0 m (by omega) (by omega) HX.out.2 _).mono ?_; rintro e' n3 ⟨mv, rfl, om, c3⟩; have C3 := Hid.of (HB.out.drew.trans (c3.mono HB.out.drew.size)); have OM := Hid.of (own_cells om); clear c3 om q0; have q0 : n3.cell? ⟨b1, o1 + j, none⟩ = some (.slice ua m uc) := (by rw [C3.out.cell hl1]; exact HC.out)))
      all_goals
        go_wp2
        go_roundw
        case rel => exact ⟨j + 1, by omega, by go_num, below_drewN C3.out _⟩
        case measure => simp [RowKit.intOf]; omega
    · go_wp2
      go_ret
      exact ⟨rfl, hb⟩

end Go.Proofs.YtdchjcidfaencaaGreat
