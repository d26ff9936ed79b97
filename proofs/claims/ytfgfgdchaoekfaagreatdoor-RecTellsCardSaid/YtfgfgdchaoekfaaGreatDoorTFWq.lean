/-
  Few records with short names (package sedimentbook).
-/
import Derived.Deep.QuietTactic
import Derived.BigQuiet
import Derived.Test.YtfgfgdchaoekfaaGreatDoorQ19
namespace Go.Proofs.YtfgfgdchaoekfaaGreatDoor
open Go.RowKit Go.Lib

/-- Few records, short names. -/
def RFew (k : Nat) (l : List RecL) : Prop := l.length ≤ k ∧ ∀ x ∈ l, x.1.size ≤ 60

set_option maxHeartbeats 800000 in
theorem Few_any (k : Nat) (v : Value) (l : List RecL) (w : World) (hv : CellRow w v l.length (flat renc l)) (hk : k ≤ 1000) :
    Calls Tryz.prog 5 #[.int .i64 k, v] w fun e w' => ∃ r : Bool, e = .returned (.bool r) ∧ Hid (r = true → RFew k l) ∧ Below w.heap.size w w' := by
  have HV := Hid.of hv
  obtain ⟨sa, sc, rfl, -⟩ := hv
  go_enter Tryz.func5, Tryz.ntmps5
  go_wp2
  go_loopw [5] (fun i wr => ∃ j : Nat, j ≤ l.length ∧ j ≤ k ∧ i = .int .i64 j ∧ Hid (∀ x ∈ l.take j, x.1.size ≤ 60) ∧ Below w.heap.size w wr) (fun i _ => k - (RowKit.intOf i).toNat)
  case atStart => exact ⟨0, Nat.zero_le _, Nat.zero_le _, rfl, Hid.of (by simp), Below.refl _ _⟩
  case round =>
    obtain ⟨j, hj, hjk, rfl, A, hb⟩ := hrel
    have i0 : (0 : Int) ≤ (j : Int) := Int.natCast_nonneg _
    by_cases hlt : j < l.length
    · have i1 : (j : Int) < (l.length : Int) := by omega
      by_cases h12 : j < k
      · have i2 : (j : Int) < (k : Int) := by omega
        obtain ⟨b1, o1, rfl, hl1, hc1⟩ := r_at HV.out j l[j] (by simp [hlt])
        obtain ⟨x, hx⟩ : ∃ x, l[j] = x := ⟨_, rfl⟩
        rw [hx] at hc1
        obtain ⟨d0, -⟩ := hc1
        rw [← hb.cell hl1] at d0
        have HX := Hid.of hx
        have j9 : (j : Int) ≤ 1000 := by omega
        by_cases h60 : x.1.size ≤ 60
        · have i3 : ¬ (60 : Int) < (x.1.size : Int) := by omega
          clear hx
          go_wp2
          go_roundw
          case rel =>
            refine ⟨j + 1, by omega, by omega, by go_num, Hid.of ?_, hb⟩
            intro y hy
            rw [List.take_succ_eq_append_getElem hlt, List.mem_append, List.mem_singleton, HX.out] at hy
            rcases hy with hy | rfl
            · exact A.out y hy
            · exact h60
          case measure => simp [RowKit.intOf]; omega
        · have i3 : (60 : Int) < (x.1.size : Int) := by omega
          clear hx
          go_wp2
          go_ret
          exact ⟨false, rfl, Hid.of (fun h => by cases h), hb⟩
      · have i2 : ¬ (j : Int) < (k : Int) := by omega
        have i3 : ¬ (l.length : Int) ≤ (k : Int) := by omega
        go_wp2
        go_ret
        exact .inl ⟨rfl, Hid.of trivial, hb⟩
    · have i1 : ¬ (j : Int) < (l.length : Int) := by omega
      have hjl : j = l.length := by omega
      have i3 : (l.length : Int) ≤ (k : Int) := by omega
      go_wp2
      go_ret
      refine .inr ⟨rfl, Hid.of ⟨by omega, fun x hx => ?_⟩, hb⟩
      have := A.out x
      rw [hjl, List.take_length] at this
      exact this hx

end Go.Proofs.YtfgfgdchaoekfaaGreatDoor
