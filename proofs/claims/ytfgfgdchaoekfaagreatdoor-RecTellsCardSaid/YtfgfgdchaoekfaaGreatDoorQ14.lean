/-
  A bundle of texts: NV.
-/
import Derived.Test.YtfgfgdchaoekfaaGreatDoorQ07
import Derived.Test.YtfgfgdchaoekfaaGreatDoorQ09
namespace Go.Proofs.YtfgfgdchaoekfaaGreatDoor
open Go.RowKit Go.Lib

theorem str_get0 {w : World} {a : Option Addr} {n c : Nat} {ss : List ByteArray} (h : CellRow w (.slice a n c) n (ss.map Value.string)) (j : Nat) (s : ByteArray) (hs : ss[j]? = some s) : ∃ b o, a = some ⟨b, o, none⟩ ∧ b < w.heap.size ∧ w.cell? ⟨b, o + j, none⟩ = some (.string s) := by
  obtain ⟨a', c', hv, h⟩ := h
  simp only [Value.slice.injEq] at hv
  obtain ⟨rfl, _, rfl⟩ := hv
  have hm : (ss.map Value.string)[j]? = some (.string s) := by rw [List.getElem?_map, hs]; rfl
  rcases h with h | ⟨b, o, ha, hl, hc⟩
  · rw [h] at hm
    cases hm
  · exact ⟨b, o, ha, hl, hc j _ hm⟩

set_option maxRecDepth 20000 in
set_option maxHeartbeats 1600000 in
theorem isName_any (s : ByteArray) (hs : s.size ≤ maxLen) (w : World) :
    Calls Tryz.prog 100 #[.string s] w fun e w' => e = .returned (.bool (nOk s)) ∧ ∃ q, w' = w.drewN q := by
  unfold maxLen at hs
  by_cases hz : s.size < 1 ∨ 15 < s.size
  · rw [nOk_size hz]
    have hz' : s.size < 1 ∨ (¬ s.size < 1 ∧ 15 < s.size) := by omega
    clear hz
    rcases hz' with h1 | ⟨h1, h2⟩
    all_goals
      go_enter Tryz.func100, Tryz.ntmps100
      go_wp2
      go_ret
      exact ⟨rfl, 0, rfl⟩
  · have h1 : ¬ s.size < 1 := fun c => hz (.inl c)
    have h2 : ¬ 15 < s.size := fun c => hz (.inr c)
    have e0 := Hid.of (nOk_all (s := s) (by omega) (by omega))
    clear hz
    go_enter Tryz.func100, Tryz.ntmps100
    go_wp2
    go_loopw [3, 14] (fun _ i wr => ∃ k : Nat, k ≤ s.size ∧ i = .int .i64 k ∧ Hid ((s.data.toList.take k).all nByte = true) ∧ ∃ q, wr = w.drewN q) (fun _ i _ => s.size - (intOf i).toNat)
    case atStart => exact ⟨0, Nat.zero_le _, rfl, Hid.of rfl, 0, rfl⟩
    case round =>
      obtain ⟨k, hk, rfl, HA, q, rfl⟩ := hrel
      by_cases hlt : k < s.size
      · have HF := Hid.of (fun h => all_false hlt h)
        have HT := Hid.of (fun h => all_take hlt h HA.out)
        by_cases hp : nByteP s[k].toNat
        · have e1 := decide_eq_true hp
          have HT' := Hid.of (HT.out hp)
          clear HF HT
          have E1 := Hid.of e1
          clear e1 hp
          go_wp2_with fail
          refine (mayBe_any _ _).mono ?_
          rintro e x1 ⟨rfl, rfl⟩
          rw [E1.out]
          go_wp2
          exact ⟨⟨k + 1, by omega, by go_num, HT', q, rfl⟩, by simp [intOf]; omega⟩
        · have e1 := decide_eq_false hp
          have HF' := Hid.of (HF.out hp)
          clear HF HT
          have E1 := Hid.of e1
          clear e1 hp
          go_wp2_with fail
          refine (mayBe_any _ _).mono ?_
          rintro e x1 ⟨rfl, rfl⟩
          rw [E1.out]
          go_wp2
          go_ret
          rw [e0.out, HF'.out]
          exact ⟨rfl, q, rfl⟩
      · go_wp2
        go_ret
        have : k = s.size := by omega
        subst this
        have h := HA.out
        rw [List.take_of_length_le (by rw [byte_len]; exact Nat.le_refl _)] at h
        rw [e0.out, h]
        exact ⟨rfl, q, rfl⟩

theorem all_nOk_false {ss : List ByteArray} {j : Nat} (hj : j < ss.length) (h : nOk ss[j] = false) : ss.all nOk = false := by
  rw [List.all_eq_false]
  exact ⟨ss[j], List.getElem_mem hj, by rw [h]; simp⟩

theorem all_nOk_take {ss : List ByteArray} {j : Nat} (hj : j < ss.length) (h : nOk ss[j] = true) (ht : (ss.take j).all nOk = true) : (ss.take (j + 1)).all nOk = true := by
  rw [List.take_succ_eq_append_getElem hj, List.all_append, ht]
  simp [h]

set_option maxRecDepth 20000 in
set_option maxHeartbeats 800000 in
theorem valid_any (v : Value) (ss : List ByteArray) (w : World) (hv : CellRow w v ss.length (ss.map Value.string)) (hn : ss.length ≤ 1000000) (hs : ∀ s ∈ ss, s.size ≤ maxLen) :
    Calls Tryz.prog 40 #[v] w fun e w' => e = .returned (.bool (ss.all nOk)) ∧ ∃ q, w' = w.drewN q := by
  have HV := Hid.of hv
  have HS := Hid.of hs
  obtain ⟨va, vc, rfl, _⟩ := hv
  clear hs
  go_enter Tryz.func40, Tryz.ntmps40
  go_wp2
  go_loopw [4, 7] (fun _ i wr => ∃ j : Nat, j ≤ ss.length ∧ i = .int .i64 j ∧ Hid ((ss.take j).all nOk = true) ∧ ∃ q, wr = w.drewN q) (fun _ i _ => ss.length - (RowKit.intOf i).toNat)
  case atStart => exact ⟨0, Nat.zero_le _, rfl, Hid.of rfl, 0, rfl⟩
  case round =>
    obtain ⟨j, hj, rfl, HA, q, rfl⟩ := hrel
    by_cases hlt : j < ss.length
    · obtain ⟨b1, o1, rfl, hl1, hc1⟩ := str_get0 HV.out j ss[j] (List.getElem?_eq_getElem hlt)
      have hsz := HS.out ss[j] (List.getElem_mem hlt)
      have HT := Hid.of (fun h => all_nOk_take hlt h HA.out)
      have HF := Hid.of (fun h => all_nOk_false (ss := ss) hlt h)
      generalize ss[j] = s at *
      have d1 : (w.drewN q).cell? ⟨b1, o1 + j, none⟩ = some (.string s) := hc1
      have i0 : (0 : Int) ≤ (j : Int) := Int.natCast_nonneg _
      have i1 : (j : Int) < (ss.length : Int) := by omega
      have HSZ := Hid.of hsz
      clear hc1 hl1 hsz
      go_wp2_with fail
      refine (isName_any s HSZ.out _).mono ?_
      rintro e x1 ⟨rfl, q2, rfl⟩
      obtain ⟨r, hr⟩ : ∃ r, nOk s = r := ⟨_, rfl⟩
      rw [hr]
      cases r
      · have HF' := Hid.of (HF.out hr)
        clear HF HT hr
        go_wp2
        go_ret
        rw [HF'.out]
        exact ⟨rfl, _, rfl⟩
      · have HT' := Hid.of (HT.out hr)
        clear HF HT hr
        go_wp2
        go_roundw
        case rel => exact ⟨j + 1, by omega, by go_num, HT', _, rfl⟩
        case measure => simp [RowKit.intOf]; omega
    · go_wp2
      go_ret
      have : j = ss.length := by omega
      subst this
      have h := HA.out
      rw [List.take_length] at h
      rw [h]
      exact ⟨rfl, q, rfl⟩

end Go.Proofs.YtfgfgdchaoekfaaGreatDoor
