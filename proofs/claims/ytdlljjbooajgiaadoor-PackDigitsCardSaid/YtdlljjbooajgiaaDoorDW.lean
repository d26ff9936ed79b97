/-
  What the document's own functions Number and Digits (package sedimentref1) answer.
-/
import Derived.Test.YtdlljjbooajgiaaDoorDG
import Derived.Deep.DeepCutAuto
namespace Go.Proofs.YtdlljjbooajgiaaDoor
open Go.RowKit Go.Lib

theorem take_snoc (s : ByteArray) (k : Nat) (h : k < s.size) : s.data.toList.take (k + 1) = s.data.toList.take k ++ [s[k]'h] := by
  rw [List.take_succ_eq_append_getElem (by rw [byte_len]; exact h)]; rfl

theorem fold_step {s : ByteArray} {j a : Nat} (hj : j < s.size) (h : decFold 0 (s.data.toList.take j) = some a) (hd : 48 ≤ (s[j]'hj).toNat ∧ (s[j]'hj).toNat ≤ 57) :
    decFold 0 (s.data.toList.take (j + 1)) = some (a * 10 + ((s[j]'hj).toNat - 48)) := by
  rw [take_snoc s j hj, decFold_append, h]
  show decFold a [s[j]'hj] = _
  rw [decFold, if_pos hd, decFold]

theorem fold_none {s : ByteArray} {j a : Nat} (hj : j < s.size) (h : decFold 0 (s.data.toList.take j) = some a) (hd : ¬ (48 ≤ (s[j]'hj).toNat ∧ (s[j]'hj).toNat ≤ 57)) : decFold 0 s.data.toList = none := by
  have e : s.data.toList = s.data.toList.take (j + 1) ++ s.data.toList.drop (j + 1) := (List.take_append_drop _ _).symm
  rw [e, take_snoc s j hj, List.append_assoc, decFold_append, h]
  show decFold a ([s[j]'hj] ++ _) = none
  rw [List.singleton_append, decFold, if_neg hd]

theorem fold_bound {s : ByteArray} {j a : Nat} (hj : j ≤ 17) (h : decFold 0 (s.data.toList.take j) = some a) : a < 100000000000000000 := by
  have h1 := fold_lt _ 0 a h
  have h2 : (10 : Nat) ^ (s.data.toList.take j).length ≤ 10 ^ 17 := Nat.pow_le_pow_right (by decide) (Nat.le_trans (List.length_take_le _ _) hj)
  omega

/-- The first byte of a text that is not empty. -/
theorem list_cons (s : ByteArray) (h : 0 < s.size) : ∃ r, s.data.toList = s[0]'h :: r := by
  have hl : 0 < s.data.toList.length := by rw [byte_len]; exact h
  cases hs : s.data.toList with
  | nil => rw [hs] at hl; simp at hl
  | cons c r =>
    refine ⟨r, ?_⟩
    have : s[0]'h = s.data.toList[0]'hl := rfl
    rw [this]
    simp only [hs, List.getElem_cons_zero]

/-- Where the digits are too few, too many, or begin with a 0. -/
def Wrong (neg : Bool) (t : ByteArray) : Prop := t.size < 1 ∨ 18 < t.size ∨ (∃ h : 0 < t.size, (t[0]'h).toNat = 48 ∧ (1 < t.size ∨ neg = true))

theorem mag_wrong {neg : Bool} {t : ByteArray} (h : Wrong neg t) : refMag neg t.data.toList = (0, 1) := by
  unfold refMag
  refine if_pos ?_
  rw [byte_len]
  rcases h with h | h | ⟨h0, h, h2⟩
  · exact .inl h
  · exact .inr (.inl h)
  · obtain ⟨r, e⟩ := list_cons t h0
    exact .inr (.inr ⟨by rw [e]; simp [h], h2⟩)

theorem mag_right {neg : Bool} {t : ByteArray} (h : ¬ Wrong neg t) : refMag neg t.data.toList = match decFold 0 t.data.toList with
    | some u => (if neg then -(u : Int) else u, 0)
    | none => (0, 1) := by
  unfold refMag
  refine if_neg ?_
  rw [byte_len]
  intro hc
  rcases hc with hc | hc | ⟨hc, h2⟩
  · exact h (.inl hc)
  · exact h (.inr (.inl hc))
  · by_cases h0 : 0 < t.size
    · obtain ⟨r, e⟩ := list_cons t h0
      rw [e] at hc
      simp at hc
      exact h (.inr (.inr ⟨h0, hc, h2⟩))
    · exact h (.inl (by omega))

set_option maxHeartbeats 1600000 in
theorem ref_pos (s : ByteArray) (hne : 0 < s.size) (h45 : Hid ((s[0]'hne).toNat ≠ 45)) (w : World) :
    Calls Tryd.prog 13 #[.string s] w fun e w' => e = .returned (.tuple #[.int .i64 (refMag false s.data.toList).1, .int .i64 (refMag false s.data.toList).2]) ∧ w = w' := by
  obtain ⟨n0, hn0⟩ : ∃ n, (s[0]'hne).toNat = n := ⟨_, rfl⟩
  have q45 : ((n0 : Int) == 45) = false := by have := h45.out; rw [hn0] at this; exact beq_eq_false_iff_ne.2 (by omega)
  have i0 : (0 : Int) < (s.size : Int) := by omega
  by_cases hw : Wrong false s
  · rw [mag_wrong hw]
    have key : ∀ h : 18 < s.size ∨ (¬ 18 < s.size ∧ ((n0 : Int) == 48) = true ∧ 1 < s.size), Calls Tryd.prog 13 #[.string s] w fun e w' => e = .returned (.tuple #[.int .i64 0, .int .i64 1]) ∧ w = w' := by
      clear hw h45
      intro h
      rcases h with h | ⟨h1, h2, h3⟩
      all_goals
        go_enter Tryd.func13, Tryd.ntmps13
        go_wp2
        go_ret2
        exact ⟨rfl, rfl⟩
    rcases hw with hw | hw | ⟨_, hw, h2⟩
    · omega
    · exact key (.inl hw)
    · by_cases hc : 18 < s.size
      · exact key (.inl hc)
      · refine key (.inr ⟨hc, ?_, h2.resolve_right (by decide)⟩)
        rw [hn0] at hw
        exact beq_iff_eq.2 (by omega)
  · have hmr := mag_right hw
    have h18 : s.size ≤ 18 := by
      by_cases hc : 18 < s.size
      · exact absurd (.inr (.inl hc)) hw
      · omega
    have HM := Hid.of hmr
    have key : ∀ h : ((n0 : Int) == 48) = false ∨ (((n0 : Int) == 48) = true ∧ ¬ 1 < s.size), Calls Tryd.prog 13 #[.string s] w fun e w' => e = .returned (.tuple #[.int .i64 (refMag false s.data.toList).1, .int .i64 (refMag false s.data.toList).2]) ∧ w = w' := by
      clear hw h45 hmr
      intro h
      rcases h with h | ⟨h, h2⟩
      all_goals
        go_enter Tryd.func13, Tryd.ntmps13
        go_wp2
        go_loop [5, 6] (fun v i => ∃ (j a : Nat), j ≤ s.size ∧ i = .int .i64 j ∧ v = .int .i64 a ∧ Hid (decFold 0 (s.data.toList.take j) = some a)) (fun _ i => s.size - (RowKit.intOf i).toNat)
        case atStart => exact ⟨0, 0, Nat.zero_le _, rfl, rfl, Hid.of rfl⟩
        case round =>
          obtain ⟨j, a, hj, rfl, rfl, ha⟩ := hrel
          by_cases hlt : j < s.size
          · obtain ⟨m, hm⟩ : ∃ m, (s[j]'hlt).toNat = m := ⟨_, rfl⟩
            have hab := fold_bound (by omega) ha.out
            have i1 : (0 : Int) ≤ (j : Int) := Int.natCast_nonneg _
            have i2 : (j : Int) < (s.size : Int) := by omega
            by_cases hd1 : m < 48
            · have hnone := Hid.of (fold_none hlt ha.out (by rw [hm]; omega))
              go_wp2
              go_ret2
              rw [HM.out, hnone.out]
              exact ⟨rfl, rfl⟩
            · by_cases hd2 : 57 < m
              · have hnone := Hid.of (fold_none hlt ha.out (by rw [hm]; omega))
                go_wp2
                go_ret2
                rw [HM.out, hnone.out]
                exact ⟨rfl, rfl⟩
              · have hstep := Hid.of (fold_step hlt ha.out (by rw [hm]; omega))
                go_wp2
                go_round
                case rel => exact ⟨j + 1, a * 10 + (m - 48), by omega, by go_num, by go_num, Hid.of (by rw [hstep.out, hm])⟩
                case measure => simp [RowKit.intOf]; omega
          · have hfin := ha.out
            rw [List.take_of_length_le (by rw [byte_len]; omega)] at hfin
            have HF := Hid.of hfin
            clear hfin
            go_wp2
            go_ret2
            rw [HM.out, HF.out]
            exact ⟨rfl, rfl⟩
    by_cases h48 : n0 = 48
    · refine key (.inr ⟨beq_iff_eq.2 (by omega), fun h1 => hw (.inr (.inr ⟨hne, by rw [hn0]; exact h48, .inl h1⟩))⟩)
    · exact key (.inl (beq_eq_false_iff_ne.2 (by omega)))

theorem wrong_neg {t : ByteArray} : Wrong true t ↔ t.size < 1 ∨ 18 < t.size ∨ ∃ h : 0 < t.size, (t[0]'h).toNat = 48 := by
  unfold Wrong
  constructor
  · rintro (h | h | ⟨h0, h, _⟩)
    · exact .inl h
    · exact .inr (.inl h)
    · exact .inr (.inr ⟨h0, h⟩)
  · rintro (h | h | ⟨h0, h⟩)
    · exact .inl h
    · exact .inr (.inl h)
    · exact .inr (.inr ⟨h0, h, .inr rfl⟩)

set_option maxHeartbeats 1600000 in
theorem ref_neg (s t : ByteArray) (hne : 0 < s.size) (h45 : (s[0]'hne).toNat = 45) (ht : Hid (t = s.extract 1 s.size)) (w : World) :
    Calls Tryd.prog 13 #[.string s] w fun e w' => e = .returned (.tuple #[.int .i64 (refMag true t.data.toList).1, .int .i64 (refMag true t.data.toList).2]) ∧ w = w' := by
  have i0 : (0 : Int) < (s.size : Int) := by omega
  by_cases hw : Wrong true t
  · rw [mag_wrong hw]
    by_cases hsz : t.size < 1
    · go_enter Tryd.func13, Tryd.ntmps13
      go_upto_region 4 with (fail)
      rw [← ht.out]
      go_wp2
      go_ret2
      exact ⟨rfl, rfl⟩
    · by_cases hbig : 18 < t.size
      · go_enter Tryd.func13, Tryd.ntmps13
        go_upto_region 4 with (fail)
        rw [← ht.out]
        go_wp2
        go_ret2
        exact ⟨rfl, rfl⟩
      · have h48 : (t[0]'(by omega)).toNat = 48 := by
          rcases wrong_neg.1 hw with h | h | ⟨_, h⟩
          · omega
          · omega
          · exact h
        have i1 : (0 : Int) < (t.size : Int) := by omega
        clear hw
        by_cases h1 : 1 < t.size
        · go_enter Tryd.func13, Tryd.ntmps13
          go_upto_region 4 with (fail)
          rw [← ht.out]
          go_wp2
          go_ret2
          exact ⟨rfl, rfl⟩
        · go_enter Tryd.func13, Tryd.ntmps13
          go_upto_region 4 with (fail)
          rw [← ht.out]
          go_wp2
          go_ret2
          exact ⟨rfl, rfl⟩
  · have hmr := mag_right hw
    have hnw := fun h => hw (wrong_neg.2 h)
    have g1 : ¬ t.size < 1 := fun h => hnw (.inl h)
    have h18 : ¬ 18 < t.size := fun h => hnw (.inr (.inl h))
    obtain ⟨n0, hn0⟩ : ∃ n, (t[0]'(by omega)).toNat = n := ⟨_, rfl⟩
    have q48 : ((n0 : Int) == 48) = false := beq_eq_false_iff_ne.2 (fun hc => hnw (.inr (.inr ⟨by omega, by rw [hn0]; omega⟩)))
    have i1 : (0 : Int) < (t.size : Int) := by omega
    have HM := Hid.of hmr
    clear hw hmr hnw
    go_enter Tryd.func13, Tryd.ntmps13
    go_upto_region 4 with (fail)
    rw [← ht.out]
    go_wp2
    go_loop [5, 6] (fun v i => ∃ (j a : Nat), j ≤ t.size ∧ i = .int .i64 j ∧ v = .int .i64 a ∧ Hid (decFold 0 (t.data.toList.take j) = some a)) (fun _ i => t.size - (RowKit.intOf i).toNat)
    case atStart => exact ⟨0, 0, Nat.zero_le _, rfl, rfl, Hid.of rfl⟩
    case round =>
      obtain ⟨j, a, hj, rfl, rfl, ha⟩ := hrel
      by_cases hlt : j < t.size
      · obtain ⟨m, hm⟩ : ∃ m, (t[j]'hlt).toNat = m := ⟨_, rfl⟩
        have hab := fold_bound (by omega) ha.out
        have i1 : (0 : Int) ≤ (j : Int) := Int.natCast_nonneg _
        have i2 : (j : Int) < (t.size : Int) := by omega
        by_cases hd1 : m < 48
        · have hnone := Hid.of (fold_none hlt ha.out (by rw [hm]; omega))
          go_wp2
          go_ret2
          rw [HM.out, hnone.out]
          exact ⟨rfl, rfl⟩
        · by_cases hd2 : 57 < m
          · have hnone := Hid.of (fold_none hlt ha.out (by rw [hm]; omega))
            go_wp2
            go_ret2
            rw [HM.out, hnone.out]
            exact ⟨rfl, rfl⟩
          · have hstep := Hid.of (fold_step hlt ha.out (by rw [hm]; omega))
            go_wp2
            go_round
            case rel => exact ⟨j + 1, a * 10 + (m - 48), by omega, by go_num, by go_num, Hid.of (by rw [hstep.out, hm])⟩
            case measure => simp [RowKit.intOf]; omega
      · have hfin := ha.out
        rw [List.take_of_length_le (by rw [byte_len]; omega)] at hfin
        have hb := fold_lt _ 0 a hfin
        have hb2 : (10 : Nat) ^ t.data.toList.length ≤ 10 ^ 18 := Nat.pow_le_pow_right (by decide) (by rw [byte_len]; omega)
        have hb3 : a < 1000000000000000001 := by omega
        have HF := Hid.of hfin
        clear hfin hb hb2
        go_wp2
        go_ret2
        rw [HM.out, HF.out]
        exact ⟨rfl, rfl⟩

set_option maxHeartbeats 400000 in
theorem ref_empty (s : ByteArray) (h : s.size = 0) (w : World) :
    Calls Tryd.prog 13 #[.string s] w fun e w' => e = .returned (.tuple #[.int .i64 0, .int .i64 1]) ∧ w = w' := by
  have hs : s.size < 1 := by omega
  clear h
  go_enter Tryd.func13, Tryd.ntmps13
  go_wp2
  go_ret2
  exact ⟨rfl, rfl⟩

theorem refNumber_any (s : ByteArray) (w : World) :
    Calls Tryd.prog 13 #[.string s] w fun e w' => e = .returned (.tuple #[.int .i64 (refNumber s.data.toList).1, .int .i64 (refNumber s.data.toList).2]) ∧ w = w' := by
  by_cases h0 : 0 < s.size
  · obtain ⟨r, e⟩ := list_cons s h0
    by_cases h45 : (s[0]'h0).toNat = 45
    · have er : refNumber s.data.toList = refMag true (s.extract 1 s.size).data.toList := by
        have e2 : s.size = 1 + (s.size - 1) := by omega
        have e3 : (s.extract 1 s.size).data.toList = r := by
          rw [e2, extract_list, e, List.drop_succ_cons, List.drop_zero, List.take_of_length_le]
          have := byte_len s
          rw [e] at this
          simp at this
          omega
        rw [e3, e]
        unfold refNumber
        exact if_pos h45
      rw [er]
      exact ref_neg s _ h0 h45 rfl w
    · have er : refNumber s.data.toList = refMag false s.data.toList := by
        rw [e]
        unfold refNumber
        exact if_neg h45
      rw [er]
      exact ref_pos s h0 h45 w
  · have er : refNumber s.data.toList = (0, 1) := by
      have : s.data.toList = [] := List.eq_nil_of_length_eq_zero (by rw [byte_len]; omega)
      rw [this]; rfl
    rw [er]
    exact ref_empty s (by omega) w

end Go.Proofs.YtdlljjbooajgiaaDoor
