/-
  A bundle of texts: WLB.
-/
import Derived.BigQuiet
import Derived.Test.YtadepjpmpjipmaaGreatDoorQ06
import Derived.Test.YtadepjpmpjipmaaGreatDoorQ16
/-
  What package word's own inWord, run, good, toLineEnd, start and pass answer.
-/
namespace Go.Proofs.YtadepjpmpjipmaaGreatDoor
open Go.RowKit Go.Lib

set_option maxRecDepth 20000 in
set_option maxHeartbeats 800000 in
theorem inWord_any (c : UInt8) (w : World) :
    Calls Tryz.prog 102 #[.int .u8 c.toNat] w fun e w' => e = .returned (.bool (wIn c)) ∧ w' = w := by
  have h9 : c.toNat < 256 := c.toNat_lt
  by_cases h1 : 33 ≤ c.toNat
  · by_cases h2 : c.toNat ≤ 126
    · have e : wIn c = true := by unfold wIn; rw [decide_eq_true h1, decide_eq_true h2]; rfl
      rw [e]
      clear e
      generalize c.toNat = n at *
      go_enter Tryz.func102, Tryz.ntmps102
      go_wp2
      go_ret
      exact ⟨by simp; omega, rfl⟩
    · have e : wIn c = false := by unfold wIn; rw [decide_eq_true h1, decide_eq_false h2]; rfl
      rw [e]
      clear e
      generalize c.toNat = n at *
      go_enter Tryz.func102, Tryz.ntmps102
      go_wp2
      go_ret
      exact ⟨by simp; omega, rfl⟩
  · have e : wIn c = false := by unfold wIn; rw [decide_eq_false h1]; rfl
    rw [e]
    clear e
    generalize c.toNat = n at *
    go_enter Tryz.func102, Tryz.ntmps102
    go_wp2
    go_ret
    exact ⟨by simp; try omega, rfl⟩

theorem byte_at {s : ByteArray} {k : Nat} (h : k < s.size) : s.data.toList[k]? = some s[k] := by
  rw [List.getElem?_eq_getElem (by rw [byte_len]; exact h)]
  rfl

set_option maxRecDepth 20000 in
set_option maxHeartbeats 800000 in
theorem run_any (s : ByteArray) (hs : s.size ≤ maxLen) (w : World) :
    Calls Tryz.prog 105 #[.string s] w fun e w' => e = .returned (.int .i64 (wLen wIn s.data.toList)) ∧ w' = w := by
  unfold maxLen at hs
  go_enter Tryz.func105, Tryz.ntmps105
  go_wp2
  go_loop [6] (fun i => ∃ k : Nat, k ≤ s.size ∧ i = .int .i64 k ∧ Hid (wLen wIn (s.data.toList.take k) = k)) (fun i => s.size - (RowKit.intOf i).toNat)
  case atStart => exact ⟨0, Nat.zero_le _, rfl, Hid.of rfl⟩
  case round =>
    obtain ⟨k, hk, rfl, hr⟩ := hrel
    by_cases hlt : k < s.size
    · cases hc : wIn s[k] with
      | true =>
        have HN := Hid.of (wLen_next hr.out (byte_at hlt) hc)
        have HC := Hid.of hc
        clear hc
        go_wp2_with (go_at_call 102; refine (inWord_any _ _).mono ?_; rintro e w1 ⟨rfl, rfl⟩; rw [HC.out])
        exact ⟨⟨k + 1, by omega, by go_num, HN⟩, by simp [RowKit.intOf]; omega⟩
      | false =>
        have HN := Hid.of (wLen_stop hr.out (byte_at hlt) hc)
        have HC := Hid.of hc
        clear hc
        go_wp2_with (go_at_call 102; refine (inWord_any _ _).mono ?_; rintro e w1 ⟨rfl, rfl⟩; rw [HC.out])
        go_ret
        rw [HN.out]
        exact ⟨rfl, rfl⟩
    · have hka : k = s.size := by omega
      have HN := Hid.of (wLen_all hr.out (by rw [byte_len]; exact hka))
      go_wp2
      go_ret
      rw [HN.out, hka]
      exact ⟨rfl, rfl⟩

set_option maxRecDepth 20000 in
set_option maxHeartbeats 1600000 in
theorem good_any (s : ByteArray) (hs : s.size ≤ maxLen) (w : World) :
    Calls Tryz.prog 88 #[.string s] w fun e w' => e = .returned (.int .i64 (wLen wMay s.data.toList)) ∧ w' = w := by
  unfold maxLen at hs
  go_enter Tryz.func88, Tryz.ntmps88
  go_wp2
  go_loop [7] (fun i => ∃ k : Nat, k ≤ s.size ∧ i = .int .i64 k ∧ Hid (wLen wMay (s.data.toList.take k) = k)) (fun i => s.size - (RowKit.intOf i).toNat)
  case atStart => exact ⟨0, Nat.zero_le _, rfl, Hid.of rfl⟩
  case round =>
    obtain ⟨k, hk, rfl, hr⟩ := hrel
    by_cases hlt : k < s.size
    · have key : (wIn s[k] = true ∨ (wIn s[k] = false ∧ (s[k].toNat = 32 ∨ s[k].toNat = 9 ∨ s[k].toNat = 10))) ∨ (wMay s[k] = false ∧ wIn s[k] = false ∧ ¬ s[k].toNat = 32 ∧ ¬ s[k].toNat = 9 ∧ ¬ s[k].toNat = 10) := by
        cases hm : wMay s[k] with
        | true =>
          cases hi : wIn s[k] with
          | true => exact .inl (.inl rfl)
          | false =>
            have a := wIn_no hi
            have b := wMay_yes hm
            unfold wBad at b
            refine .inl (.inr ⟨rfl, ?_⟩)
            omega
        | false =>
          have b := wMay_no hm
          unfold wBad at b
          cases hi : wIn s[k] with
          | true =>
            have a := wIn_yes hi
            omega
          | false => exact .inr ⟨rfl, rfl, by omega, by omega, by omega⟩
      rcases key with key | ⟨km, ki, k1, k2, k3⟩
      · have hm : wMay s[k] = true := by
          cases hm : wMay s[k] with
          | true => rfl
          | false =>
            have b := wMay_no hm
            unfold wBad at b
            rcases key with key | key
            · have := wIn_yes key
              omega
            · omega
        have HN := Hid.of (wLen_next hr.out (byte_at hlt) hm)
        clear hm
        rcases key with key | ⟨ki, h | h | h⟩
        · have HC := Hid.of key
          clear key
          go_wp2_with (go_at_call 102; refine (inWord_any _ _).mono ?_; rintro e w1 ⟨rfl, rfl⟩; rw [HC.out])
          exact ⟨⟨k + 1, by omega, by go_num, HN⟩, by simp [RowKit.intOf]; omega⟩
        · have HC := Hid.of ki
          have e32 : ((s[k].toNat : Int) != 32) = false := by simp [h]
          clear ki h
          go_wp2_with (go_at_call 102; refine (inWord_any _ _).mono ?_; rintro e w1 ⟨rfl, rfl⟩; rw [HC.out])
          exact ⟨⟨k + 1, by omega, by go_num, HN⟩, by simp [RowKit.intOf]; omega⟩
        · have HC := Hid.of ki
          have e32 : ((s[k].toNat : Int) != 32) = true := by simp [h]
          have f32 : ¬ (s[k].toNat : Int) = 32 := by omega
          have e9 : ((s[k].toNat : Int) != 9) = false := by simp [h]
          clear ki h
          go_wp2_with (go_at_call 102; refine (inWord_any _ _).mono ?_; rintro e w1 ⟨rfl, rfl⟩; rw [HC.out])
          exact ⟨⟨k + 1, by omega, by go_num, HN⟩, by simp [RowKit.intOf]; omega⟩
        · have HC := Hid.of ki
          have e32 : ((s[k].toNat : Int) != 32) = true := by simp [h]
          have f32 : ¬ (s[k].toNat : Int) = 32 := by omega
          have e9 : ((s[k].toNat : Int) != 9) = true := by simp [h]
          have f9 : ¬ (s[k].toNat : Int) = 9 := by omega
          have e10 : ((s[k].toNat : Int) != 10) = false := by simp [h]
          clear ki h
          go_wp2_with (go_at_call 102; refine (inWord_any _ _).mono ?_; rintro e w1 ⟨rfl, rfl⟩; rw [HC.out])
          exact ⟨⟨k + 1, by omega, by go_num, HN⟩, by simp [RowKit.intOf]; omega⟩
      · have HN := Hid.of (wLen_stop hr.out (byte_at hlt) km)
        have HC := Hid.of ki
        have e1 : ¬ (s[k].toNat : Int) = 32 := by omega
        have e2 : ¬ (s[k].toNat : Int) = 9 := by omega
        have e3 : ¬ (s[k].toNat : Int) = 10 := by omega
        have f1 : ((s[k].toNat : Int) != 32) = true := by simpa using e1
        have f2 : ((s[k].toNat : Int) != 9) = true := by simpa using e2
        have f3 : ((s[k].toNat : Int) != 10) = true := by simpa using e3
        clear km ki k1 k2 k3
        go_wp2_with (go_at_call 102; refine (inWord_any _ _).mono ?_; rintro e w1 ⟨rfl, rfl⟩; rw [HC.out])
        go_ret
        rw [HN.out]
        exact ⟨rfl, rfl⟩
    · have hka : k = s.size := by omega
      have HN := Hid.of (wLen_all hr.out (by rw [byte_len]; exact hka))
      go_wp2
      go_ret
      rw [HN.out, hka]
      exact ⟨rfl, rfl⟩

/-- Where a text's first line ends. -/
theorem index_end : ∀ t : List UInt8, (Lib.indexByte t 10 = -1 ∧ wLen wNoEnd t = t.length) ∨ (Lib.indexByte t 10 = (wLen wNoEnd t : Nat) ∧ wLen wNoEnd t < t.length)
  | [] => .inl ⟨rfl, rfl⟩
  | c :: t => by
    unfold Lib.indexByte
    by_cases hc : c = 10
    · subst hc
      exact .inr ⟨rfl, by show 0 < _; simp⟩
    · have h10 : ¬ c.toNat = 10 := fun h => hc (by rw [← UInt8.toNat_inj, h]; rfl)
      have hp : wNoEnd c = true := by unfold wNoEnd; simp [h10]
      have hl : wLen wNoEnd (c :: t) = wLen wNoEnd t + 1 := by unfold wLen; rw [List.takeWhile_cons, if_pos hp, List.length_cons]
      have e1 : (c == 10) = false := by simpa using hc
      rw [e1, hl, List.length_cons]
      rcases index_end t with ⟨h1, h2⟩ | ⟨h1, h2⟩
      · rw [h1]
        exact .inl ⟨rfl, by rw [h2]⟩
      · rw [h1]
        have e2 : (((wLen wNoEnd t : Nat) : Int) == -1) = false := by
          rw [beq_eq_false_iff_ne]
          omega
        rw [e2]
        exact .inr ⟨by show ((wLen wNoEnd t : Nat) : Int) + 1 = _; omega, by omega⟩

end Go.Proofs.YtadepjpmpjipmaaGreatDoor
