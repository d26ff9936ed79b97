/-
  What statement WordFails answers: true, for every input.
-/
import Derived.Test.YtcjfejhfafiaiaaWA
namespace Go.Proofs.Ytcjfejhfafiaiaa
open Go.RowKit Go.Lib

theorem byte_text (m : Nat) (b : ByteArray) (hb : b = ⟨#[UInt8.ofNat (m : Int).toNat]⟩) (t u : ByteArray) : ((t ++ b) ++ u).data.toList = t.data.toList ++ UInt8.ofNat m :: u.data.toList := by
  rw [hb]
  simp [ByteArray.data_append]

set_option maxRecDepth 20000 in
set_option maxHeartbeats 3200000 in
theorem wordFails_main (S : WordSpec) (a b : ByteArray) (c : Int) (w : World) (ha : a.size ≤ maxLen) (hsum : a.size + b.size ≤ maxLen) :
    Calls Try.prog 6 #[.string a, .string b, .int .i64 c] w fun e w' => e = .returned (.bool true) ∧ Below w.heap.size w w' := by
  by_cases hq : 3000 < a.size + b.size ∨ (33 ≤ c ∧ c ≤ 126) ∨ c = 32 ∨ c = 9 ∨ c = 10 ∨ c < 0 ∨ 255 < c
  · have hx : (a.size : Int) + (b.size : Int) ≤ 9223372036854775807 := by unfold maxLen at hsum; omega
    have key : (3000 : Int) < (a.size : Int) + (b.size : Int) ∨ (¬ (3000 : Int) < (a.size : Int) + (b.size : Int) ∧ ((33 ≤ c ∧ c ≤ 126) ∨ (c = 32) ∨ (c = 9) ∨ (c = 10) ∨ c < 0 ∨ (255 < c))) := by omega
    clear hq ha hsum
    rcases key with k1 | ⟨k1, ⟨k2, k3⟩ | k2 | k2 | k2 | k2 | k2⟩
    all_goals
      try subst k2
      try have n1 : (c == 32) = false := by simpa using (show ¬ c = 32 by omega)
      try have n2 : (c == 9) = false := by simpa using (show ¬ c = 9 by omega)
      try have n3 : (c == 10) = false := by simpa using (show ¬ c = 10 by omega)
      try have n4 : decide (c ≤ 126) = false := decide_eq_false (by omega)
      try have n5 : decide (33 ≤ c) = false := decide_eq_false (by omega)
      go_enter Try.func6, Try.ntmps6
      go_wp2_with fail
      refine (wordAlive_any S _).mono ?_
      rintro x w1 ⟨rfl, b1⟩
      go_wp2
      go_ret
      exact ⟨rfl, b1⟩
  · have h1 : ¬ (3000 : Int) < (a.size : Int) + (b.size : Int) := by omega
    have h2 : ¬ c < 0 := by omega
    have h3 : ¬ 255 < c := by omega
    obtain ⟨m, rfl⟩ : ∃ m : Nat, c = m := ⟨c.toNat, by omega⟩
    have m9 : m < 256 := by omega
    have h4 : (m : Int) < 33 ∨ (33 ≤ (m : Int) ∧ 126 < (m : Int)) := by omega
    have n1 : ((m : Int) == 32) = false := by simpa using (show ¬ (m : Int) = 32 by omega)
    have n2 : ((m : Int) == 9) = false := by simpa using (show ¬ (m : Int) = 9 by omega)
    have n3 : ((m : Int) == 10) = false := by simpa using (show ¬ (m : Int) = 10 by omega)
    have hbad : wBad (UInt8.ofNat m).toNat := by
      have : (UInt8.ofNat m).toNat = m := by simp [Nat.mod_eq_of_lt m9]
      rw [this]
      unfold wBad
      omega
    have HBAD := Hid.of hbad
    have SUM : Hid (a.size + b.size ≤ 3000) := Hid.of (by omega)
    have AM := Hid.of ha
    clear hq hbad ha hsum
    rcases wCut_kinds a.data.toList with ⟨l, hl⟩ | ⟨e, n, he, hne⟩
    · have HL := Hid.of hl
      obtain ⟨bx, hbx⟩ : ∃ bx : ByteArray, bx = ⟨#[UInt8.ofNat (m : Int).toNat]⟩ := ⟨_, rfl⟩
      have HCUT := Hid.of (show wCut ((a ++ bx) ++ b).data.toList = (none, 22, ((1 + wEnds a.data.toList : Nat) : Int)) by
        rw [byte_text m bx hbx a b]
        exact wCut_fails (by rw [byte_len, byte_len]; have := SUM.out; omega) HBAD.out (by rw [hl]))
      have BS : Hid (bx.size = 1) := Hid.of (by rw [hbx]; rfl)
      have hcv := fun w => conv_one w (m : Int)
      rw [← hbx] at hcv
      clear hl hbx
      rcases h4 with h4 | ⟨h4, h5⟩
      all_goals
        go_enter Try.func6, Try.ntmps6
        go_wp2_with fail
        refine (cut_good S a l _ AM.out HL.out).mono ?_
        rintro e w1 ⟨p, F, rfl, k1⟩
        have B1 := Hid.of k1.fr
        clear k1
        go_wp2
        go_loopw [10, 11] (fun lv iv wr => ∃ k : Nat, k ≤ a.size ∧ iv = .int .i64 k ∧ lv = .int .i64 ((1 + wEnds (a.data.toList.take k) : Nat) : Int) ∧ wEnds (a.data.toList.take k) ≤ k ∧ ∃ q, wr = w1.drewN q) (fun _ iv _ => a.size - (RowKit.intOf iv).toNat)
        case atStart => exact ⟨0, Nat.zero_le _, rfl, rfl, Nat.le_refl _, 0, rfl⟩
        case round =>
          obtain ⟨k, hk, rfl, rfl, hke, q, rfl⟩ := hrel
          by_cases hlt : k < a.size
          · have hc : a.data.toList[k]? = some a[k] := by rw [List.getElem?_eq_getElem (by rw [byte_len]; exact hlt)]; rfl
            have ht := wEnds_take _ _ _ hc
            have a9 : a.size ≤ 3000 := by have := SUM.out; omega
            by_cases h10 : a[k].toNat = 10
            · have e1 : ((a[k].toNat : Int) == 10) = true := by simp [h10]
              have e2 : (a[k].toNat == 10) = true := by simp [h10]
              rw [e2, if_pos rfl] at ht
              have HT := Hid.of ht
              clear ht e2 hc
              go_wp2
              refine ⟨⟨k + 1, by omega, by go_num, ?_, by rw [HT.out]; omega, q, rfl⟩, by simp [RowKit.intOf]; omega⟩
              rw [HT.out]
              all_goals first | rfl | (congr 1; omega)
            · have e1 : ((a[k].toNat : Int) == 10) = false := by simpa using (show ¬ (a[k].toNat : Int) = 10 by omega)
              have e2 : (a[k].toNat == 10) = false := by simpa using h10
              rw [e2, if_neg (by simp), Nat.add_zero] at ht
              have HT := Hid.of ht
              have h11 : ¬ (a[k].toNat : Int) = 10 := by omega
              clear ht e2 hc
              go_wp2
              exact ⟨⟨k + 1, by omega, by go_num, by rw [HT.out]; rfl, by rw [HT.out]; omega, q, rfl⟩, by simp [RowKit.intOf]; omega⟩
          · have hka : k = a.size := by omega
            have hwe : wEnds (a.data.toList.take k) = wEnds a.data.toList := by rw [List.take_of_length_le (by rw [byte_len]; omega)]
            rw [hwe]
            obtain ⟨n, hn⟩ : ∃ n, 1 + wEnds a.data.toList = n := ⟨_, rfl⟩
            have HC2 := HCUT.out
            rw [hn] at HC2
            rw [hn]
            have HCU := Hid.of HC2
            have hcat := fun w => run_string_add_sum (P := Try.prog) (w := w) a bx (by have := SUM.out; have := BS.out; omega)
            have hcat2 := fun w => run_string_add_sum (P := Try.prog) (w := w) (a ++ bx) b (by rw [ByteArray.size_append]; have := SUM.out; have := BS.out; omega)
            have ZS : Hid (((a ++ bx) ++ b).size ≤ maxLen) := Hid.of (by rw [ByteArray.size_append, ByteArray.size_append]; have := SUM.out; have := BS.out; unfold maxLen; omega)
            generalize (a ++ bx) ++ b = z at hcat2 HCU ZS
            generalize a ++ bx = y at hcat hcat2
            have hcv' := hcv (w1.drewN q)
            rw [show (w1.drewN q).heap.size = w1.heap.size from rfl] at hcv'
            have hmod : (m : Int) % 256 = (m : Int) := by omega
            clear hwe hn HC2 HCUT hcv hke hk
            go_wp2_with fail
            refine (cut_none S z 22 n _ ZS.out HCU.out).mono ?_
            rintro e w2 ⟨rfl, b2⟩
            have B2 := Hid.of ((below_drewN B1.out q).alloc (below_drewN B1.out q).size (.cells #[.int .u8 (m : Int)] 5) |>.trans (b2.mono (by have := B1.out.size; simp; omega)))
            clear b2
            go_wp2_with fail
            refine (wordAlive_any S _).mono ?_
            rintro e w3 ⟨rfl, b3⟩
            have B3 := Hid.of (B2.out.trans (b3.mono B2.out.size))
            clear b3
            go_wp2
            go_ret
            exact ⟨rfl, B3.out⟩
    · have HE := Hid.of he
      have n0 : (e != 0) = true := by simpa using hne
      clear he
      rcases h4 with h4 | ⟨h4, h5⟩
      all_goals
        go_enter Try.func6, Try.ntmps6
        go_wp2_with fail
        refine (cut_none S a e n _ AM.out HE.out).mono ?_
        rintro x w1 ⟨rfl, b1⟩
        have B1 := Hid.of b1
        clear b1
        go_wp2_with fail
        refine (wordAlive_any S _).mono ?_
        rintro x w2 ⟨rfl, b2⟩
        go_wp2
        go_ret
        exact ⟨rfl, B1.out.trans (b2.mono B1.out.size)⟩

end Go.Proofs.Ytcjfejhfafiaiaa
