/-
  What statement GridStarts answers: true, for every input.
-/
import Derived.Test.YtjmnffcmgigodaaGQ
import Derived.Test.YtjmnffcmgigodaaBKS
import Derived.Deep.QuietTactic
import Derived.BigQuiet
namespace Go.Proofs.Ytjmnffcmgigodaa
open Go.RowKit Go.Lib

set_option maxHeartbeats 800000 in
theorem starts_light (a b e : Int) (h : e < 1 ∨ 1000 < e ∨ a < -10000 ∨ 10000 < a ∨ b < a ∨ a + 5000 < b) (w : World) :
    Calls Try.prog 6 #[.int .i64 a, .int .i64 b, .int .i64 e] w fun e w' => e = .returned (.bool true) ∧ Below w.heap.size w w' := by
  have hs : e < 1 ∨ (¬ e < 1 ∧ 1000 < e) ∨ (¬ e < 1 ∧ ¬ 1000 < e ∧ a < -10000) ∨ (¬ e < 1 ∧ ¬ 1000 < e ∧ ¬ a < -10000 ∧ 10000 < a) ∨ (¬ e < 1 ∧ ¬ 1000 < e ∧ ¬ a < -10000 ∧ ¬ 10000 < a ∧ b < a) ∨ (¬ e < 1 ∧ ¬ 1000 < e ∧ ¬ a < -10000 ∧ ¬ 10000 < a ∧ ¬ b < a ∧ a + 5000 < b) := by omega
  clear h
  rcases hs with h1 | ⟨h1, h2⟩ | ⟨h1, h2, h3⟩ | ⟨h1, h2, h3, h4⟩ | ⟨h1, h2, h3, h4, h5⟩ | ⟨h1, h2, h3, h4, h5, h6⟩
  all_goals
    go_enter Try.func6, Try.ntmps6
    go_wp2_with fail
    refine (gridAlive_any _).mono ?_
    rintro e w1 ⟨rfl, b1⟩
    go_wp2
    go_ret
    exact ⟨rfl, b1⟩

theorem starts_two (a b e : Int) (n : Nat) (h1 : ¬ e < 1) (h9 : n ≤ 5001) (ha : I64 a) (hb : I64 b) (he : I64 e) (hn : gCount a (gCeil a e) b e = (n : Int)) (w : World) :
    Calls Try.prog 9 #[.int .i64 a, .int .i64 b, .int .i64 e, .int .i64 ((n : Int) - 1)] w fun x w' => x = .returned (.tuple #[.slice none 0 0, .bool false]) ∧ ∃ q, w' = w.drewN q := by
  by_cases h : n = 0
  · exact Starts_bad a b e _ (.inr (by omega)) w
  · exact Starts_more a b e _ h1 (by omega) (by omega) ha hb he (by rw [hn]; omega) w

set_option maxHeartbeats 1600000 in
theorem starts_main (a b e : Int) (h1 : ¬ e < 1) (h2 : ¬ 1000 < e) (h3 : ¬ a < -10000) (h4 : ¬ 10000 < a) (h5 : ¬ b < a) (h6 : ¬ a + 5000 < b) (w : World) :
    Calls Try.prog 6 #[.int .i64 a, .int .i64 b, .int .i64 e] w fun e w' => e = .returned (.bool true) ∧ Below w.heap.size w w' := by
  have he : 1 ≤ e := by omega
  obtain ⟨p0, p1⟩ := gPast_bounds a he
  have hs : gCeil a e = if gPast a e = 0 then a else a + (e - gPast a e) := by
    unfold gCeil
    rw [if_neg h1]
    by_cases c : gPast a e = 0
    · rw [if_pos c, if_pos c]
    · rw [if_neg c, if_neg c, if_neg (by omega)]
  have STEP := Hid.of (fun t => count_step a e t he hs)
  obtain ⟨f, hf⟩ : ∃ f, gCeil a e = f := ⟨_, rfl⟩
  have haf : a ≤ f := by rw [← hf, hs]; split <;> omega
  have hfd : gOn f e = true := by
    rw [gOn_dvd, ← hf, hs]
    refine ⟨he, ?_⟩
    have hd := gPast_dvd a e
    split
    · next c => rw [c, Int.sub_zero] at hd; exact hd
    · have : a + (e - gPast a e) = (a - gPast a e) + e := by omega
      rw [this]
      exact Int.dvd_add hd (Int.dvd_refl e)
  rw [hf] at hs STEP
  obtain ⟨n, hn⟩ : ∃ n : Nat, gCount a f b e = (n : Int) := ⟨(gCount a f b e).toNat, by have := gCount_nonneg (from_ := a) (first := f) (to := b) he; omega⟩
  have hnb : n ≤ 5000 := by
    by_cases c : n = 0
    · omega
    · obtain ⟨c0, c1, c2⟩ := count_in (j := n - 1) he hn (by omega)
      have c3 := Int.mul_le_mul_of_nonneg_left he (show 0 ≤ ((n - 1 : Nat) : Int) by omega)
      omega
  have h0 : gCount a f a e = 0 := by unfold gCount; rw [if_pos (by omega)]
  have H0 := Hid.of h0
  have HIA : Hid (I64 a) := Hid.of (by unfold I64; omega)
  have HIB : Hid (I64 b) := Hid.of (by unfold I64; omega)
  have HIE : Hid (I64 e) := Hid.of (by unfold I64; omega)
  have HF := Hid.of hf
  have HN := Hid.of hn
  have ON := Hid.of hfd
  have TWO := Hid.of (starts_two a b e n h1 (by omega) HIA.out HIB.out HIE.out (by rw [hf]; exact hn))
  clear hs hf hn hfd h0 p0 p1
  go_enter Try.func6, Try.ntmps6
  go_wp2_with fail
  refine (Starts_main a b e 5001 n (by omega) (by omega) (by omega) HIA.out HIB.out HIE.out f HF.out HN.out (by omega) _).mono ?_
  rintro x w1 ⟨v, rfl, o1, b1⟩
  have HV := Hid.of (own_cells o1)
  have B1 := Hid.of b1
  clear o1 b1
  obtain ⟨va, vc, rfl, _⟩ := HV.out
  go_wp2
  go_loopw [9] (fun i wr => ∃ j : Nat, j ≤ n ∧ i = .int .i64 j ∧ ∃ q, wr = w1.drewN q) (fun i _ => n - (RowKit.intOf i).toNat)
  case atStart => exact ⟨0, Nat.zero_le _, rfl, 0, rfl⟩
  case round =>
    obtain ⟨j, hj, rfl, q, rfl⟩ := hrel
    by_cases hlt : j < n
    · obtain ⟨b1, o1, rfl, hl1, hc1⟩ := int_at HV.out j (by rw [gRow_length]; exact hlt) (gRow_length _ _ _).symm
      rw [gRow_get f e n j hlt] at hc1
      obtain ⟨z0, z1, _⟩ := count_in he HN.out hlt
      have hx : gOn (f + (j : Int) * e) e = true := by
        rw [gOn_dvd]
        exact ⟨he, Int.dvd_add ((gOn_dvd.1 ON.out).2) (Int.dvd_mul_left _ _)⟩
      have i0 : (0 : Int) ≤ (j : Int) := Int.natCast_nonneg _
      have i1 : (j : Int) < (n : Int) := by omega
      by_cases hz : j = 0
      · subst hz
        obtain ⟨x, hxx⟩ : ∃ x, f + ((0 : Nat) : Int) * e = x := ⟨_, rfl⟩
        rw [hxx] at hc1 hx z1
        have g1 : decide (x < a) = false := decide_eq_false (by omega)
        have g2 : decide (b ≤ x) = false := decide_eq_false (by omega)
        have HX := Hid.of hx
        rw [Nat.add_zero] at hc1
        have i2 : (0 : Int) < (n : Int) := by omega
        clear i0 i1 hx hxx z0 hl1 z1
        go_wp2
        go_quiet ((go_at_call 18; exact quiet_more (On_named HX.out _)))
        go_wp2
        go_roundw
        case rel => exact ⟨1, by omega, rfl, _, rfl⟩
        case measure => simp [RowKit.intOf]; omega
      · obtain ⟨k, hk⟩ : ∃ k, j = k + 1 := ⟨j - 1, by omega⟩
        obtain ⟨b2, o2, ho2, hl2, hc2⟩ := int_at HV.out k (by rw [gRow_length]; omega) (gRow_length _ _ _).symm
        simp only [Option.some.injEq, Addr.mk.injEq, and_true] at ho2
        obtain ⟨rfl, rfl⟩ := ho2
        rw [gRow_get f e n k (by omega)] at hc2
        obtain ⟨y0, y1, _⟩ := count_in he HN.out (show k < n by omega)
        obtain ⟨x, hxx⟩ : ∃ x, f + (j : Int) * e = x := ⟨_, rfl⟩
        obtain ⟨y, hyy⟩ : ∃ y, f + (k : Int) * e = y := ⟨_, rfl⟩
        have hxy : y + e = x := by
          rw [← hxx, ← hyy, hk]
          push_cast
          rw [Int.add_mul, Int.one_mul]
          omega
        rw [hxx] at hc1 hx z1
        rw [hyy] at hc2 y1
        have g1 : decide (x < a) = false := decide_eq_false (by omega)
        have g2 : decide (b ≤ x) = false := decide_eq_false (by omega)
        have s0 : IntKind.i64.wrap (y + e) = x := by rw [IntKind.wrap_i64]; omega
        have s1 : IntKind.i64.wrap ((j : Int) - 1) = (k : Int) := by rw [IntKind.wrap_i64]; omega
        have k0 : (0 : Int) ≤ (k : Int) := Int.natCast_nonneg _
        have k1 : (k : Int) < (n : Int) := by omega
        have HX := Hid.of hx
        clear hx hxx hyy hxy z0 hl1 hl2 z1 y0 y1 hk
        go_wp2
        have g3 : decide ((0 : Int) < (j : Int)) = true := decide_eq_true (by omega)
        have g4 : decide (0 < j) = true := decide_eq_true (by omega)
        have g5 : 0 < j := by omega
        go_quiet ((go_at_call 18; exact quiet_more (On_named HX.out _)))
        go_wp2
        go_roundw
        case rel => exact ⟨j + 1, by omega, by go_num, _, rfl⟩
        case measure => simp [RowKit.intOf]; omega
    · have : j = n := by omega
      subst this
      clear hlt
      go_wp2
      go_loopw [10, 11] (fun c t wr => ∃ (m : Nat) (y : Int), a ≤ y ∧ y ≤ b ∧ t = .int .i64 y ∧ c = .int .i64 m ∧ (m : Int) ≤ y - a ∧ Hid (gCount a f y e = (m : Int)) ∧ ∃ q, wr = w1.drewN q) (fun _ t _ => (b - RowKit.intOf t).toNat)
      case atStart => exact ⟨0, a, Int.le_refl _, h5, rfl, rfl, by omega, Hid.of H0.out, q, rfl⟩
      case round =>
        obtain ⟨m, y, y0, y1, rfl, rfl, hmj, HC, q2, rfl⟩ := hrel
        by_cases hlt : y < b
        · obtain ⟨r, hr⟩ : ∃ r, gOn y e = r := ⟨_, rfl⟩
          have hst := STEP.out y y0
          rw [HC.out, hr] at hst
          have HR := Hid.of hr
          have HS := Hid.of hst
          clear hr hst HC
          cases r
          · go_wp2_with fail
            refine (On_named HR.out _).mono ?_
            rintro x w2 ⟨rfl, q3, rfl⟩
            go_wp2
            go_roundw
            case rel => exact ⟨m, y + 1, by omega, by omega, rfl, rfl, by omega, Hid.of (by have := HS.out; simpa using this), _, rfl⟩
            case measure => simp [RowKit.intOf]; omega
          · go_wp2_with fail
            refine (On_named HR.out _).mono ?_
            rintro x w2 ⟨rfl, q3, rfl⟩
            go_wp2
            go_roundw
            case rel => exact ⟨m + 1, y + 1, by omega, by omega, rfl, by go_num, by omega, Hid.of (by have := HS.out; simpa using this), _, rfl⟩
            case measure => simp [RowKit.intOf]; omega
        · have : y = b := by omega
          subst this
          have : m = j := by have h := HC.out; rw [HN.out] at h; omega
          subst this
          go_wp2_with fail
          refine (TWO.out _).mono ?_
          rintro x w2 ⟨rfl, q3, rfl⟩
          go_wp2_with fail
          refine (gridAlive_any _).mono ?_
          rintro x w3 ⟨rfl, b3⟩
          have B3 := Hid.of (B1.out.trans ((below_drewN (Below.refl _ _) (q2 + q3)).trans (b3.mono B1.out.size)))
          clear b3
          go_wp2
          go_ret
          exact ⟨rfl, B3.out⟩

theorem starts_any (a b e : Int) (w : World) :
    Calls Try.prog 6 #[.int .i64 a, .int .i64 b, .int .i64 e] w fun e w' => e = .returned (.bool true) ∧ Below w.heap.size w w' := by
  by_cases h : e < 1 ∨ 1000 < e ∨ a < -10000 ∨ 10000 < a ∨ b < a ∨ a + 5000 < b
  · exact starts_light a b e h w
  · exact starts_main a b e (fun c => h (.inl c)) (fun c => h (.inr (.inl c))) (fun c => h (.inr (.inr (.inl c)))) (fun c => h (.inr (.inr (.inr (.inl c))))) (fun c => h (.inr (.inr (.inr (.inr (.inl c)))))) (fun c => h (.inr (.inr (.inr (.inr (.inr c)))))) w

end Go.Proofs.Ytjmnffcmgigodaa
