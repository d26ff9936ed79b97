/-
  What statement GridBack answers: true, for every input.
-/
import Derived.Test.YtjmnffcmgigodaaGA
namespace Go.Proofs.Ytjmnffcmgigodaa
open Go.RowKit Go.Lib

set_option maxHeartbeats 800000 in
theorem back_light (n m k e : Int) (h : n < 0 ∨ 2305843009213693952 < n ∨ m < 0 ∨ 2305843009213693952 < m ∨ e < 1) (w : World) :
    Calls Try.prog 5 #[.int .i64 n, .int .i64 m, .int .i64 k, .int .i64 e] w fun e w' => e = .returned (.bool true) ∧ Below w.heap.size w w' := by
  have hs : n < 0 ∨ (¬ n < 0 ∧ 2305843009213693952 < n) ∨ (¬ n < 0 ∧ ¬ 2305843009213693952 < n ∧ m < 0) ∨ (¬ n < 0 ∧ ¬ 2305843009213693952 < n ∧ ¬ m < 0 ∧ 2305843009213693952 < m) ∨ (¬ n < 0 ∧ ¬ 2305843009213693952 < n ∧ ¬ m < 0 ∧ ¬ 2305843009213693952 < m ∧ e < 1) := by omega
  clear h
  rcases hs with h1 | ⟨h1, h2⟩ | ⟨h1, h2, h3⟩ | ⟨h1, h2, h3, h4⟩ | ⟨h1, h2, h3, h4, h5⟩
  all_goals
    go_enter Try.func5, Try.ntmps5
    go_wp2_with fail
    refine (gridAlive_any _).mono ?_
    rintro e w1 ⟨rfl, b1⟩
    go_wp2
    go_ret
    exact ⟨rfl, b1⟩

set_option maxHeartbeats 1600000 in
theorem back_main (n m k e : Int) (h1 : ¬ n < 0) (h2 : ¬ 2305843009213693952 < n) (h3 : ¬ m < 0) (h4 : ¬ 2305843009213693952 < m) (h5 : ¬ e < 1) (hk : I64 k) (he : I64 e) (w : World) :
    Calls Try.prog 5 #[.int .i64 n, .int .i64 m, .int .i64 k, .int .i64 e] w fun e w' => e = .returned (.bool true) ∧ Below w.heap.size w w' := by
  obtain ⟨a1, a2, a3, a4⟩ := back_asked n m k e (by omega) (by omega) (by omega) (by omega) (by omega) hk he
  have HN : Hid (I64 n) := Hid.of (by unfold I64; omega)
  have HM : Hid (I64 (n + m)) := Hid.of (by unfold I64; omega)
  have HK := Hid.of hk
  have HE := Hid.of he
  obtain ⟨f, hf⟩ : ∃ f, gBack n k e = f := ⟨_, rfl⟩
  obtain ⟨c, hc⟩ : ∃ c, gBack (n + m) k e = c := ⟨_, rfl⟩
  rw [hf] at a1 a2 a3 a4
  rw [hc] at a2
  have HF := Hid.of hf
  have HC := Hid.of hc
  have A3 := Hid.of a3
  have k9 : k ≤ 9223372036854775807 := hk.2
  clear hf hc a3 hk he
  have key : k < 0 ∨ (¬ k < 0 ∧ n - k < 0 ∧ f ≤ 0) ∨ (¬ k < 0 ∧ ¬ n - k < 0 ∧ f ≤ n - k) := by omega
  clear a4
  rcases key with g1 | ⟨g1, g2, g3⟩ | ⟨g1, g2, g3⟩
  all_goals
    go_enter Try.func5, Try.ntmps5
    go_wp2_with fail
    refine (Back_named HF.out HN.out HK.out HE.out _).mono ?_
    rintro x w1 ⟨rfl, q1, rfl⟩
    go_wp2_with fail
    refine (Back_named HC.out HM.out HK.out HE.out _).mono ?_
    rintro x w1 ⟨rfl, q2, rfl⟩
    go_wp2_with fail
    refine (gridAlive_any _).mono ?_
    rintro x w1 ⟨rfl, b1⟩
    have B1 := Hid.of ((below_drewN (Below.refl _ w) (q1 + q2)).trans b1)
    clear b1
    go_wp2_with fail
    refine (On_named A3.out _).mono ?_
    rintro x w2 ⟨rfl, q3, rfl⟩
    go_wp2
    go_ret
    exact ⟨by rfl, below_drewN B1.out _⟩

theorem back_any (n m k e : Int) (hk : I64 k) (he : I64 e) (w : World) :
    Calls Try.prog 5 #[.int .i64 n, .int .i64 m, .int .i64 k, .int .i64 e] w fun e w' => e = .returned (.bool true) ∧ Below w.heap.size w w' := by
  by_cases h : n < 0 ∨ 2305843009213693952 < n ∨ m < 0 ∨ 2305843009213693952 < m ∨ e < 1
  · exact back_light n m k e h w
  · exact back_main n m k e (fun c => h (.inl c)) (fun c => h (.inr (.inl c))) (fun c => h (.inr (.inr (.inl c)))) (fun c => h (.inr (.inr (.inr (.inl c))))) (fun c => h (.inr (.inr (.inr (.inr c))))) hk he w

end Go.Proofs.Ytjmnffcmgigodaa
