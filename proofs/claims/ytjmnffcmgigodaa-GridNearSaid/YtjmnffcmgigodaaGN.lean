/-
  What statement GridNear answers: true, for every input.
-/
import Derived.Test.YtjmnffcmgigodaaGA
namespace Go.Proofs.Ytjmnffcmgigodaa
open Go.RowKit Go.Lib

set_option maxHeartbeats 800000 in
theorem near_light (t e : Int) (h : e < 1 ∨ t < -4611686018427387904 ∨ 4611686018427387904 < t ∨ 2305843009213693952 < e) (w : World) :
    Calls Try.prog 4 #[.int .i64 t, .int .i64 e] w fun e w' => e = .returned (.bool true) ∧ Below w.heap.size w w' := by
  have hs : e < 1 ∨ (¬ e < 1 ∧ t < -4611686018427387904) ∨ (¬ e < 1 ∧ ¬ t < -4611686018427387904 ∧ 4611686018427387904 < t) ∨ (¬ e < 1 ∧ ¬ t < -4611686018427387904 ∧ ¬ 4611686018427387904 < t ∧ 2305843009213693952 < e) := by omega
  clear h
  rcases hs with h1 | ⟨h1, h2⟩ | ⟨h1, h2, h3⟩ | ⟨h1, h2, h3, h4⟩
  all_goals
    go_enter Try.func4, Try.ntmps4
    go_wp2_with fail
    refine (gridAlive_any _).mono ?_
    rintro e w1 ⟨rfl, b1⟩
    go_wp2
    go_ret
    exact ⟨rfl, b1⟩

set_option maxHeartbeats 1600000 in
theorem near_main (t e : Int) (h1 : ¬ e < 1) (h2 : ¬ t < -4611686018427387904) (h3 : ¬ 4611686018427387904 < t) (h4 : ¬ 2305843009213693952 < e) (w : World) :
    Calls Try.prog 4 #[.int .i64 t, .int .i64 e] w fun e w' => e = .returned (.bool true) ∧ Below w.heap.size w w' := by
  obtain ⟨a1, a2, a3, a4, a5, a6, a7, a8, a9⟩ := near_asked t e (by omega) (by omega) (by omega) (by omega)
  have HT : Hid (I64 t) := Hid.of (by unfold I64; omega)
  have HE : Hid (I64 e) := Hid.of (by unfold I64; omega)
  obtain ⟨f, hf⟩ : ∃ f, gFloor t e = f := ⟨_, rfl⟩
  obtain ⟨c, hc⟩ : ∃ c, gCeil t e = c := ⟨_, rfl⟩
  rw [hf] at a1 a2 a5 a7 a8
  rw [hc] at a3 a4 a6 a7 a9
  have HF := Hid.of hf
  have HC := Hid.of hc
  have A5 := Hid.of a5
  have A6 := Hid.of a6
  have A7 := Hid.of a7.symm
  clear hf hc a5 a6 a7
  go_enter Try.func4, Try.ntmps4
  go_wp2_with fail
  refine (Floor_named HF.out HT.out HE.out _).mono ?_
  rintro x w1 ⟨rfl, q1, rfl⟩
  go_wp2_with fail
  refine (Ceil_named HC.out HT.out HE.out _).mono ?_
  rintro x w1 ⟨rfl, q2, rfl⟩
  go_wp2_with fail
  refine (gridAlive_any _).mono ?_
  rintro x w1 ⟨rfl, b1⟩
  have B1 := Hid.of ((below_drewN (Below.refl _ w) (q1 + q2)).trans b1)
  clear b1
  go_wp2_with fail
  refine (On_named A5.out _).mono ?_
  rintro x w2 ⟨rfl, q3, rfl⟩
  go_wp2_with fail
  refine (On_named A6.out _).mono ?_
  rintro x w2 ⟨rfl, q4, rfl⟩
  go_wp2_with fail
  refine (On_named A7.out _).mono ?_
  rintro x w2 ⟨rfl, q5, rfl⟩
  go_wp2
  go_ret
  exact ⟨by simp; rfl, below_drewN B1.out _⟩

theorem near_any (t e : Int) (w : World) :
    Calls Try.prog 4 #[.int .i64 t, .int .i64 e] w fun e w' => e = .returned (.bool true) ∧ Below w.heap.size w w' := by
  by_cases h : e < 1 ∨ t < -4611686018427387904 ∨ 4611686018427387904 < t ∨ 2305843009213693952 < e
  · exact near_light t e h w
  · exact near_main t e (fun c => h (.inl c)) (fun c => h (.inr (.inl c))) (fun c => h (.inr (.inr (.inl c)))) (fun c => h (.inr (.inr (.inr c)))) w

end Go.Proofs.Ytjmnffcmgigodaa
