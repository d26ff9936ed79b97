/-
  What statement GridShifts answers: true, for every input.
-/
import Derived.Test.YtjmnffcmgigodaaGA
namespace Go.Proofs.Ytjmnffcmgigodaa
open Go.RowKit Go.Lib

set_option maxHeartbeats 800000 in
theorem shifts_light (t e k : Int) (h : e < 1 ∨ 1048576 < e ∨ k < 1 ∨ 1048576 < k ∨ t < -1125899906842624 ∨ 1125899906842624 < t) (w : World) :
    Calls Try.prog 7 #[.int .i64 t, .int .i64 e, .int .i64 k] w fun e w' => e = .returned (.bool true) ∧ Below w.heap.size w w' := by
  have hs : e < 1 ∨ (¬ e < 1 ∧ 1048576 < e) ∨ (¬ e < 1 ∧ ¬ 1048576 < e ∧ k < 1) ∨ (¬ e < 1 ∧ ¬ 1048576 < e ∧ ¬ k < 1 ∧ 1048576 < k) ∨ (¬ e < 1 ∧ ¬ 1048576 < e ∧ ¬ k < 1 ∧ ¬ 1048576 < k ∧ t < -1125899906842624) ∨ (¬ e < 1 ∧ ¬ 1048576 < e ∧ ¬ k < 1 ∧ ¬ 1048576 < k ∧ ¬ t < -1125899906842624 ∧ 1125899906842624 < t) := by omega
  clear h
  rcases hs with h1 | ⟨h1, h2⟩ | ⟨h1, h2, h3⟩ | ⟨h1, h2, h3, h4⟩ | ⟨h1, h2, h3, h4, h5⟩ | ⟨h1, h2, h3, h4, h5, h6⟩
  all_goals
    go_enter Try.func7, Try.ntmps7
    go_wp2_with fail
    refine (gridAlive_any _).mono ?_
    rintro e w1 ⟨rfl, b1⟩
    go_wp2
    go_ret
    exact ⟨rfl, b1⟩

set_option maxHeartbeats 1600000 in
theorem shifts_main (t e k : Int) (h1 : ¬ e < 1) (h2 : ¬ 1048576 < e) (h3 : ¬ k < 1) (h4 : ¬ 1048576 < k) (h5 : ¬ t < -1125899906842624) (h6 : ¬ 1125899906842624 < t) (w : World) :
    Calls Try.prog 7 #[.int .i64 t, .int .i64 e, .int .i64 k] w fun e w' => e = .returned (.bool true) ∧ Below w.heap.size w w' := by
  obtain ⟨a1, a2, a3, a4, a5, a6, a7⟩ := shifts_asked t e k (by omega) (by omega) (by omega) (by omega) (by omega) (by omega)
  obtain ⟨m, hm⟩ : ∃ m, e * k = m := ⟨_, rfl⟩
  rw [hm] at a1 a2 a4
  obtain ⟨f, hf⟩ : ∃ f, gFloor t e = f := ⟨_, rfl⟩
  rw [hf] at a3 a4 a5 a6 a7
  obtain ⟨g, hg⟩ : ∃ g, gFloor t m = g := ⟨_, rfl⟩
  rw [hg] at a4
  have HT : Hid (I64 t) := Hid.of (by unfold I64; omega)
  have HN : Hid (I64 (-t)) := Hid.of (by unfold I64; omega)
  have HTE : Hid (I64 (t + e)) := Hid.of (by unfold I64; omega)
  have HE : Hid (I64 e) := Hid.of (by unfold I64; omega)
  have HM : Hid (I64 m) := Hid.of (by unfold I64; omega)
  have HF : Hid (I64 f) := Hid.of (by unfold I64; omega)
  have F := Hid.of hf
  have G := Hid.of hg
  have A3 := Hid.of a3
  have A4 := Hid.of a4
  have A5 := Hid.of a5
  clear hf hg a3 a4 a5
  go_enter Try.func7, Try.ntmps7
  go_wp2_with fail
  refine (gridAlive_any _).mono ?_
  rintro x w1 ⟨rfl, b1⟩
  have B1 := Hid.of b1
  clear b1
  go_wp2_with fail
  refine (Floor_named A3.out HTE.out HE.out _).mono ?_
  rintro x w2 ⟨rfl, q1, rfl⟩
  go_wp2_with fail
  refine (Floor_named F.out HT.out HE.out _).mono ?_
  rintro x w2 ⟨rfl, q2, rfl⟩
  go_wp2_with fail
  refine (Floor_named F.out HT.out HE.out _).mono ?_
  rintro x w2 ⟨rfl, q3, rfl⟩
  go_wp2_with fail
  refine (Floor_named A4.out HF.out HM.out _).mono ?_
  rintro x w2 ⟨rfl, q4, rfl⟩
  go_wp2_with fail
  refine (Floor_named G.out HT.out HM.out _).mono ?_
  rintro x w2 ⟨rfl, q5, rfl⟩
  go_wp2_with fail
  refine (Ceil_named A5.out HN.out HE.out _).mono ?_
  rintro x w2 ⟨rfl, q6, rfl⟩
  go_wp2_with fail
  refine (Floor_named F.out HT.out HE.out _).mono ?_
  rintro x w2 ⟨rfl, q7, rfl⟩
  go_wp2
  go_ret
  exact ⟨by rfl, below_drewN B1.out _⟩

theorem shifts_any (t e k : Int) (w : World) :
    Calls Try.prog 7 #[.int .i64 t, .int .i64 e, .int .i64 k] w fun e w' => e = .returned (.bool true) ∧ Below w.heap.size w w' := by
  by_cases h : e < 1 ∨ 1048576 < e ∨ k < 1 ∨ 1048576 < k ∨ t < -1125899906842624 ∨ 1125899906842624 < t
  · exact shifts_light t e k h w
  · exact shifts_main t e k (fun c => h (.inl c)) (fun c => h (.inr (.inl c))) (fun c => h (.inr (.inr (.inl c)))) (fun c => h (.inr (.inr (.inr (.inl c))))) (fun c => h (.inr (.inr (.inr (.inr (.inl c)))))) (fun c => h (.inr (.inr (.inr (.inr (.inr c)))))) w

end Go.Proofs.Ytjmnffcmgigodaa
