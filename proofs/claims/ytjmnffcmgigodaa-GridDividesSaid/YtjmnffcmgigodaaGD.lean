/-
  What statement GridDivides answers: true, for every input.
-/
import Derived.Test.YtjmnffcmgigodaaGA
namespace Go.Proofs.Ytjmnffcmgigodaa
open Go.RowKit Go.Lib

set_option maxHeartbeats 1600000 in
theorem divides_main (a b c : Int) (x y : Bool) (hx : gOn b a = x) (hy : gOn c b = y) (w : World) :
    Calls Try.prog 8 #[.int .i64 a, .int .i64 b, .int .i64 c] w fun e w' => e = .returned (.bool true) ∧ Below w.heap.size w w' := by
  have hz : x = true → y = true → gOn c a = true := fun h1 h2 => divides_asked a b c (hx.trans h1) (hy.trans h2)
  have HX := Hid.of hx
  have HY := Hid.of hy
  have HZ := Hid.of hz
  clear hx hy hz
  by_cases ha : a < 1
  · have hs : gOn a a = false := by rw [gOn_self, decide_eq_false (by omega)]
    have HS := Hid.of hs
    clear hs
    cases x <;> cases y
    · go_enter Try.func8, Try.ntmps8
      go_wp2_with fail
      refine (gridAlive_any _).mono ?_
      rintro e w1 ⟨rfl, b1⟩
      have B1 := Hid.of b1
      clear b1
      go_wp2_with fail
      refine (Divides_named HX.out _).mono ?_
      rintro e w2 ⟨rfl, q1, rfl⟩
      go_wp2_with fail
      refine (Divides_named HS.out _).mono ?_
      rintro e w2 ⟨rfl, q4, rfl⟩
      go_wp2
      go_ret
      exact ⟨by simp; omega, below_drewN B1.out _⟩
    · go_enter Try.func8, Try.ntmps8
      go_wp2_with fail
      refine (gridAlive_any _).mono ?_
      rintro e w1 ⟨rfl, b1⟩
      have B1 := Hid.of b1
      clear b1
      go_wp2_with fail
      refine (Divides_named HX.out _).mono ?_
      rintro e w2 ⟨rfl, q1, rfl⟩
      go_wp2_with fail
      refine (Divides_named HS.out _).mono ?_
      rintro e w2 ⟨rfl, q4, rfl⟩
      go_wp2
      go_ret
      exact ⟨by simp; omega, below_drewN B1.out _⟩
    · go_enter Try.func8, Try.ntmps8
      go_wp2_with fail
      refine (gridAlive_any _).mono ?_
      rintro e w1 ⟨rfl, b1⟩
      have B1 := Hid.of b1
      clear b1
      go_wp2_with fail
      refine (Divides_named HX.out _).mono ?_
      rintro e w2 ⟨rfl, q1, rfl⟩
      go_wp2_with fail
      refine (Divides_named HY.out _).mono ?_
      rintro e w2 ⟨rfl, q2, rfl⟩
      go_wp2_with fail
      refine (Divides_named HS.out _).mono ?_
      rintro e w2 ⟨rfl, q4, rfl⟩
      go_wp2
      go_ret
      exact ⟨by simp; omega, below_drewN B1.out _⟩
    · go_enter Try.func8, Try.ntmps8
      go_wp2_with fail
      refine (gridAlive_any _).mono ?_
      rintro e w1 ⟨rfl, b1⟩
      have B1 := Hid.of b1
      clear b1
      go_wp2_with fail
      refine (Divides_named HX.out _).mono ?_
      rintro e w2 ⟨rfl, q1, rfl⟩
      go_wp2_with fail
      refine (Divides_named HY.out _).mono ?_
      rintro e w2 ⟨rfl, q2, rfl⟩
      go_wp2_with fail
      refine (Divides_named (HZ.out (by simp) (by simp)) _).mono ?_
      rintro e w2 ⟨rfl, q3, rfl⟩
      go_wp2_with fail
      refine (Divides_named HS.out _).mono ?_
      rintro e w2 ⟨rfl, q4, rfl⟩
      go_wp2
      go_ret
      exact ⟨by simp; omega, below_drewN B1.out _⟩
  · have hs : gOn a a = true := by rw [gOn_self, decide_eq_true (by omega)]
    have h0 : gOn 0 a = true := gOn_zero (by omega)
    have HS := Hid.of hs
    have H0 := Hid.of h0
    clear hs h0
    cases x <;> cases y
    · go_enter Try.func8, Try.ntmps8
      go_wp2_with fail
      refine (gridAlive_any _).mono ?_
      rintro e w1 ⟨rfl, b1⟩
      have B1 := Hid.of b1
      clear b1
      go_wp2_with fail
      refine (Divides_named HX.out _).mono ?_
      rintro e w2 ⟨rfl, q1, rfl⟩
      go_wp2_with fail
      refine (Divides_named HS.out _).mono ?_
      rintro e w2 ⟨rfl, q4, rfl⟩
      go_wp2_with fail
      refine (Divides_named H0.out _).mono ?_
      rintro e w2 ⟨rfl, q5, rfl⟩
      go_wp2
      go_ret
      exact ⟨rfl, below_drewN B1.out _⟩
    · go_enter Try.func8, Try.ntmps8
      go_wp2_with fail
      refine (gridAlive_any _).mono ?_
      rintro e w1 ⟨rfl, b1⟩
      have B1 := Hid.of b1
      clear b1
      go_wp2_with fail
      refine (Divides_named HX.out _).mono ?_
      rintro e w2 ⟨rfl, q1, rfl⟩
      go_wp2_with fail
      refine (Divides_named HS.out _).mono ?_
      rintro e w2 ⟨rfl, q4, rfl⟩
      go_wp2_with fail
      refine (Divides_named H0.out _).mono ?_
      rintro e w2 ⟨rfl, q5, rfl⟩
      go_wp2
      go_ret
      exact ⟨rfl, below_drewN B1.out _⟩
    · go_enter Try.func8, Try.ntmps8
      go_wp2_with fail
      refine (gridAlive_any _).mono ?_
      rintro e w1 ⟨rfl, b1⟩
      have B1 := Hid.of b1
      clear b1
      go_wp2_with fail
      refine (Divides_named HX.out _).mono ?_
      rintro e w2 ⟨rfl, q1, rfl⟩
      go_wp2_with fail
      refine (Divides_named HY.out _).mono ?_
      rintro e w2 ⟨rfl, q2, rfl⟩
      go_wp2_with fail
      refine (Divides_named HS.out _).mono ?_
      rintro e w2 ⟨rfl, q4, rfl⟩
      go_wp2_with fail
      refine (Divides_named H0.out _).mono ?_
      rintro e w2 ⟨rfl, q5, rfl⟩
      go_wp2
      go_ret
      exact ⟨rfl, below_drewN B1.out _⟩
    · go_enter Try.func8, Try.ntmps8
      go_wp2_with fail
      refine (gridAlive_any _).mono ?_
      rintro e w1 ⟨rfl, b1⟩
      have B1 := Hid.of b1
      clear b1
      go_wp2_with fail
      refine (Divides_named HX.out _).mono ?_
      rintro e w2 ⟨rfl, q1, rfl⟩
      go_wp2_with fail
      refine (Divides_named HY.out _).mono ?_
      rintro e w2 ⟨rfl, q2, rfl⟩
      go_wp2_with fail
      refine (Divides_named (HZ.out (by simp) (by simp)) _).mono ?_
      rintro e w2 ⟨rfl, q3, rfl⟩
      go_wp2_with fail
      refine (Divides_named HS.out _).mono ?_
      rintro e w2 ⟨rfl, q4, rfl⟩
      go_wp2_with fail
      refine (Divides_named H0.out _).mono ?_
      rintro e w2 ⟨rfl, q5, rfl⟩
      go_wp2
      go_ret
      exact ⟨rfl, below_drewN B1.out _⟩

theorem divides_any (a b c : Int) (w : World) :
    Calls Try.prog 8 #[.int .i64 a, .int .i64 b, .int .i64 c] w fun e w' => e = .returned (.bool true) ∧ Below w.heap.size w w' :=
  divides_main a b c _ _ rfl rfl w

end Go.Proofs.Ytjmnffcmgigodaa
