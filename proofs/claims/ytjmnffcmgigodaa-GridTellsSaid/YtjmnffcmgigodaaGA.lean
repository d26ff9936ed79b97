/-
  What alive answers: true.
-/
import Derived.Test.YtjmnffcmgigodaaBKM
import Derived.Test.YtjmnffcmgigodaaGS
namespace Go.Proofs.Ytjmnffcmgigodaa
open Go.RowKit Go.Lib

theorem gridAlive_starts (w : World) :
    Calls Try.prog 9 #[.int .i64 5, .int .i64 31, .int .i64 10, .int .i64 9] w fun x w' => ∃ v, x = .returned (.tuple #[v, .bool true]) ∧ w'.ownsRow w.heap.size 3 1 v 3 ((gRow 10 10 3).map (Value.int .i64)) ∧ Below w.heap.size w w' :=
  Starts_main 5 31 10 9 3 (by omega) (by omega) (by omega) (by unfold I64; omega) (by unfold I64; omega) (by unfold I64; omega) 10 (by decide) (by decide) (by omega) w

theorem Floor_named {t e r : Int} (hr : gFloor t e = r) (ht : I64 t) (he : I64 e) (w : World) : Calls Try.prog 14 #[.int .i64 t, .int .i64 e] w fun x w' => x = .returned (.int .i64 r) ∧ ∃ q, w' = w.drewN q := by
  rw [← hr]; exact Floor_any t e ht he w

theorem Ceil_named {t e r : Int} (hr : gCeil t e = r) (ht : I64 t) (he : I64 e) (w : World) : Calls Try.prog 16 #[.int .i64 t, .int .i64 e] w fun x w' => x = .returned (.int .i64 r) ∧ ∃ q, w' = w.drewN q := by
  rw [← hr]; exact Ceil_any t e ht he w

theorem Back_named {n k e r : Int} (hr : gBack n k e = r) (hn : I64 n) (hk : I64 k) (he : I64 e) (w : World) : Calls Try.prog 21 #[.int .i64 n, .int .i64 k, .int .i64 e] w fun x w' => x = .returned (.int .i64 r) ∧ ∃ q, w' = w.drewN q := by
  rw [← hr]; exact Back_any n k e hn hk he w

theorem Divides_named {e t : Int} {r : Bool} (hr : gOn t e = r) (w : World) : Calls Try.prog 20 #[.int .i64 e, .int .i64 t] w fun x w' => x = .returned (.bool r) ∧ ∃ q, w' = w.drewN q := by
  rw [← hr]; exact Divides_any e t w

theorem On_named {t e : Int} {r : Bool} (hr : gOn t e = r) (w : World) : Calls Try.prog 18 #[.int .i64 t, .int .i64 e] w fun x w' => x = .returned (.bool r) ∧ ∃ q, w' = w.drewN q := by
  rw [← hr]; exact On_any t e w

set_option maxHeartbeats 800000 in
theorem gridAlive_any (w : World) : Calls Try.prog 13 #[] w fun e w' => e = .returned (.bool true) ∧ Below w.heap.size w w' := by
  go_enter Try.func13, Try.ntmps13
  go_wp2_with fail
  refine (gridAlive_starts _).mono ?_
  rintro x w1 ⟨v, rfl, o1, b1⟩
  obtain ⟨va, vc, rfl, hv⟩ := own_cells o1
  obtain ⟨b, o, rfl, hl, hc⟩ := hv.resolve_left (by simp [gRow])
  have hc0 := hc 0 (.int .i64 10) (by rfl)
  rw [Nat.add_zero] at hc0
  have B1 := Hid.of b1
  clear o1 b1 hc hl hv
  go_wp2_with fail
  refine (Floor_named (r := -10) (by decide) (by unfold I64; omega) (by unfold I64; omega) _).mono ?_
  rintro x w2 ⟨rfl, q1, rfl⟩
  go_wp2_with fail
  refine (Ceil_named (r := 20) (by decide) (by unfold I64; omega) (by unfold I64; omega) _).mono ?_
  rintro x w2 ⟨rfl, q2, rfl⟩
  go_wp2_with fail
  refine (Back_named (r := 30) (by decide) (by unfold I64; omega) (by unfold I64; omega) (by unfold I64; omega) _).mono ?_
  rintro x w2 ⟨rfl, q3, rfl⟩
  go_wp2_with fail
  refine (Divides_named (r := true) (by decide) _).mono ?_
  rintro x w2 ⟨rfl, q4, rfl⟩
  go_wp2_with fail
  refine (Divides_named (r := false) (by decide) _).mono ?_
  rintro x w2 ⟨rfl, q5, rfl⟩
  go_wp2
  go_ret
  exact ⟨rfl, below_drewN B1.out _⟩

end Go.Proofs.Ytjmnffcmgigodaa
