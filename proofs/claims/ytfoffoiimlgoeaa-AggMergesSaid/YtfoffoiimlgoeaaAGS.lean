/-
  What functions sign, one, sum, count and join of package agg answer.
-/
import Derived.Test.YtfoffoiimlgoeaaAGV
import Derived.Laws.Externs
import Derived.Deep.RegionHeld3
namespace Go.Proofs.Ytfoffoiimlgoeaa
open Go.RowKit Go.Lib

theorem agSign_shift (v : Int) (h1 : -9223372036854775808 ≤ v) (h2 : v ≤ 9223372036854775807) : v / 9223372036854775808 = agSign v := by
  unfold agSign
  split <;> omega

theorem aggSign_any (v : Int) (h1 : -9223372036854775808 ≤ v) (h2 : v ≤ 9223372036854775807) (w : World) : Calls Try.prog 37 #[.int .i64 v] w fun e w' => e = .returned (.int .i64 (agSign v)) ∧ w = w' := by
  have H := Hid.of (agSign_shift v h1 h2)
  go_enter Try.func37, Try.ntmps37
  go_wp2
  rw [H.out]
  go_ret
  exact ⟨rfl, rfl⟩

theorem u64_wrap (x : Int) : IntKind.u64.wrap x = x % 18446744073709551616 := by
  unfold IntKind.wrap
  rfl

theorem aggOne_any (v : Int) (h1 : -9223372036854775808 ≤ v) (h2 : v ≤ 9223372036854775807) (w : World) : Calls Try.prog 30 #[.int .i64 v] w fun e w' => e = .returned (agv (agOne v)) ∧ Below w.heap.size w w' := by
  go_enter Try.func30, Try.ntmps30
  go_wp2_with fail
  refine (aggSign_any v h1 h2 _).mono ?_
  rintro e w1 ⟨rfl, rfl⟩
  go_wp2
  refine bodyPost_ret (v := agv (agOne v)) ?_ rfl ⟨rfl, ?_⟩
  · rw [u64_wrap]
    simp [results, Try.results30, go_sem, agOne]
  · exact (Below.refl _ _).alloc (Nat.le_refl _) _

theorem add64 (x y c : Int) (hx : 0 ≤ x) (hy : 0 ≤ y) (hc0 : 0 ≤ c) (hc : c ≤ 1) (w : World) : (callFunc 52 #[.int .u64 x, .int .u64 y, .int .u64 c]).run Try.prog w =
    .ok (.value (.tuple #[.int .u64 ((x + y + c) % 18446744073709551616), .int .u64 ((x + y + c) / 18446744073709551616)])) w := by
  rw [run_callFunc_extern Try.func52 (by kernel_rfl) (by kernel_rfl) (by kernel_rfl) (e := add64Entry) (by kernel_rfl), run_add64 x y c hx hy hc0 hc]
  rfl

theorem add64_0 (x y : Int) (hx : 0 ≤ x) (hy : 0 ≤ y) (w : World) : (callFunc 52 #[.int .u64 x, .int .u64 y, .int .u64 0]).run Try.prog w =
    .ok (.value (.tuple #[.int .u64 ((x + y) % 18446744073709551616), .int .u64 ((x + y) / 18446744073709551616)])) w := by
  simpa using add64 x y 0 hx hy (Int.le_refl 0) (by decide) w

theorem agHigh (x y k : Int) : wrap64 ((IntKind.u64.wrap x + IntKind.u64.wrap y + k) % 18446744073709551616) = w64 (x + y + k) := by
  rw [u64_wrap, u64_wrap]
  unfold w64 wrap64
  omega

theorem aggSum_any (a b : Ag) (ha : AgIn a) (hb : AgIn b) (w : World) : Calls Try.prog 43 #[agv a, agv b] w fun e w' => e = .returned (.tuple #[.int .i64 (agBoth a b).hi, .int .u64 (agBoth a b).lo]) ∧ Below w.heap.size w w' := by
  obtain ⟨c, hi, lo, mn, mx⟩ := a
  obtain ⟨c', hi', lo', mn', mx'⟩ := b
  obtain ⟨a1, a2, a3, a4, a5⟩ := ha
  obtain ⟨b1, b2, b3, b4, b5⟩ := hb
  simp only at a1 a2 a3 a4 a5 b1 b2 b3 b4 b5
  have k0 : 0 ≤ (lo + lo') / 18446744073709551616 := by omega
  have k1 : (lo + lo') / 18446744073709551616 ≤ 1 := by omega
  have k2 : 0 ≤ IntKind.u64.wrap hi := by rw [u64_wrap]; omega
  have k3 : 0 ≤ IntKind.u64.wrap hi' := by rw [u64_wrap]; omega
  go_enter Try.func43, Try.ntmps43
  go_wp2_with (first | simp only [add64_0 lo lo' a3.1 b3.1] | simp only [add64 _ _ _ k2 k3 k0 k1])
  rw [agHigh hi hi']
  go_ret2
  exact ⟨rfl, ((Below.refl _ _).alloc (Nat.le_refl _) _).alloc (by simp) _⟩

set_option maxHeartbeats 400000 in
theorem aggCount_any (a b : Ag) (ha : agOk a = true) (hb : agOk b = true) (w : World) : Calls Try.prog 44 #[agv a, agv b] w fun e w' => e = .returned (.int .i64 (agBoth a b).c) ∧ Below w.heap.size w w' := by
  rw [agOk_iff] at ha hb
  obtain ⟨c, hi, lo, mn, mx⟩ := a
  obtain ⟨c', hi', lo', mn', mx'⟩ := b
  simp only [agBoth] at ha hb ⊢
  by_cases h : 4611686018427387904 - c' < c
  · have e : min (c + c') 4611686018427387904 = 4611686018427387904 := by omega
    rw [e]
    clear e
    go_enter Try.func44, Try.ntmps44
    go_wp2
    go_ret
    exact ⟨rfl, ((Below.refl _ _).alloc (Nat.le_refl _) _).alloc (by simp) _⟩
  · have e : min (c + c') 4611686018427387904 = c + c' := by omega
    rw [e]
    clear e
    go_enter Try.func44, Try.ntmps44
    go_wp2
    go_ret
    exact ⟨rfl, ((Below.refl _ _).alloc (Nat.le_refl _) _).alloc (by simp) _⟩

end Go.Proofs.Ytfoffoiimlgoeaa
