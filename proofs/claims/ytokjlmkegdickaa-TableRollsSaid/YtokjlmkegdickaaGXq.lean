/-
  What the document's own Floor, Ceil, On, Back, Starts answer.
-/
import Derived.Test.YtokjlmkegdickaaGSq
import Derived.Test.YtokjlmkegdickaaQ15
namespace Go.Proofs.Ytokjlmkegdickaa
open Go.RowKit Go.Lib

theorem ref_low {t e p : Int} (h1 : t < -9223372036854775808 + p) (h2 : -9223372036854775808 ≤ t) (p1 : p < e) (e9 : e ≤ 9223372036854775807) : wrap64 (wrap64 (t - p) + e) = t + (e - p) := by
  unfold wrap64
  omega

set_option maxHeartbeats 800000 in
theorem refFloor_any (t e : Int) (ht : I64 t) (he : I64 e) (w : World) :
    Calls Try.prog 25 #[.int .i64 t, .int .i64 e] w fun x w' => x = .returned (.int .i64 (gFloor t e)) ∧ ∃ q, w' = w.drewN q := by
  by_cases h1 : e < 1
  · have hf : gFloor t e = t := by unfold gFloor; rw [if_pos h1]
    rw [hf]
    go_enter Try.func25, Try.ntmps25
    go_wp2
    go_ret
    exact ⟨rfl, 0, rfl⟩
  · have h2 : 1 ≤ e := by omega
    have hf := Hid.of (Floor_case t e _ h2 rfl)
    obtain ⟨p0, p1⟩ := gPast_bounds t h2
    have hp := gPast_rem t h2
    have hl := rem_low t h2
    have hu := Int.tmod_lt_of_pos t (show 0 < e by omega)
    obtain ⟨r, hr⟩ : ∃ r, t.tmod e = r := ⟨_, rfl⟩
    rw [hr] at hp hl hu
    have e9 : e ≤ 9223372036854775807 := he.2
    have t0 : -9223372036854775808 ≤ t := ht.1
    have t9 : t ≤ 9223372036854775807 := ht.2
    have e0 : ¬ e = 0 := by omega
    obtain ⟨p, hpp⟩ : ∃ p, gPast t e = p := ⟨_, rfl⟩
    rw [hpp] at hf p0 p1 hp
    clear hpp ht he
    by_cases g0 : r < 0
    · rw [if_pos g0] at hp
      subst hp
      by_cases g : t < -9223372036854775808 + (r + e)
      · have HW := Hid.of (ref_low g t0 p1 e9)
        go_enter Try.func25, Try.ntmps25
        go_wp2
        go_ret
        rw [hf.out, if_pos g, ← HW.out]
        exact ⟨rfl, 0, rfl⟩
      · go_enter Try.func25, Try.ntmps25
        go_wp2
        go_ret
        rw [hf.out, if_neg (by omega)]
        exact ⟨rfl, 0, rfl⟩
    · rw [if_neg g0] at hp
      subst hp
      by_cases g : t < -9223372036854775808 + p
      · have HW := Hid.of (ref_low g t0 p1 e9)
        go_enter Try.func25, Try.ntmps25
        go_wp2
        go_ret
        rw [hf.out, if_pos g, ← HW.out]
        exact ⟨rfl, 0, rfl⟩
      · go_enter Try.func25, Try.ntmps25
        go_wp2
        go_ret
        rw [hf.out, if_neg (by omega)]
        exact ⟨rfl, 0, rfl⟩

theorem refCeil_case {t e : Int} (h : 1 ≤ e) (p : Int) (hp : gPast t e = p) : gCeil t e = if p = 0 then t else if 9223372036854775807 - (e - p) < t then t - p else t + (e - p) := by
  unfold gCeil
  rw [if_neg (by omega), hp]

theorem count_end {a f b e : Int} {n : Nat} (he : 1 ≤ e) (hn : gCount a f b e = (n : Int)) (h : 1 ≤ n) : b ≤ f + (n : Int) * e := by
  unfold gCount at hn
  split at hn
  · omega
  · have h1 := Int.mul_ediv_add_emod (b - 1 - f) e
    have h2 := Int.emod_lt_of_pos (b - 1 - f) (show 0 < e by omega)
    rw [← hn, Int.add_mul, Int.one_mul, Int.mul_comm]
    omega

theorem count_none {a f b e : Int} (he : 1 ≤ e) (hn : gCount a f b e = ((0 : Nat) : Int)) : f < a ∨ b ≤ f := by
  unfold gCount at hn
  split at hn
  · assumption
  · have := Int.ediv_nonneg (show 0 ≤ b - 1 - f by omega) (show 0 ≤ e by omega)
    omega

end Go.Proofs.Ytokjlmkegdickaa
