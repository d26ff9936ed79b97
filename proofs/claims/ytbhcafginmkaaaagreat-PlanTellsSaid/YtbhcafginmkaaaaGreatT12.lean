/-
  A bundle of texts: GX.
-/
import Derived.Test.YtbhcafginmkaaaaGreatT06
import Derived.Test.YtbhcafginmkaaaaGreatT04
import Derived.Test.YtbhcafginmkaaaaGreatT09
namespace Go.Proofs.YtbhcafginmkaaaaGreat
open Go.RowKit Go.Lib

theorem ref_low {t e p : Int} (h1 : t < -9223372036854775808 + p) (h2 : -9223372036854775808 ≤ t) (p1 : p < e) (e9 : e ≤ 9223372036854775807) : wrap64 (wrap64 (t - p) + e) = t + (e - p) := by
  unfold wrap64
  omega

set_option maxHeartbeats 800000 in
theorem refFloor_any (t e : Int) (ht : I64 t) (he : I64 e) (w : World) :
    Calls Tryz.prog 234 #[.int .i64 t, .int .i64 e] w fun x w' => x = .returned (.int .i64 (gFloor t e)) ∧ ∃ q, w' = w.drewN q := by
  by_cases h1 : e < 1
  · have hf : gFloor t e = t := by unfold gFloor; rw [if_pos h1]
    rw [hf]
    go_enter Tryz.func234, Tryz.ntmps234
    go_wp2
    go_ret
    exact ⟨rfl, 0, rfl⟩
  · have h2 : 1 ≤ e := by omega
    have hf := Hid.of (Floor_case t e _ h2 rfl)
    obtain ⟨p0, p1⟩ := gPast_bounds t h2
    have hp := gPast_rem t h2
    have hl := rem_low t h2
    have hu := Int.tmod_lt_of_pos t (show 0 < e by omega)
    obtain ⟨r, hr⟩ : ∃ r, t.tmod e = r := ⟨_, rfl⟩
    rw [hr] at hp hl hu
    have e9 : e ≤ 9223372036854775807 := he.2
    have t0 : -9223372036854775808 ≤ t := ht.1
    have t9 : t ≤ 9223372036854775807 := ht.2
    have e0 : ¬ e = 0 := by omega
    obtain ⟨p, hpp⟩ : ∃ p, gPast t e = p := ⟨_, rfl⟩
    rw [hpp] at hf p0 p1 hp
    clear hpp ht he
    by_cases g0 : r < 0
    · rw [if_pos g0] at hp
      subst hp
      by_cases g : t < -9223372036854775808 + (r + e)
      · have HW := Hid.of (ref_low g t0 p1 e9)
        go_enter Tryz.func234, Tryz.ntmps234
        go_wp2
        go_ret
        rw [hf.out, if_pos g, ← HW.out]
        exact ⟨rfl, 0, rfl⟩
      · go_enter Tryz.func234, Tryz.ntmps234
        go_wp2
        go_ret
        rw [hf.out, if_neg (by omega)]
        exact ⟨rfl, 0, rfl⟩
    · rw [if_neg g0] at hp
      subst hp
      by_cases g : t < -9223372036854775808 + p
      · have HW := Hid.of (ref_low g t0 p1 e9)
        go_enter Tryz.func234, Tryz.ntmps234
        go_wp2
        go_ret
        rw [hf.out, if_pos g, ← HW.out]
        exact ⟨rfl, 0, rfl⟩
      · go_enter Tryz.func234, Tryz.ntmps234
        go_wp2
        go_ret
        rw [hf.out, if_neg (by omega)]
        exact ⟨rfl, 0, rfl⟩

theorem refCeil_case {t e : Int} (h : 1 ≤ e) (p : Int) (hp : gPast t e = p) : gCeil t e = if p = 0 then t else if 9223372036854775807 - (e - p) < t then t - p else t + (e - p) := by
  unfold gCeil
  rw [if_neg (by omega), hp]

set_option maxHeartbeats 1600000 in
theorem refCeil_any (t e : Int) (ht : I64 t) (he : I64 e) (w : World) :
    Calls Tryz.prog 110 #[.int .i64 t, .int .i64 e] w fun x w' => x = .returned (.int .i64 (gCeil t e)) ∧ ∃ q, w' = w.drewN q := by
  by_cases h1 : e < 1
  · have hf : gCeil t e = t := by unfold gCeil; rw [if_pos h1]
    rw [hf]
    go_enter Tryz.func110, Tryz.ntmps110
    go_wp2
    go_ret
    exact ⟨rfl, 0, rfl⟩
  · have h2 : 1 ≤ e := by omega
    obtain ⟨p0, p1⟩ := gPast_bounds t h2
    have hp := gPast_rem t h2
    have hl := rem_low t h2
    have hu := Int.tmod_lt_of_pos t (show 0 < e by omega)
    obtain ⟨r, hr⟩ : ∃ r, t.tmod e = r := ⟨_, rfl⟩
    rw [hr] at hp hl hu
    have e9 : e ≤ 9223372036854775807 := he.2
    have t0 : -9223372036854775808 ≤ t := ht.1
    have t9 : t ≤ 9223372036854775807 := ht.2
    have e0 : ¬ e = 0 := by omega
    obtain ⟨p, hpp⟩ : ∃ p, gPast t e = p := ⟨_, rfl⟩
    have hf := Hid.of (refCeil_case h2 p hpp)
    rw [hpp] at p0 p1 hp
    clear hpp ht he
    by_cases g0 : r < 0
    · rw [if_pos g0] at hp
      subst hp
      have n0 : ¬ r + e = 0 := by omega
      by_cases g : 9223372036854775807 - (e - (r + e)) < t
      · go_enter Tryz.func110, Tryz.ntmps110
        go_wp2
        go_ret
        rw [hf.out, if_neg n0, if_pos g]
        exact ⟨rfl, 0, rfl⟩
      · go_enter Tryz.func110, Tryz.ntmps110
        go_wp2
        go_ret
        rw [hf.out, if_neg n0, if_neg (by omega)]
        exact ⟨rfl, 0, rfl⟩
    · rw [if_neg g0] at hp
      subst hp
      by_cases n0 : p = 0
      · go_enter Tryz.func110, Tryz.ntmps110
        go_wp2
        go_ret
        rw [hf.out, if_pos n0]
        exact ⟨rfl, 0, rfl⟩
      · by_cases g : 9223372036854775807 - (e - p) < t
        · go_enter Tryz.func110, Tryz.ntmps110
          go_wp2
          go_ret
          rw [hf.out, if_neg n0, if_pos g]
          exact ⟨rfl, 0, rfl⟩
        · go_enter Tryz.func110, Tryz.ntmps110
          go_wp2
          go_ret
          rw [hf.out, if_neg n0, if_neg (by omega)]
          exact ⟨rfl, 0, rfl⟩

set_option maxHeartbeats 800000 in
theorem refBack_any (now keep e : Int) (hn : I64 now) (hk : I64 keep) (he : I64 e) (w : World) :
    Calls Tryz.prog 205 #[.int .i64 now, .int .i64 keep, .int .i64 e] w fun x w' => x = .returned (.int .i64 (gBack now keep e)) ∧ ∃ q, w' = w.drewN q := by
  have hr := gBack_ref now keep e hn hk he
  have HE := Hid.of he
  by_cases h : now < 0 ∨ keep < 0 ∨ e < 1 ∨ now < keep
  · rw [if_pos h] at hr
    rw [hr]
    have h' : now < 0 ∨ (¬ now < 0 ∧ keep < 0) ∨ (¬ now < 0 ∧ ¬ keep < 0 ∧ e < 1) ∨ (¬ now < 0 ∧ ¬ keep < 0 ∧ ¬ e < 1 ∧ now < keep) := by omega
    clear h hr
    rcases h' with h1 | ⟨h1, h2⟩ | ⟨h1, h2, h3⟩ | ⟨h1, h2, h3, h4⟩
    all_goals
      go_enter Tryz.func205, Tryz.ntmps205
      go_wp2
      go_ret
      exact ⟨rfl, 0, rfl⟩
  · rw [if_neg h] at hr
    rw [hr]
    have n0 : ¬ now < 0 := fun c => h (.inl c)
    have k0 : ¬ keep < 0 := fun c => h (.inr (.inl c))
    have e0 : ¬ e < 1 := fun c => h (.inr (.inr (.inl c)))
    have nk : ¬ now < keep := fun c => h (.inr (.inr (.inr c)))
    have n9 : now ≤ 9223372036854775807 := hn.2
    have k9 : keep ≤ 9223372036854775807 := hk.2
    have HD : Hid (I64 (now - keep)) := Hid.of (by unfold I64; omega)
    clear h hr
    go_enter Tryz.func205, Tryz.ntmps205
    go_wp2_with fail
    refine (refFloor_any (now - keep) e HD.out HE.out _).mono ?_
    rintro x w1 ⟨rfl, q, rfl⟩
    go_wp2
    go_ret
    exact ⟨rfl, q, rfl⟩

end Go.Proofs.YtbhcafginmkaaaaGreat
