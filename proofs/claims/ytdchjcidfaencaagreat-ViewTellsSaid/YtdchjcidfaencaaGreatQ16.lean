/-
  A bundle of texts: GX.
-/
import Derived.Test.YtdchjcidfaencaaGreatQ08
import Derived.Test.YtdchjcidfaencaaGreatQ05
import Derived.Test.YtdchjcidfaencaaGreatQ13
namespace Go.Proofs.YtdchjcidfaencaaGreat
open Go.RowKit Go.Lib

theorem ref_low {t e p : Int} (h1 : t < -9223372036854775808 + p) (h2 : -9223372036854775808 ≤ t) (p1 : p < e) (e9 : e ≤ 9223372036854775807) : wrap64 (wrap64 (t - p) + e) = t + (e - p) := by
  unfold wrap64
  omega

set_option maxHeartbeats 800000 in
theorem refFloor_any (t e : Int) (ht : I64 t) (he : I64 e) (w : World) :
    Calls Tryz.prog 79 #[.int .i64 t, .int .i64 e] w fun x w' => x = .returned (.int .i64 (gFloor t e)) ∧ ∃ q, w' = w.drewN q := by
  by_cases h1 : e < 1
  · have hf : gFloor t e = t := by unfold gFloor; rw [if_pos h1]
    rw [hf]
    go_enter Tryz.func79, Tryz.ntmps79
    go_wp2
    go_ret
    exact ⟨rfl, 0, rfl⟩
  · have h2 : 1 ≤ e := by omega
    have hf := Hid.of (Floor_case t e _ h2 rfl)
    obtain ⟨p0, p1⟩ := gPast_bounds t h2
    have hp := gPast_rem t h2
    have hl := rem_low t h2
    have hu := Int.tmod_lt_of_pos t (show 0 < e by omega)
    obtain ⟨r, hr⟩ : ∃ r, t.tmod e = r := ⟨_, rfl⟩
    rw [hr] at hp hl hu
    have e9 : e ≤ 9223372036854775807 := he.2
    have t0 : -9223372036854775808 ≤ t := ht.1
    have t9 : t ≤ 9223372036854775807 := ht.2
    have e0 : ¬ e = 0 := by omega
    obtain ⟨p, hpp⟩ : ∃ p, gPast t e = p := ⟨_, rfl⟩
    rw [hpp] at hf p0 p1 hp
    clear hpp ht he
    by_cases g0 : r < 0
    · rw [if_pos g0] at hp
      subst hp
      by_cases g : t < -9223372036854775808 + (r + e)
      · have HW := Hid.of (ref_low g t0 p1 e9)
        go_enter Tryz.func79, Tryz.ntmps79
        go_wp2
        go_ret
        rw [hf.out, if_pos g, ← HW.out]
        exact ⟨rfl, 0, rfl⟩
      · go_enter Tryz.func79, Tryz.ntmps79
        go_wp2
        go_ret
        rw [hf.out, if_neg (by omega)]
        exact ⟨rfl, 0, rfl⟩
    · rw [if_neg g0] at hp
      subst hp
      by_cases g : t < -9223372036854775808 + p
      · have HW := Hid.of (ref_low g t0 p1 e9)
        go_enter Tryz.func79, Tryz.ntmps79
        go_wp2
        go_ret
        rw [hf.out, if_pos g, ← HW.out]
        exact ⟨rfl, 0, rfl⟩
      · go_enter Tryz.func79, Tryz.ntmps79
        go_wp2
        go_ret
        rw [hf.out, if_neg (by omega)]
        exact ⟨rfl, 0, rfl⟩

set_option maxHeartbeats 400000 in
theorem refOn_any (t e : Int) (w : World) :
    Calls Tryz.prog 80 #[.int .i64 t, .int .i64 e] w fun x w' => x = .returned (.bool (gOn t e)) ∧ ∃ q, w' = w.drewN q := by
  by_cases h1 : 1 ≤ e
  · obtain ⟨r, hr⟩ : ∃ r, t.tmod e = r := ⟨_, rfl⟩
    have hg : gOn t e = decide (r = 0) := by unfold gOn; rw [decide_eq_true h1, hr, Bool.true_and]
    have HG := Hid.of hg
    have e0 : ¬ e = 0 := by omega
    clear hg
    go_enter Tryz.func80, Tryz.ntmps80
    go_wp2
    go_ret
    rw [HG.out]
    exact ⟨rfl, 0, rfl⟩
  · have hg : gOn t e = false := by unfold gOn; rw [decide_eq_false h1, Bool.false_and]
    rw [hg]
    go_enter Tryz.func80, Tryz.ntmps80
    go_wp2
    go_ret
    exact ⟨rfl, 0, rfl⟩

set_option maxHeartbeats 800000 in
theorem refBack_any (now keep e : Int) (hn : I64 now) (hk : I64 keep) (he : I64 e) (w : World) :
    Calls Tryz.prog 85 #[.int .i64 now, .int .i64 keep, .int .i64 e] w fun x w' => x = .returned (.int .i64 (gBack now keep e)) ∧ ∃ q, w' = w.drewN q := by
  have hr := gBack_ref now keep e hn hk he
  have HE := Hid.of he
  by_cases h : now < 0 ∨ keep < 0 ∨ e < 1 ∨ now < keep
  · rw [if_pos h] at hr
    rw [hr]
    have h' : now < 0 ∨ (¬ now < 0 ∧ keep < 0) ∨ (¬ now < 0 ∧ ¬ keep < 0 ∧ e < 1) ∨ (¬ now < 0 ∧ ¬ keep < 0 ∧ ¬ e < 1 ∧ now < keep) := by omega
    clear h hr
    rcases h' with h1 | ⟨h1, h2⟩ | ⟨h1, h2, h3⟩ | ⟨h1, h2, h3, h4⟩
    all_goals
      go_enter Tryz.func85, Tryz.ntmps85
      go_wp2
      go_ret
      exact ⟨rfl, 0, rfl⟩
  · rw [if_neg h] at hr
    rw [hr]
    have n0 : ¬ now < 0 := fun c => h (.inl c)
    have k0 : ¬ keep < 0 := fun c => h (.inr (.inl c))
    have e0 : ¬ e < 1 := fun c => h (.inr (.inr (.inl c)))
    have nk : ¬ now < keep := fun c => h (.inr (.inr (.inr c)))
    have n9 : now ≤ 9223372036854775807 := hn.2
    have k9 : keep ≤ 9223372036854775807 := hk.2
    have HD : Hid (I64 (now - keep)) := Hid.of (by unfold I64; omega)
    clear h hr
    go_enter Tryz.func85, Tryz.ntmps85
    go_wp2_with fail
    refine (refFloor_any (now - keep) e HD.out HE.out _).mono ?_
    rintro x w1 ⟨rfl, q, rfl⟩
    go_wp2
    go_ret
    exact ⟨rfl, q, rfl⟩

end Go.Proofs.YtdchjcidfaencaaGreat
