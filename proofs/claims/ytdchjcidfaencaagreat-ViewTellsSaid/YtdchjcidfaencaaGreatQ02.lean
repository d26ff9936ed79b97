/-
  A bundle of texts: GM.
-/
import Derived.WalkKit
import Derived.Laws.BitsAllLaws
namespace Go.Proofs.YtdchjcidfaencaaGreat
open Go.RowKit

/-- An int of 64 bits. -/
def I64 (x : Int) : Prop := -9223372036854775808 ≤ x ∧ x ≤ 9223372036854775807

/-- How far t is behind the last multiple of e. -/
def gPast (t e : Int) : Int := t % e

theorem gPast_bounds {e : Int} (t : Int) (h : 1 ≤ e) : 0 ≤ gPast t e ∧ gPast t e < e :=
  ⟨Int.emod_nonneg _ (by omega), Int.emod_lt_of_pos _ (by omega)⟩

theorem gPast_dvd (t e : Int) : e ∣ t - gPast t e := Int.dvd_self_sub_emod

theorem past_le {t e : Int} (he : 1 ≤ e) (h : 0 ≤ t) : t % e ≤ t := by
  have h1 := Int.mul_ediv_add_emod t e
  have h2 := Int.mul_nonneg (show 0 ≤ e by omega) (Int.ediv_nonneg h (show 0 ≤ e by omega))
  omega

theorem rem_low {e : Int} (t : Int) (h : 1 ≤ e) : -e < t.tmod e := by
  rcases Int.le_total 0 t with ht | ht
  · have := Int.tmod_nonneg e ht
    omega
  · have h1 := Int.tmod_lt_of_pos (-t) (show 0 < e by omega)
    rw [Int.neg_tmod] at h1
    omega

/-- The remainder, mended. -/
theorem gPast_rem {e : Int} (t : Int) (h : 1 ≤ e) : gPast t e = if t.tmod e < 0 then t.tmod e + e else t.tmod e := by
  obtain ⟨p0, p1⟩ := gPast_bounds t h
  have b1 := Int.tmod_lt_of_pos t (show 0 < e by omega)
  have b2 := rem_low t h
  have d : e ∣ t.tmod e - gPast t e := by
    have h1 : e ∣ t - t.tmod e := by
      have := Int.mul_tdiv_add_tmod t e
      exact ⟨t.tdiv e, by omega⟩
    have h2 := gPast_dvd t e
    have : t.tmod e - gPast t e = (t - gPast t e) - (t - t.tmod e) := by omega
    rw [this]
    exact Int.dvd_sub h2 h1
  obtain ⟨k, hk⟩ := d
  have hk1 : k < 1 := by
    by_cases c : k < 1
    · exact c
    · exfalso
      have := Int.mul_le_mul_of_nonneg_left (show 1 ≤ k by omega) (show 0 ≤ e by omega)
      omega
  have hk2 : -2 < k := by
    by_cases c : -2 < k
    · exact c
    · exfalso
      have := Int.mul_le_mul_of_nonneg_left (show k ≤ -2 by omega) (show 0 ≤ e by omega)
      omega
  have : k = 0 ∨ k = -1 := by omega
  rcases this with rfl | rfl
  · simp at hk; split <;> omega
  · simp at hk; split <;> omega

theorem gPast_zero_iff {e : Int} (t : Int) (h : 1 ≤ e) : t.tmod e = 0 ↔ gPast t e = 0 := by
  have h1 := gPast_rem t h
  have b2 := rem_low t h
  obtain ⟨p0, p1⟩ := gPast_bounds t h
  split at h1 <;> omega

/-- The greatest multiple of e that is not above t (the least one, if that is no int). -/
def gFloor (t e : Int) : Int := if e < 1 then t else if t < -9223372036854775808 + gPast t e then t + (e - gPast t e) else t - gPast t e

/-- Is e 1 or more, and t a multiple of it? -/
def gOn (t e : Int) : Bool := decide (1 ≤ e) && decide (t.tmod e = 0)

theorem gOn_iff {t e : Int} : gOn t e = true ↔ 1 ≤ e ∧ gPast t e = 0 := by
  unfold gOn
  rw [Bool.and_eq_true, decide_eq_true_eq, decide_eq_true_eq]
  constructor
  · rintro ⟨h, h1⟩; exact ⟨h, (gPast_zero_iff t h).1 h1⟩
  · rintro ⟨h, h1⟩; exact ⟨h, (gPast_zero_iff t h).2 h1⟩

theorem gOn_dvd {t e : Int} : gOn t e = true ↔ 1 ≤ e ∧ e ∣ t := by
  rw [gOn_iff]
  unfold gPast
  constructor
  · rintro ⟨h, h1⟩; exact ⟨h, Int.dvd_of_emod_eq_zero h1⟩
  · rintro ⟨h, h1⟩; exact ⟨h, Int.emod_eq_zero_of_dvd h1⟩

/-- Where what is kept begins. -/
def gBack (now keep e : Int) : Int := if now < 0 ∨ keep < 0 ∨ e < 1 then 0 else max (gFloor (now - keep) e) 0

theorem gFloor_low {t e : Int} (h : t < 0) (h1 : -9223372036854775808 ≤ t) (he : 1 ≤ e) (he2 : e ≤ 9223372036854775807) : gFloor t e < 0 := by
  unfold gFloor
  obtain ⟨p0, p1⟩ := gPast_bounds t he
  rw [if_neg (by omega)]
  split <;> omega

theorem gFloor_plain0 {t e : Int} (h : 0 ≤ t) (he : 1 ≤ e) : gFloor t e = t - gPast t e := by
  unfold gFloor
  obtain ⟨p0, p1⟩ := gPast_bounds t he
  have : gPast t e ≤ t := by
    unfold gPast
    exact past_le he h
  rw [if_neg (by omega), if_neg (by omega)]

theorem gFloor_on {t e : Int} (he : 1 ≤ e) (h : gFloor t e = t - gPast t e) : gOn (gFloor t e) e = true := by
  rw [gOn_dvd, h]
  exact ⟨he, gPast_dvd t e⟩

theorem gBack_ref (now keep e : Int) (hn : I64 now) (hk : I64 keep) (he : I64 e) : gBack now keep e = if now < 0 ∨ keep < 0 ∨ e < 1 ∨ now < keep then 0 else gFloor (now - keep) e := by
  unfold gBack
  unfold I64 at *
  by_cases h : now < 0 ∨ keep < 0 ∨ e < 1
  · rw [if_pos h, if_pos (by omega)]
  · rw [if_neg h]
    by_cases h2 : now < keep
    · rw [if_pos (by omega)]
      have := gFloor_low (t := now - keep) (e := e) (by omega) (by omega) (by omega) (by omega)
      omega
    · rw [if_neg (by omega)]
      have h3 := gFloor_plain0 (t := now - keep) (e := e) (by omega) (by omega)
      have h4 : gPast (now - keep) e ≤ now - keep := by
        unfold gPast
        exact past_le (by omega) (by omega)
      omega

end Go.Proofs.YtdchjcidfaencaaGreat
