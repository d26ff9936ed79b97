/-
  What statement GridStarts answers: true, for every input.
-/
import Derived.Test.YtjmnffcmgigodaaGA
namespace Go.Proofs.Ytjmnffcmgigodaa
open Go.RowKit Go.Lib

theorem gRow_get (f e : Int) (n j : Nat) (h : j < n) : (gRow f e n).getD j 0 = f + (j : Int) * e := by
  simp [gRow, List.getD, h]

/-- One more time: one more multiple, or none. -/
theorem count_step (a e t : Int) (he : 1 ≤ e) (hs : gCeil a e = if gPast a e = 0 then a else a + (e - gPast a e)) (ht : a ≤ t) :
    gCount a (gCeil a e) (t + 1) e = gCount a (gCeil a e) t e + (if gOn t e = true then 1 else 0) := by
  obtain ⟨p0, p1⟩ := gPast_bounds a he
  have hd := gPast_dvd a e
  generalize hp : gPast a e = p at *
  obtain ⟨f, hf⟩ : ∃ f, gCeil a e = f := ⟨_, rfl⟩
  rw [hf] at hs ⊢
  have haf : a ≤ f := by rw [hs]; split <;> omega
  have hfd : e ∣ f := by
    rw [hs]
    split
    · next h => rw [h, Int.sub_zero] at hd; exact hd
    · have : a + (e - p) = (a - p) + e := by omega
      rw [this]
      exact Int.dvd_add hd (Int.dvd_refl e)
  unfold gCount
  by_cases h1 : t < f
  · have hn : ¬ gOn t e = true := by
      rw [gOn_dvd]
      rintro ⟨_, ⟨k, hk⟩⟩
      obtain ⟨m, hm⟩ := hd
      have h2 : ¬ p = 0 := by
        intro c
        rw [c] at hs
        simp at hs
        omega
      rw [if_neg h2] at hs
      -- a - p = e m, p > 0, e m + p ≤ e k < e m + e
      have h3 : e * m < e * k := by omega
      have h4 : e * k < e * m + e := by omega
      have h5 : m < k := Int.lt_of_mul_lt_mul_left h3 (by omega)
      have h6 := Int.mul_le_mul_of_nonneg_left (show m + 1 ≤ k by omega) (show 0 ≤ e by omega)
      rw [Int.mul_add, Int.mul_one] at h6
      omega
    rw [if_neg hn, if_pos (by omega), if_pos (by omega)]
    rfl
  · by_cases h2 : t = f
    · subst h2
      have hn : gOn t e = true := by rw [gOn_dvd]; exact ⟨he, hfd⟩
      rw [if_pos hn, if_neg (by omega), if_pos (by omega)]
      have : t + 1 - 1 - t = 0 := by omega
      rw [this, Int.zero_ediv]
    · rw [if_neg (by omega), if_neg (by omega)]
      have e1 : t + 1 - 1 - f = t - f := by omega
      rw [e1]
      obtain ⟨k, hk⟩ := hfd
      have q1 := Int.mul_ediv_add_emod (t - f) e
      have r0 := Int.emod_nonneg (t - f) (show e ≠ 0 by omega)
      have r1 := Int.emod_lt_of_pos (t - f) (show 0 < e by omega)
      have q2 := Int.mul_ediv_add_emod (t - 1 - f) e
      have s0 := Int.emod_nonneg (t - 1 - f) (show e ≠ 0 by omega)
      have s1 := Int.emod_lt_of_pos (t - 1 - f) (show 0 < e by omega)
      by_cases h3 : gOn t e = true
      · rw [if_pos h3]
        rw [gOn_dvd] at h3
        have h4 : (t - f) % e = 0 := Int.emod_eq_zero_of_dvd (Int.dvd_sub h3.2 ⟨k, hk⟩)
        rw [h4] at q1
        -- e A = t - f, e B + s = t - f - 1, 0 ≤ s < e
        have h5 : e * ((t - 1 - f) / e) < e * ((t - f) / e) := by omega
        have h6 : (t - 1 - f) / e < (t - f) / e := Int.lt_of_mul_lt_mul_left h5 (by omega)
        have h7 : e * ((t - f) / e) < e * ((t - 1 - f) / e + 2) := by rw [Int.mul_add]; omega
        have h8 : (t - f) / e < (t - 1 - f) / e + 2 := Int.lt_of_mul_lt_mul_left h7 (by omega)
        omega
      · rw [if_neg h3]
        have h4 : (t - f) % e ≠ 0 := by
          intro c
          apply h3
          rw [gOn_dvd]
          refine ⟨he, ?_⟩
          have h5 := Int.dvd_add (Int.dvd_of_emod_eq_zero c) (show e ∣ f from ⟨k, hk⟩)
          have : t - f + f = t := by omega
          rwa [this] at h5
        have h5 : e * ((t - 1 - f) / e) < e * ((t - f) / e + 1) := by rw [Int.mul_add]; omega
        have h6 : (t - 1 - f) / e < (t - f) / e + 1 := Int.lt_of_mul_lt_mul_left h5 (by omega)
        have h7 : e * ((t - f) / e) < e * ((t - 1 - f) / e + 1) := by rw [Int.mul_add]; omega
        have h8 : (t - f) / e < (t - 1 - f) / e + 1 := Int.lt_of_mul_lt_mul_left h7 (by omega)
        omega

end Go.Proofs.Ytjmnffcmgigodaa
