/-
  Plain facts for statement AggSums: the sum in two words, the mean between the least and the greatest.
-/
import Derived.Test.YtfoffoiimlgoeaaAGW
namespace Go.Proofs.Ytfoffoiimlgoeaa
open Go.RowKit Go.Lib

/-- Both words together. -/
def num (a : Ag) : Int := a.hi * 18446744073709551616 + a.lo

theorem num_step {s : Ag} {x : Int} (hs : AgIn s) (hb : -60 ≤ s.hi ∧ s.hi ≤ 60) (hx : IsInt x) (h : agOk s = true ∨ s = agZero) :
    num (agJoin s (agOne x)) = num s + x ∧ IntKind.u64.wrap (s.lo + IntKind.u64.wrap x) = (agJoin s (agOne x)).lo ∧
    (IntKind.u64.wrap (s.lo + IntKind.u64.wrap x) < s.lo → 0 ≤ x → (agJoin s (agOne x)).hi = s.hi + 1) ∧ (IntKind.u64.wrap (s.lo + IntKind.u64.wrap x) < s.lo → x < 0 → (agJoin s (agOne x)).hi = s.hi) ∧
    (¬ IntKind.u64.wrap (s.lo + IntKind.u64.wrap x) < s.lo → 0 ≤ x → (agJoin s (agOne x)).hi = s.hi) ∧ (¬ IntKind.u64.wrap (s.lo + IntKind.u64.wrap x) < s.lo → x < 0 → (agJoin s (agOne x)).hi = s.hi - 1) ∧
    s.hi - 1 ≤ (agJoin s (agOne x)).hi ∧ (agJoin s (agOne x)).hi ≤ s.hi + 1 := by
  obtain ⟨_, _, hl, _, _⟩ := hs
  obtain ⟨x1, x2⟩ := hx
  rw [u64_wrap, u64_wrap]
  have ho : agOk (agOne x) = true := by rw [agOk_iff]; simp [agOne]
  have hsg : agSign x = -1 ∧ x < 0 ∨ agSign x = 0 ∧ 0 ≤ x := by unfold agSign; split <;> omega
  rcases h with h | rfl
  · have e : agJoin s (agOne x) = agBoth s (agOne x) := by unfold agJoin; rw [if_pos ho, if_pos h]
    rw [e]
    simp only [num, agBoth, agOne, agCarry, w64]
    rcases hsg with ⟨hs, hx⟩ | ⟨hs, hx⟩ <;> rw [hs] <;> refine ⟨?_, ?_, ?_, ?_, ?_, ?_, ?_, ?_⟩ <;> intros <;> first | trivial | omega
  · have e : agJoin agZero (agOne x) = agOne x := agJoin_zero_left _ (agOne_good x1 x2)
    rw [e]
    simp only [num, agOne, agZero]
    rcases hsg with ⟨hs, hx⟩ | ⟨hs, hx⟩ <;> rw [hs] <;> refine ⟨?_, ?_, ?_, ?_, ?_, ?_, ?_, ?_⟩ <;> intros <;> first | trivial | omega

/-- What is known of so many values' aggregate. -/
theorem num_all (l : List Int) (hl : Ints l) (hn : l.length ≤ 60) : ∀ j, j ≤ l.length → num (agOf (l.take j)) = (l.take j).sum ∧ -(j : Int) ≤ (agOf (l.take j)).hi ∧ (agOf (l.take j)).hi ≤ j := by
  intro j
  induction j with
  | zero => intro _; rw [List.take_zero]; exact ⟨rfl, by decide, by decide⟩
  | succ j ih =>
    intro hj
    obtain ⟨h1, h2, h3⟩ := ih (by omega)
    have hx := ints_get hl j (by omega)
    have hg := agOf_good (ints_take hl j)
    obtain ⟨k1, _, _, _, _, _, k2, k3⟩ := num_step hg.1 ⟨by omega, by omega⟩ hx hg.2
    rw [agOf_take l j (by omega), List.take_succ_eq_append_getElem (by omega : j < l.length), List.sum_append]
    have e : l.getD j 0 = l[j] := by simp [List.getD, show j < l.length by omega]
    refine ⟨?_, by omega, by omega⟩
    rw [k1, h1, e]
    simp

theorem sum_ge (l : List Int) (m : Int) (h : ∀ x ∈ l, m ≤ x) : m * (l.length : Int) ≤ l.sum := by
  induction l with
  | nil => simp
  | cons x l ih =>
    have h1 := ih fun y hy => h y (by simp [hy])
    have h2 := h x (by simp)
    simp only [List.sum_cons, List.length_cons]
    have : m * ((l.length + 1 : Nat) : Int) = m * (l.length : Int) + m := by rw [Int.natCast_add, Int.mul_add]; simp
    omega

theorem sum_le (l : List Int) (m : Int) (h : ∀ x ∈ l, x ≤ m) : l.sum ≤ m * (l.length : Int) := by
  induction l with
  | nil => simp
  | cons x l ih =>
    have h1 := ih fun y hy => h y (by simp [hy])
    have h2 := h x (by simp)
    simp only [List.sum_cons, List.length_cons]
    have : m * ((l.length + 1 : Nat) : Int) = m * (l.length : Int) + m := by rw [Int.natCast_add, Int.mul_add]; simp
    omega

theorem tdiv_between {v c m k : Int} (hc : 1 ≤ c) (h1 : m * c ≤ v) (h2 : v ≤ k * c) : m ≤ v.tdiv c ∧ v.tdiv c ≤ k := by
  by_cases h0 : 0 ≤ v
  · rw [Int.tdiv_eq_ediv_of_nonneg h0]
    refine ⟨Int.le_ediv_of_mul_le (by omega) h1, ?_⟩
    have := Int.ediv_le_ediv (c := c) (by omega) h2
    rwa [Int.mul_ediv_cancel _ (by omega)] at this
  · obtain ⟨u, rfl⟩ : ∃ u, v = -u := ⟨-v, by omega⟩
    rw [Int.neg_tdiv, Int.tdiv_eq_ediv_of_nonneg (by omega)]
    have h3 : u ≤ (-m) * c := by rw [Int.neg_mul]; omega
    have h4 : (-k) * c ≤ u := by rw [Int.neg_mul]; omega
    have h5 := Int.ediv_le_ediv (c := c) (by omega) h3
    rw [Int.mul_ediv_cancel _ (by omega)] at h5
    have h6 := Int.le_ediv_of_mul_le (c := c) (by omega) h4
    omega

theorem tdiv_int {v c : Int} (hc : 1 ≤ c) (hv : IsInt v) : IsInt (v.tdiv c) := by
  obtain ⟨h1, h2⟩ := hv
  have h3 : (-9223372036854775808) * c ≤ v := by
    have : (-9223372036854775808) * c ≤ (-9223372036854775808) * 1 := by omega
    omega
  have h4 : v ≤ 9223372036854775807 * c := by
    have : 9223372036854775807 * 1 ≤ 9223372036854775807 * c := by omega
    omega
  exact tdiv_between hc h3 h4

/-- A sum that goes into an int. -/
theorem fits_val {a : Ag} (ha : AgIn a) (hf : agFits a = true) : agVal a = num a ∧ IsInt (agVal a) := by
  unfold agVal
  rw [if_pos hf]
  refine ⟨?_, w64_bounds _⟩
  have hlo := ha.2.2.1
  have hh : a.hi = agSign (w64 a.lo) := by simpa [agFits] using hf
  unfold num
  rw [hh]
  unfold agSign w64
  split <;> omega

/-- The six ways of a sum. -/
theorem val_ways (a : Ag) (ha : AgIn a) :
    (a.hi = 0 ∧ a.lo < 9223372036854775808 ∧ agFits a = true ∧ agVal a = a.lo) ∨ (a.hi = -1 ∧ ¬ a.lo < 9223372036854775808 ∧ agFits a = true ∧ agVal a = w64 a.lo) ∨
    (a.hi = 0 ∧ ¬ a.lo < 9223372036854775808 ∧ agFits a = false ∧ agVal a = 9223372036854775807) ∨ (a.hi = -1 ∧ a.lo < 9223372036854775808 ∧ agFits a = false ∧ agVal a = -9223372036854775808) ∨
    ((a.hi == 0) = false ∧ (a.hi == -1) = false ∧ a.hi < 0 ∧ agFits a = false ∧ agVal a = -9223372036854775808) ∨ ((a.hi == 0) = false ∧ (a.hi == -1) = false ∧ ¬ a.hi < 0 ∧ agFits a = false ∧ agVal a = 9223372036854775807) := by
  have hlo := ha.2.2.1
  have hs : agSign (w64 a.lo) = if a.lo < 9223372036854775808 then 0 else -1 := by
    unfold agSign w64
    split <;> split <;> omega
  unfold agVal
  by_cases hl : a.lo < 9223372036854775808
  · rw [if_pos hl] at hs
    by_cases h0 : a.hi = 0
    · have hf : agFits a = true := by unfold agFits; rw [hs]; simpa using h0
      exact .inl ⟨h0, hl, hf, by rw [if_pos hf, w64_in (by omega) (by omega)]⟩
    · have hf : agFits a = false := by unfold agFits; rw [hs]; simpa using h0
      by_cases h1 : a.hi = -1
      · exact .inr (.inr (.inr (.inl ⟨h1, hl, hf, by rw [hf, if_neg (by decide), if_pos (by omega)]⟩)))
      · by_cases hn : a.hi < 0
        · exact .inr (.inr (.inr (.inr (.inl ⟨by simpa using h0, by simpa using h1, hn, hf, by rw [hf, if_neg (by decide), if_pos hn]⟩))))
        · exact .inr (.inr (.inr (.inr (.inr ⟨by simpa using h0, by simpa using h1, hn, hf, by rw [hf, if_neg (by decide), if_neg hn]⟩))))
  · rw [if_neg hl] at hs
    by_cases h1 : a.hi = -1
    · have hf : agFits a = true := by unfold agFits; rw [hs]; simpa using h1
      exact .inr (.inl ⟨h1, hl, hf, by rw [if_pos hf]⟩)
    · have hf : agFits a = false := by unfold agFits; rw [hs]; simpa using h1
      by_cases h0 : a.hi = 0
      · exact .inr (.inr (.inl ⟨h0, hl, hf, by rw [hf, if_neg (by decide), if_neg (by omega)]⟩))
      · by_cases hn : a.hi < 0
        · exact .inr (.inr (.inr (.inr (.inl ⟨by simpa using h0, by simpa using h1, hn, hf, by rw [hf, if_neg (by decide), if_pos hn]⟩))))
        · exact .inr (.inr (.inr (.inr (.inr ⟨by simpa using h0, by simpa using h1, hn, hf, by rw [hf, if_neg (by decide), if_neg hn]⟩))))

theorem mean_between {l : List Int} (hl : Ints l) (h0 : 0 < l.length) (hn : l.length ≤ 60) (hf : agFits (agOf l) = true) : (agOf l).mn ≤ agMean (agOf l) ∧ agMean (agOf l) ≤ (agOf l).mx := by
  obtain ⟨e0, e1, _, _, e4⟩ := agOf_ends l hl h0 hn
  obtain ⟨hv, hi⟩ := fits_val (agOf_good hl).1 hf
  have hs := (num_all l hl hn l.length (Nat.le_refl _)).1
  rw [List.take_length] at hs
  unfold agMean
  rw [if_pos e0, if_pos hf]
  have hc : 1 ≤ (agOf l).c := by rw [e1]; omega
  have hb := tdiv_int hc hi
  rw [w64_in hb.1 hb.2]
  refine tdiv_between hc ?_ ?_
  · rw [hv, hs, e1]; exact sum_ge l _ fun x hx => (e4 x hx).1
  · rw [hv, hs, e1]; exact sum_le l _ fun x hx => (e4 x hx).2

end Go.Proofs.Ytfoffoiimlgoeaa
