/-
  A bundle of texts: U.
-/
import Derived.Lib.AtoiAllCases
import Derived.Lib.ItoaNum
import Derived.Lib.ItoaMem
/-
  Plain facts on decimal digits: what is told of an int is read as that int, and no other text is told of one.
-/
namespace Go.Proofs.YtadepjpmpjipmaaGreatDoor
open Go.Lib

theorem decDigits_step (u : Nat) (h : ¬ u < 10) : decDigits u = decDigits (u / 10) ++ [UInt8.ofNat (48 + u % 10)] := by
  rw [decDigits, dif_neg h]

theorem decDigits_one (u : Nat) (h : u < 10) : decDigits u = [UInt8.ofNat (48 + u)] := by
  rw [decDigits, dif_pos h]

theorem digit_nat (d : Nat) (h : d < 10) : (UInt8.ofNat (48 + d)).toNat = 48 + d := by
  simp
  omega

theorem parse_append (a b : List UInt8) : ∀ (acc x : Nat), parseUint10 acc a = .ok x → parseUint10 acc (a ++ b) = parseUint10 x b := by
  induction a with
  | nil =>
    intro acc x h
    simp only [parseUint10] at h
    injection h with h
    subst h
    rfl
  | cons c r ih =>
    intro acc x h
    simp only [parseUint10] at h
    rw [List.cons_append, parseUint10]
    by_cases h1 : 48 ≤ c.toNat ∧ c.toNat ≤ 57
    · rw [if_pos h1] at h ⊢
      by_cases h2 : 1844674407370955162 ≤ acc
      · rw [if_pos h2] at h; cases h
      · rw [if_neg h2] at h ⊢
        by_cases h3 : 18446744073709551616 ≤ acc * 10 + (c.toNat - 48)
        · rw [if_pos h3] at h; cases h
        · rw [if_neg h3] at h ⊢
          exact ih _ _ h
    · rw [if_neg h1] at h; cases h

theorem parse_digits (u : Nat) (hu : u < 18446744073709551616) : parseUint10 0 (decDigits u) = .ok u := by
  induction u using Nat.strongRecOn with
  | _ u ih =>
    by_cases h : u < 10
    · rw [decDigits_one u h, parseUint10, digit_nat u h, if_pos (by omega), if_neg (by omega), if_neg (by omega), parseUint10]
      congr 1
      omega
    · rw [decDigits_step u h, parse_append _ _ 0 (u / 10) (ih (u / 10) (by omega) (by omega)), parseUint10, digit_nat _ (by omega), if_pos (by omega), if_neg (by omega), if_neg (by omega), parseUint10]
      congr 1
      omega

/-- The digits of a number: the first is no 0, or it is 0 itself; each lies between 0 and 9. -/
theorem uDigits_head (u : Nat) : ∃ c r, decDigits u = c :: r ∧ 48 ≤ c.toNat ∧ c.toNat ≤ 57 ∧ (c.toNat = 48 → u = 0 ∧ r = []) := by
  induction u using Nat.strongRecOn with
  | _ u ih =>
    by_cases h : u < 10
    · exact ⟨_, [], decDigits_one u h, by rw [digit_nat u h]; omega, by rw [digit_nat u h]; omega, by rw [digit_nat u h]; intro e; exact ⟨by omega, rfl⟩⟩
    · obtain ⟨c, r, e, h1, h2, h3⟩ := ih (u / 10) (by omega)
      refine ⟨c, r ++ [UInt8.ofNat (48 + u % 10)], by rw [decDigits_step u h, e]; rfl, h1, h2, fun hc => ?_⟩
      have := (h3 hc).1
      omega

theorem digits_long (k u : Nat) (h : 10 ^ k ≤ u) : k < (decDigits u).length := by
  induction k generalizing u with
  | zero =>
    obtain ⟨c, r, e, _⟩ := uDigits_head u
    rw [e]; simp
  | succ k ih =>
    have hp : 1 ≤ 10 ^ k := Nat.one_le_pow _ _ (by decide)
    rw [Nat.pow_succ] at h
    rw [decDigits_step u (by omega), List.length_append]
    have := ih (u / 10) (by omega)
    simp
    omega

theorem atoi_itoa (n : Int) (h0 : -9223372036854775808 ≤ n) (h1 : n ≤ 9223372036854775807) : atoiAll (itoa n) = .ok n := by
  by_cases hn : n < 0
  · obtain ⟨u, rfl⟩ : ∃ u : Nat, n = -(u : Int) := ⟨n.natAbs, by omega⟩
    rw [itoa_neg u (by omega)]
    obtain ⟨c, r, e, _⟩ := uDigits_head u
    have hp : parseMag (decDigits u) = .ok u := by
      unfold parseMag
      rw [if_neg (by rw [e]; simp), parse_digits u (by omega)]
    unfold atoiAll
    have h45 : (45 : UInt8).toNat = 45 := rfl
    simp only [h45]
    rw [if_pos (by simp), hp]
    simp
    omega
  · obtain ⟨u, rfl⟩ := Int.eq_ofNat_of_zero_le (show 0 ≤ n by omega)
    rw [itoa_nonneg u]
    obtain ⟨c, r, e, hc1, hc2, _⟩ := uDigits_head u
    have hp : parseMag (decDigits u) = .ok u := by
      unfold parseMag
      rw [if_neg (by rw [e]; simp), parse_digits u (by omega)]
    unfold atoiAll
    rw [e] at hp ⊢
    simp only
    rw [if_neg (by omega), hp]
    simp only
    rw [if_neg (fun hh => by omega), if_neg (fun hh => by omega), if_neg (by omega)]

theorem itoa_ne_zero (x v : Int) : itoa x ≠ 48 :: itoa v := by
  intro h
  have hv : itoa v ≠ [] := by
    unfold itoa
    split
    · simp
    · obtain ⟨c, r, e, _⟩ := uDigits_head v.toNat
      rw [e]; simp
  by_cases hx : x < 0
  · unfold itoa at h
    rw [if_pos hx] at h
    injection h with h _
    exact absurd h (by decide)
  · obtain ⟨c, r, e, _, _, h3⟩ := uDigits_head x.toNat
    have e2 : itoa x = c :: r := by unfold itoa; rw [if_neg hx, e]
    rw [e2] at h
    injection h with h4 h5
    subst h4
    exact hv (h5.symm.trans (h3 rfl).2)

theorem itoa_ne_plus (x v : Int) : itoa x ≠ 43 :: itoa v := by
  intro h
  by_cases hx : x < 0
  · unfold itoa at h
    rw [if_pos hx] at h
    injection h with h _
    exact absurd h (by decide)
  · obtain ⟨c, r, e, h1, _, _⟩ := uDigits_head x.toNat
    have e2 : itoa x = c :: r := by unfold itoa; rw [if_neg hx, e]
    rw [e2] at h
    injection h with h4 h5
    subst h4
    exact absurd h1 (by decide)

theorem itoa_long (v : Int) (h : v ≤ -1000000000000000000 ∨ 1000000000000000000 ≤ v) : 19 ≤ (itoa v).length := by
  unfold itoa
  split
  · have := digits_long 18 v.natAbs (by omega)
    simp
    omega
  · have := digits_long 18 v.toNat (by omega)
    omega

end Go.Proofs.YtadepjpmpjipmaaGreatDoor
