/-
  Lowest bits of an int; what a cut leaves, block by block.
-/
import Derived.Test.YtpgiknejgolllaaDA
import Derived.Test.YtpgiknejgolllaaBI
import Derived.Laws.BitsAllLaws
namespace Go.Proofs.Ytpgiknejgolllaa
open Go.RowKit Go.Lib

theorem ofInt_nat (e : Int) : (BitVec.ofInt 64 e).toNat = (e % 18446744073709551616).toNat := by
  rw [BitVec.toNat_ofInt]
  rfl

theorem wrap_nat (m : Nat) (h : m < 1000) : IntKind.i64.wrap (m : Int) = (m : Int) := by
  rw [IntKind.wrap_i64]
  omega

theorem and_1 (e : Int) : bits .and .i64 e 1 = e % 2 := by
  show IntKind.i64.wrap ((BitVec.ofInt 64 e &&& BitVec.ofInt 64 1).toNat : Int) = e % 2
  have h1 : (BitVec.ofInt 64 1).toNat = 1 := by decide
  rw [BitVec.toNat_and, h1, Nat.and_one_is_mod, ofInt_nat, wrap_nat _ (by omega)]
  omega

theorem and_7 (e : Int) : bits .and .i64 e 7 = e % 8 := by
  show IntKind.i64.wrap ((BitVec.ofInt 64 e &&& BitVec.ofInt 64 7).toNat : Int) = e % 8
  have h1 : (BitVec.ofInt 64 7).toNat = 2 ^ 3 - 1 := by decide
  rw [BitVec.toNat_and, h1, Nat.and_two_pow_sub_one_eq_mod, ofInt_nat, wrap_nat _ (by omega)]
  omega

/-- Some blocks written, one behind the other. -/
def rowWrites (b : ByteArray) (n : Nat) : List (Nat × ByteArray) := (List.range n).map fun j => (j, b)

theorem rowWrites_snoc (b : ByteArray) (n : Nat) : rowWrites b n ++ [(n, b)] = rowWrites b (n + 1) := by
  unfold rowWrites
  rw [List.range_succ, List.map_append]
  rfl

theorem rowWrites_length (b : ByteArray) (n : Nat) : (rowWrites b n).length = n := by simp [rowWrites]

theorem row_left (L : List ByteArray) (b : ByteArray) (ks : List Int) (n i : Nat) (hi : i < L.length) : (dApply L (dStay (rowWrites b n) ks))[i]? = if i < n ∧ dBit ks i = true then some b else L[i]? := by
  induction n with
  | zero =>
    rw [if_neg (by omega)]
    rfl
  | succ n ih =>
    rw [← rowWrites_snoc, dCut_snoc, rowWrites_length]
    by_cases e : i = n
    · subst e
      by_cases hb : dBit ks i = true
      · rw [if_pos hb, if_pos ⟨by omega, hb⟩, List.getElem?_set_self (by rw [dApply_length]; exact hi)]
      · rw [if_neg hb, if_neg (by simp [hb]), ih, if_neg (by omega)]
    · have e2 : (i < n + 1 ∧ dBit ks i = true) ↔ (i < n ∧ dBit ks i = true) := by
        constructor
        · rintro ⟨h, k⟩; exact ⟨by omega, k⟩
        · rintro ⟨h, k⟩; exact ⟨by omega, k⟩
      simp only [e2]
      by_cases hb : dBit ks n = true
      · rw [if_pos hb, List.getElem?_set_ne (by simpa using fun h => e h.symm)]
        exact ih
      · rw [if_neg hb]
        exact ih

theorem int_at0 {w : World} {a : Option Addr} {n c : Nat} {ks : List Int} (h : CellRow w (.slice a n c) n (ks.map (Value.int .i64))) (j : Nat) (x : Int) (hx : ks[j]? = some x) : ∃ b o, a = some ⟨b, o, none⟩ ∧ b < w.heap.size ∧ w.cell? ⟨b, o + j, none⟩ = some (.int .i64 x) := by
  obtain ⟨a', c', hv, h⟩ := h
  simp only [Value.slice.injEq] at hv
  obtain ⟨rfl, _, rfl⟩ := hv
  have hm : (ks.map (Value.int .i64))[j]? = some (.int .i64 x) := by rw [List.getElem?_map, hx]; rfl
  rcases h with h | ⟨b, o, ha, hl, hc⟩
  · rw [h] at hm
    cases hm
  · exact ⟨b, o, ha, hl, hc j _ hm⟩

end Go.Proofs.Ytpgiknejgolllaa
