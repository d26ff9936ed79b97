/-
  An int with its last bit turned is another one.
-/
import Derived.Laws.BitsAllLaws
import Derived.Test.YtadepjpmpjipmaaDoorQ14
namespace Go.Proofs.YtadepjpmpjipmaaDoor
open Go.RowKit Go.Lib

theorem i64_wrap_lt (u : Nat) (h : u < 18446744073709551616) : IntKind.i64.wrap (u : Int) = if u < 9223372036854775808 then (u : Int) else (u : Int) - 18446744073709551616 := by
  rw [IntKind.wrap_i64]
  split <;> omega

theorem ofInt_i64 (a : Int) : (BitVec.ofInt 64 a).toNat = (a % 18446744073709551616).toNat := by
  rw [BitVec.toNat_ofInt]
  rfl

theorem xor_one (m : Nat) : ¬ m ^^^ 1 = m := by
  intro h
  have h2 : m ^^^ (m ^^^ 1) = 0 := by rw [h, Nat.xor_self]
  rw [← Nat.xor_assoc, Nat.xor_self, Nat.zero_xor] at h2
  cases h2

theorem turned (v : Int) : ¬ bits .xor .i64 v 1 = v ∧ In64 (bits .xor .i64 v 1) := by
  have hx : (bits .xor .i64 v 1 : Int) = IntKind.i64.wrap ((BitVec.ofInt 64 v ^^^ BitVec.ofInt 64 1).toNat : Int) := rfl
  rw [hx, BitVec.toNat_xor, ofInt_i64, ofInt_i64]
  unfold In64
  obtain ⟨m, hm⟩ : ∃ m : Nat, (v % 18446744073709551616).toNat = m := ⟨_, rfl⟩
  have hm2 : m < 18446744073709551616 := by omega
  rw [hm, show ((1 : Int) % 18446744073709551616).toNat = 1 from rfl]
  have hl : m ^^^ 1 < 2 ^ 64 := Nat.xor_lt_two_pow (by omega) (by omega)
  have hne := xor_one m
  generalize m ^^^ 1 = k at hl hne ⊢
  rw [i64_wrap_lt k (by omega)]
  split <;> omega

end Go.Proofs.YtadepjpmpjipmaaDoor
