/-
  What function pass of package crc does: it takes the register on over the bytes of a text.
-/
import Derived.Test.YtiiaajejlckklaaBA
import Derived.Test.YtiiaajejlckklaaCM
import Derived.Laws.BitsAllLaws
namespace Go.Proofs.Ytiiaajejlckklaa
open Go.RowKit Go.Lib

theorem step_in (y : Nat) (h : y < 4294967296) (c : UInt8) : bits .xor .u32 (y : Int) ((c.toNat : Int) % 4294967296) = ((y ^^^ c.toNat : Nat) : Int) := by
  have hc := c.toNat_lt
  have e : ((c.toNat : Int) % 4294967296) = ((c.toNat : Nat) : Int) := by omega
  rw [e]
  exact u32_xor_nat y c.toNat h (by omega)

theorem step_bit (v : Nat) (h : v < 4294967296) : bits .xor .u32 ((v : Int) / 2) (3945912366 * bits .and .u32 (v : Int) 1 % 4294967296) = ((crcBit v : Nat) : Int) := by
  have e1 : bits .and .u32 (v : Int) 1 = ((v % 2 : Nat) : Int) := by
    have := u32_and_nat v 1 h (by omega)
    rw [nat_mask1] at this
    exact this
  have e2 : ((v : Int) / 2) = ((v / 2 : Nat) : Int) := by omega
  rw [e1, e2]
  unfold crcBit
  by_cases ho : v % 2 = 1
  · rw [if_pos ho, ho]
    exact u32_xor_nat (v / 2) crcPoly (by omega) crcPoly_lt
  · have h0 : v % 2 = 0 := by omega
    rw [if_neg ho, h0]
    have := u32_xor_nat (v / 2) 0 (by omega) (by omega)
    rw [Nat.xor_zero] at this
    exact this

theorem crcBits_step (j v : Nat) (h : j < 8) : crcBits (8 - j) v = crcBits (8 - (j + 1)) (crcBit v) := by
  have e : 8 - j = (8 - (j + 1)) + 1 := by omega
  rw [e]; rfl

theorem crcRun_drop (y k : Nat) (s : ByteArray) (h : k < s.size) : crcRun y (s.data.toList.drop k) = crcRun (crcBits 8 (y ^^^ s[k].toNat)) (s.data.toList.drop (k + 1)) := by
  have hl : k < s.data.toList.length := by rw [byte_len]; exact h
  rw [List.drop_eq_getElem_cons hl]
  rfl

set_option maxHeartbeats 400000 in
theorem pass_any (x : Nat) (hx : x < 4294967296) (s : ByteArray) (hs : s.size ≤ maxLen) (w : World) :
    Calls Try.prog 20 #[.int .u32 x, .string s] w fun e w' => e = .returned (.int .u32 (crcRun x s.data.toList : Nat)) ∧ w = w' := by
  unfold maxLen at hs
  go_enter Try.func20, Try.ntmps20
  go_wp2
  go_loop [0, 8] (fun xv i => ∃ (k y : Nat), k ≤ s.size ∧ i = .int .i64 k ∧ xv = .int .u32 y ∧ y < 4294967296 ∧ Hid (crcRun x s.data.toList = crcRun y (s.data.toList.drop k))) (fun _ i => s.size - (intOf i).toNat)
  case atStart => exact ⟨0, x, Nat.zero_le _, rfl, rfl, hx, Hid.of rfl⟩
  case round =>
    obtain ⟨k, y, hk, rfl, rfl, hy, hr⟩ := hrel
    by_cases hlt : k < s.size
    · have HD := Hid.of (crcRun_drop y k s hlt)
      go_wp2
      rw [step_in y hy]
      have hz := Nat.xor_lt_two_pow (n := 32) hy (byte_lt s[k])
      generalize hzz : y ^^^ s[k].toNat = z at *
      have HZ := Hid.of hzz
      clear hzz
      go_loop [0, 17] (fun xv i => ∃ (j v : Nat), j ≤ 8 ∧ i = .int .i64 j ∧ xv = .int .u32 v ∧ v < 4294967296 ∧ Hid (crcBits 8 z = crcBits (8 - j) v)) (fun _ i => 8 - (intOf i).toNat)
      case atStart => exact ⟨0, z, Nat.zero_le _, rfl, rfl, hz, Hid.of rfl⟩
      case round =>
        obtain ⟨j, v, hj, rfl, rfl, hv, hi⟩ := hrel
        by_cases hjt : j < 8
        · go_wp2
          rw [step_bit v hv]
          exact ⟨⟨j + 1, crcBit v, by omega, by go_num, rfl, crcBit_lt hv, Hid.of (by rw [hi.out, crcBits_step j v hjt])⟩, by simp [intOf]; omega⟩
        · go_wp2
          have hj8 : j = 8 := by omega
          subst hj8
          refine ⟨⟨k + 1, v, by omega, by go_num, rfl, hv, Hid.of ?_⟩, by simp [intOf]; omega⟩
          have h8 : crcBits 8 z = v := hi.out
          rw [hr.out, HD.out, h8]
    · go_wp2
      go_ret
      have : k = s.size := by omega
      subst this
      have h := hr.out
      rw [List.drop_of_length_le (by rw [byte_len]; exact Nat.le_refl _), crcRun_nil] at h
      rw [h]
      exact ⟨rfl, rfl⟩

end Go.Proofs.Ytiiaajejlckklaa
