/-
  What statement CrcChanged answers: true, for every input.
-/
import Derived.Test.YtiiaajejlckklaaCY
import Derived.Deep.DeepCutAuto
namespace Go.Proofs.Ytiiaajejlckklaa
open Go.RowKit Go.Lib

theorem changed_light (s : ByteArray) (at0 by0 : Int) (h : 3000 < s.size ∨ at0 < 0) (w : World) :
    Calls Try.prog 4 #[.string s, .int .i64 at0, .int .i64 by0] w fun e w' => e = .returned (.bool true) ∧ Below w.heap.size w w' := by
  have key : ∀ hs : 3000 < s.size ∨ (¬ 3000 < s.size ∧ at0 < 0), Calls Try.prog 4 #[.string s, .int .i64 at0, .int .i64 by0] w fun e w' => e = .returned (.bool true) ∧ Below w.heap.size w w' := by
    clear h
    intro hs
    rcases hs with h1 | ⟨h1, h2⟩
    all_goals
      go_enter Try.func4, Try.ntmps4
      go_wp2_with fail
      refine (alive_any _).mono ?_
      rintro e w1 ⟨rfl, b1⟩
      go_wp2
      go_ret
      exact ⟨rfl, b1⟩
  exact key (by omega)

set_option maxRecDepth 100000 in
set_option maxHeartbeats 1600000 in
theorem changed_any (s : ByteArray) (a : Nat) (by0 : Int) (hs : s.size ≤ 3000) (w : World) :
    Calls Try.prog 4 #[.string s, .int .i64 a, .int .i64 by0] w fun e w' => e = .returned (.bool true) ∧ Below w.heap.size w w' := by
  obtain ⟨i, hi⟩ : ∃ i : Nat, (a : Int) % ((s.size : Int) + 4) = (i : Int) := Int.eq_ofNat_of_zero_le (Int.emod_nonneg _ (by omega))
  have hil : (i : Int) < (s.size : Int) + 4 := by rw [← hi]; exact Int.emod_lt_of_pos _ (by omega)
  obtain ⟨k, hk⟩ : ∃ k : Nat, by0 % 256 = (k : Int) := Int.eq_ofNat_of_zero_le (Int.emod_nonneg _ (by omega))
  have hkl : k < 256 := by omega
  obtain ⟨m, hm⟩ : ∃ m : Nat, min (s.size : Int) 3 = (m : Int) := Int.eq_ofNat_of_zero_le (by omega)
  have hm1 : (m : Int) ≤ (s.size : Int) := by omega
  have hm2 : m ≤ 3 := by omega
  have HS := Hid.of (closeOf_size s)
  have HI := Hid.of hi
  have HK := Hid.of hk
  have HM := Hid.of hm
  have HIL := Hid.of hil
  have HKL := Hid.of hkl
  have HM1 := Hid.of hm1
  have HM2 := Hid.of hm2
  clear hi hk hm hil hkl hm1 hm2
  go_enter Try.func4, Try.ntmps4
  go_wp2_with fail
  refine (Close_any s (by omega) _).mono ?_
  rintro e w1 ⟨rfl, b1⟩
  obtain ⟨w2, cap, hcv, hblk, c2, hcap⟩ := bytes_of_text w1 (closeOf s)
  have b2 : Below w.heap.size w w2 := b1.trans (c2.mono b1.size)
  have hback := text_of_bytes hblk cap (s.size + 4) (by rw [byte_len, HS.out])
  have ht : (⟨(closeOf s).data.toList.toArray⟩ : ByteArray) = closeOf s := same_bytes rfl
  rw [ht] at hback
  rw [HS.out] at hcv hcap
  have HB := Hid.of hblk
  have HC := Hid.of c2
  have hB := b1.size
  obtain ⟨g, hg⟩ : ∃ g, w1.heap.size = g := ⟨_, rfl⟩
  rw [hg] at hcv HB hback
  have HG : Hid (w.heap.size ≤ g) := Hid.of (by rw [← hg]; exact hB)
  clear ht hblk c2 hg hB b1
  go_wp2_with fail
  refine (Open_any (closeOf s) (by rw [HS.out]; omega) _).mono ?_
  rintro e w3 ⟨rfl, c3⟩
  rw [open_close]
  have b3 : Below w.heap.size w w3 := b2.trans (c3.mono b2.size)
  have HB3 := Hid.of (HB.out.kept (grown_of_below c3))
  clear hcv hback c3 b2 HB HC
  have hlen : i < (closeOf s).data.toList.length := by rw [byte_len, HS.out]; have := HIL.out; omega
  obtain ⟨c, hc⟩ : ∃ c, (closeOf s).data.toList[i] = c := ⟨_, rfl⟩
  have hcell : w3.cell? ⟨g, i, none⟩ = some (.int .u8 (c.toNat : Int)) := by rw [HB3.out.cell i hlen, hc]
  have hfree := HB3.out.free i hlen
  obtain ⟨q, hq⟩ : ∃ q, (c ^^^ UInt8.ofNat k).toNat = q := ⟨_, rfl⟩
  have hcx : bits .xor .u8 (c.toNat : Int) (k : Int) = (q : Int) := by
    rw [u8_xor_nat c.toNat k c.toNat_lt HKL.out, ← hq, UInt8.toNat_xor]
    have : (UInt8.ofNat k).toNat = k := by have := HKL.out; simp; omega
    rw [this]
  have hblk4 := HB3.out.stored i hlen (c ^^^ UInt8.ofNat k)
  rw [hq] at hblk4
  have hi := HI.out
  have hk := HK.out
  have i0 : (0 : Int) ≤ (i : Int) := Int.natCast_nonneg _
  have i1 := HIL.out
  have a0 : (0 : Int) ≤ (a : Int) := Int.natCast_nonneg _
  have HC : Hid (∃ h : i < (closeOf s).data.toList.length, (closeOf s).data.toList[i] = c) := Hid.of ⟨hlen, hc⟩
  have b4 : Below w.heap.size w (w3.setCell ⟨g, i, none⟩ (.int .u8 (q : Int))) := b3.setCell HG.out _
  have HB4 := Hid.of hblk4
  have B4 := Hid.of b4
  clear hc hq hblk4 b4 b3 HB3
  go_upto_region 8 with (fail)
  clear hcell hfree hcx hi hk i0 i1 a0
  obtain ⟨w4, hw4⟩ : ∃ w4, w3.setCell ⟨g, i, none⟩ (.int .u8 (q : Int)) = w4 := ⟨_, rfl⟩
  rw [hw4] at HB4 B4 ⊢
  clear hw4
  obtain ⟨t, ht⟩ : ∃ t : ByteArray, (⟨((closeOf s).data.toList.set i (c ^^^ UInt8.ofNat k)).toArray⟩ : ByteArray) = t := ⟨_, rfl⟩
  have htl : t.data.toList = (closeOf s).data.toList.set i (c ^^^ UInt8.ofNat k) := by rw [← ht]
  have hback := text_of_bytes HB4.out cap (s.size + 4) (by rw [List.length_set, byte_len, HS.out])
  rw [ht] at hback
  have htz : t.size = s.size + 4 := by rw [← byte_len, htl, List.length_set, byte_len, HS.out]
  have HT := Hid.of ht
  have HTZ := Hid.of htz
  clear ht htl htz
  go_wp2_with fail
  refine (Open_any t (by rw [HTZ.out]; omega) _).mono ?_
  rintro e w5 ⟨rfl, c5⟩
  have b5 : Below w.heap.size w w5 := B4.out.trans (c5.mono B4.out.size)
  clear hback c5 HB4 B4
  have hm := HM.out
  have m1 := HM1.out
  have m0 : (0 : Int) ≤ (m : Int) := Int.natCast_nonneg _
  go_wp2_with fail
  refine (Open_short (s.extract 0 m) (by rw [take_size s m (by omega)]; have := HM2.out; omega) _).mono ?_
  rintro e w6 ⟨rfl, c6⟩
  have b6 : Below w.heap.size w w6 := b5.trans (c6.mono b5.size)
  clear hm m1 m0 c6 b5
  go_wp2_with fail
  refine (Add_nil _ _).mono ?_
  rintro e w7 ⟨rfl, rfl⟩
  have b7 : Below w.heap.size w (w6.alloc (.cells #[.string s] 9)) := b6.alloc b6.size _
  obtain ⟨w7, hw7⟩ : ∃ w7, w6.alloc (.cells #[.string s] 9) = w7 := ⟨_, rfl⟩
  rw [hw7] at b7 ⊢
  clear hw7 b6
  go_wp2_with fail
  refine (alive_any _).mono ?_
  rintro e w8 ⟨rfl, c8⟩
  have b8 : Below w.heap.size w w8 := b7.trans (c8.mono b7.size)
  clear b7 c8
  have ee : (s.toList == s.toList) = true := beq_self_eq_true _
  by_cases hk0 : k = 0
  · have hz : (by0 % 256 == 0) = true := beq_iff_eq.2 (by rw [HK.out, hk0]; rfl)
    clear hk0
    go_wp2_with (go_at_call 15; refine (Value_nil _).mono ?_; rintro e w' ⟨rfl, rfl⟩)
    go_ret
    exact ⟨rfl, b8⟩
  · have hz : (by0 % 256 == 0) = false := beq_eq_false_iff_ne.2 (by rw [HK.out]; omega)
    have ho : openOf t = (⟨#[]⟩, 7) := by
      obtain ⟨h1, h2⟩ := HC.out
      rw [← HT.out]
      exact open_changed s i (by have := HIL.out; omega) _ h1 (by rw [h2]; intro e; exact hk0 ((xor_zero_byte c k HKL.out).1 e))
    rw [ho]
    clear ho hk0
    go_wp2_with (go_at_call 15; refine (Value_nil _).mono ?_; rintro e w' ⟨rfl, rfl⟩)
    go_ret
    exact ⟨rfl, b8⟩

theorem changed_all (s : ByteArray) (at0 by0 : Int) (w : World) :
    Calls Try.prog 4 #[.string s, .int .i64 at0, .int .i64 by0] w fun e w' => e = .returned (.bool true) ∧ Below w.heap.size w w' := by
  by_cases h : 3000 < s.size ∨ at0 < 0
  · exact changed_light s at0 by0 h w
  · obtain ⟨a, rfl⟩ := Int.eq_ofNat_of_zero_le (show 0 ≤ at0 by omega)
    exact changed_any s a by0 (by omega) w

end Go.Proofs.Ytiiaajejlckklaa
