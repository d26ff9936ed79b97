/-
  What the document's own functions Sum and Close answer; what functions Of and Close of package crc answer.
-/
import Derived.Test.YtiiaajejlckklaaCS
namespace Go.Proofs.Ytiiaajejlckklaa
open Go.RowKit Go.Lib

theorem ret_int {k : IntKind} {a b : Int} (h : a = b) : Ending.returned (.int k a) = .returned (.int k b) := by rw [h]

theorem four_size (x : Nat) : (⟨(four x).toArray⟩ : ByteArray).size = 4 := rfl

theorem ref_odd (v : Nat) (h : v < 4294967296) : bits .xor .u32 ((v : Int) / 2) 3945912366 = ((v / 2 ^^^ crcPoly : Nat) : Int) :=
  u32_xor_nat (v / 2) crcPoly (by omega) crcPoly_lt

set_option maxHeartbeats 800000 in
theorem refSum_any (s : ByteArray) (hs : s.size ≤ maxLen) (w : World) :
    Calls Try.prog 14 #[.string s] w fun e w' => e = .returned (.int .u32 (crcOf s.data.toList : Nat)) ∧ w = w' := by
  unfold maxLen at hs
  go_enter Try.func14, Try.ntmps14
  go_wp2
  go_loop [3, 4] (fun xv i => ∃ (k y : Nat), k ≤ s.size ∧ i = .int .i64 k ∧ xv = .int .u32 y ∧ y < 4294967296 ∧ Hid (crcRun 4294967295 s.data.toList = crcRun y (s.data.toList.drop k))) (fun _ i => s.size - (intOf i).toNat)
  case atStart => exact ⟨0, 4294967295, Nat.zero_le _, rfl, rfl, by decide, Hid.of rfl⟩
  case round =>
    obtain ⟨k, y, hk, rfl, rfl, hy, hr⟩ := hrel
    by_cases hlt : k < s.size
    · have HD := Hid.of (crcRun_drop y k s hlt)
      go_wp2
      rw [step_in y hy]
      have hz := Nat.xor_lt_two_pow (n := 32) hy (byte_lt s[k])
      generalize hzz : y ^^^ s[k].toNat = z at *
      have HZ := Hid.of hzz
      clear hzz
      go_loop [3, 5] (fun xv i => ∃ (j v : Nat), j ≤ 8 ∧ i = .int .i64 j ∧ xv = .int .u32 v ∧ v < 4294967296 ∧ Hid (crcBits 8 z = crcBits (8 - j) v)) (fun _ i => 8 - (intOf i).toNat)
      case atStart => exact ⟨0, z, Nat.zero_le _, rfl, rfl, hz, Hid.of rfl⟩
      case round =>
        obtain ⟨j, v, hj, rfl, rfl, hv, hi⟩ := hrel
        by_cases hjt : j < 8
        · by_cases ho : v % 2 = 1
          · have hd : ((v : Int) % 2 == 1) = true := by simp; omega
            go_wp2
            rw [ref_odd v hv]
            exact ⟨⟨j + 1, _, by omega, by go_num, rfl, Nat.xor_lt_two_pow (n := 32) (by omega) crcPoly_lt, Hid.of (by rw [hi.out, crcBits_step j v hjt, crcBit, if_pos ho])⟩, by simp [intOf]; omega⟩
          · have hd : ((v : Int) % 2 == 1) = false := by simp; omega
            go_wp2
            exact ⟨⟨j + 1, v / 2, by omega, by go_num, by rw [Int.natCast_ediv]; rfl, by omega, Hid.of (by rw [hi.out, crcBits_step j v hjt, crcBit, if_neg ho])⟩, by simp [intOf]; omega⟩
        · go_wp2
          have hj8 : j = 8 := by omega
          subst hj8
          refine ⟨⟨k + 1, v, by omega, by go_num, rfl, hv, Hid.of ?_⟩, by simp [intOf]; omega⟩
          have h8 : crcBits 8 z = v := hi.out
          rw [hr.out, HD.out, h8]
    · go_wp2
      go_ret
      have : k = s.size := by omega
      subst this
      have h := hr.out
      rw [List.drop_of_length_le (by rw [byte_len]; exact Nat.le_refl _), crcRun_nil] at h
      unfold crcOf
      rw [h, xor_ones hy]
      exact ⟨ret_int (by omega), rfl⟩

/-- A text with its sum behind it. -/
def closeOf (s : ByteArray) : ByteArray := s ++ ⟨(four (crcOf s.data.toList)).toArray⟩

theorem closeOf_size (s : ByteArray) : (closeOf s).size = s.size + 4 := by
  unfold closeOf
  rw [ByteArray.size_append]
  rfl

theorem closeOf_list (s : ByteArray) : (closeOf s).data.toList = s.data.toList ++ four (crcOf s.data.toList) := by
  unfold closeOf
  rw [append_list]

set_option maxHeartbeats 400000 in
theorem refClose_any (s : ByteArray) (hs : s.size ≤ 1000000) (w : World) :
    Calls Try.prog 17 #[.string s] w fun e w' => e = .returned (.string (closeOf s)) ∧ Below w.heap.size w w' := by
  have hcat := fun w => run_string_add_sum (P := Try.prog) (w := w) s ⟨(four (crcOf s.data.toList)).toArray⟩ (by rw [four_size]; omega)
  go_enter Try.func17, Try.ntmps17
  go_wp2_with (first | (go_at_call 14; refine (refSum_any s (by unfold maxLen; omega) _).mono ?_; rintro e w' ⟨rfl, rfl⟩) | (go_at_call 23; refine (four_any _ (crcOf_lt _) _).mono ?_; rintro e w2 ⟨rfl, b2⟩))
  go_ret
  exact ⟨rfl, b2⟩

set_option maxHeartbeats 400000 in
theorem Of_any (sv : Value) (ss : List ByteArray) (w : World) (hs : StrRow w sv ss) (hn : ss.length ≤ 1000000000) (hm : Hid (∀ j, j < ss.length → (ss.getD j ByteArray.empty).size ≤ maxLen)) :
    Calls Try.prog 13 #[sv] w fun e w' => e = .returned (.int .u32 (crcOf (texts ss) : Nat)) ∧ Below w.heap.size w w' := by
  go_enter Try.func13, Try.ntmps13
  go_wp2_with fail
  refine (Add_any w.heap.size 0 (by decide) sv ss _ ?_ ?_ (hs.kept ((Below.refl _ _).alloc (Nat.le_refl _) _)) hn hm).mono ?_
  · exact World.cell?_alloc_new ..
  · exact row_frozen (Go.heap_alloc_new w _)
  rintro e w1 ⟨rfl, s1⟩
  rw [crcOn_zero] at s1
  have hc := cell_of_row w1 w.heap.size 0 _ _ _ (s1.row (Go.heap_alloc_new w _))
  simp at hc
  have b1 : Below w.heap.size w w1 := ((Below.refl _ _).alloc (Nat.le_refl _) _).trans (Below.of_grown s1.grown (Nat.le_refl _) (by simp))
  have S1 := Hid.of s1
  clear s1
  go_wp2_with (go_at_call 15; refine (Value_any _ _ _ hc).mono ?_; rintro e w' ⟨rfl, rfl⟩)
  go_ret
  exact ⟨rfl, b1⟩

end Go.Proofs.Ytiiaajejlckklaa
