/-
  What functions Close and Open of package crc answer, and the document's own Open.
-/
import Derived.Test.YtiiaajejlckklaaCR
import Derived.Test.YtiiaajejlckklaaShelf
import Derived.Deep.RegionHeld3
import Derived.Deep.RegionWith
namespace Go.Proofs.Ytiiaajejlckklaa
open Go.RowKit Go.Lib

theorem one_text (s : ByteArray) (h : s.size ≤ maxLen) : Hid (∀ j, j < [s].length → ([s].getD j ByteArray.empty).size ≤ maxLen) := Hid.of fun j hj => by
  match j, hj with
  | 0, _ => exact h
  | j + 1, hj => simp at hj

theorem texts_one (s : ByteArray) : texts [s] = s.data.toList := by simp [texts]

/-- Of at a new slice of one text. -/
theorem Of_one (s : ByteArray) (h : s.size ≤ maxLen) (w1 w2 : World) (b : Nat) (hw : w2 = w1.alloc (.cells #[.string s] 9)) (hb : b = w1.heap.size) :
    Calls Try.prog 13 #[.slice (some ⟨b, 0, none⟩) 1 1] w2 fun e w' => e = .returned (.int .u32 (crcOf s.data.toList : Nat)) ∧ Below w1.heap.size w1 w' := by
  subst hw
  refine (Of_any _ [s] _ (StrRow.made w1 _ [s] _ rfl _ 1 1 hb rfl) (by simp) (one_text s h)).mono ?_
  rintro e w' ⟨rfl, h2⟩
  rw [texts_one]
  exact ⟨rfl, ((Below.refl _ _).alloc (Nat.le_refl _) _).trans (h2.mono (by simp))⟩

set_option maxHeartbeats 400000 in
theorem Close_any (s : ByteArray) (hs : s.size ≤ 1000000) (w : World) :
    Calls Try.prog 16 #[.string s] w fun e w' => e = .returned (.string (closeOf s)) ∧ Below w.heap.size w w' := by
  have hcat := fun w => run_string_add_sum (P := Try.prog) (w := w) s ⟨(four (crcOf s.data.toList)).toArray⟩ (by rw [four_size]; omega)
  go_enter Try.func16, Try.ntmps16
  go_wp2_with (first | (go_at_call 13; refine (Of_one s (by unfold maxLen; omega) w _ _ (by rfl) (by rfl)).mono ?_; rintro e w1 ⟨rfl, b1⟩) | (go_at_call 21; refine (lay_any _ (crcOf_lt _) _).mono ?_; rintro e w2 ⟨rfl, b2⟩))
  go_ret
  exact ⟨rfl, b1.trans (b2.mono b1.size)⟩

theorem Clone_any (s : ByteArray) (w : World) (hs : s.size ≤ 281474976710656) :
    Calls Try.prog 22 #[.string s] w fun e w' => e = .returned (.string s) ∧ Below w.heap.size w w' := by
  go_enter Try.func22, Try.ntmps22
  go_wp2_with (go_at_call 25; refine (Try.stringslite_Clone s _ hs).mono ?_; rintro e w2 ⟨rfl, h2⟩)
  go_ret
  exact ⟨rfl, h2⟩

/-- What Open answers. -/
def openOf (b : ByteArray) : ByteArray × Int :=
  if b.size < 4 then (⟨#[]⟩, 5)
  else if b.data.toList.drop (b.size - 4) = four (crcOf (b.data.toList.take (b.size - 4))) then (b.extract 0 (b.size - 4), 0)
  else (⟨#[]⟩, 7)

set_option maxHeartbeats 400000 in
theorem Open_short (b : ByteArray) (h : b.size < 4) (w : World) :
    Calls Try.prog 11 #[.string b] w fun e w' => e = .returned (.tuple #[.string ⟨#[]⟩, .int .i64 5]) ∧ Below w.heap.size w w' := by
  go_enter Try.func11, Try.ntmps11
  go_wp2
  go_ret2
  exact ⟨rfl, Below.refl _ _⟩

theorem drop_extract (b : ByteArray) (k : Nat) (hk : b.size = k + 4) : (b.extract k (k + 4)).data.toList = b.data.toList.drop k := by
  rw [extract_list, List.take_of_length_le]
  rw [List.length_drop, byte_len]
  omega

theorem take_extract (b : ByteArray) (k : Nat) : (b.extract 0 k).data.toList = b.data.toList.take k := by
  have h := extract_list b 0 k
  rw [Nat.zero_add] at h
  rw [h]
  rfl

theorem take_size (b : ByteArray) (k : Nat) (hk : k ≤ b.size) : (b.extract 0 k).size = k := by
  have := extract_size b 0 k (by omega)
  rwa [Nat.zero_add] at this

set_option maxHeartbeats 400000 in
theorem Open_bad (b : ByteArray) (k : Nat) (hk : b.size = k + 4) (hb : b.size ≤ 1000000) (hne : Hid (b.data.toList.drop k ≠ four (crcOf (b.data.toList.take k)))) (w : World) :
    Calls Try.prog 11 #[.string b] w fun e w' => e = .returned (.tuple #[.string ⟨#[]⟩, .int .i64 7]) ∧ Below w.heap.size w w' := by
  have hq : ((b.extract k (k + 4)).toList == four (crcOf (b.data.toList.take k))) = false := by
    rw [ByteArray.toList_eq, drop_extract b k hk]
    exact beq_false_of_ne hne.out
  have hz : (b.extract 0 k).size ≤ maxLen := by rw [take_size b k (by omega)]; unfold maxLen; omega
  have HZ := Hid.of hz
  clear hz
  go_enter Try.func11, Try.ntmps11
  go_wp2
  go_region_with (first | (go_at_call 13; refine (Of_one (b.extract 0 k) HZ.out w.drew _ _ (by rfl) (by rfl)).mono ?_; rintro e w1 ⟨rfl, b1⟩) | (go_at_call 21; refine (lay_any _ (crcOf_lt _) _).mono ?_; rintro e w2 ⟨rfl, b2⟩))
  all_goals
    have b3 : Below w.heap.size w w2 := ((Below.refl _ _).drew.trans b1).trans (b2.mono b1.size)
    go_wp2
    go_ret2
    exact ⟨rfl, b3⟩

set_option maxHeartbeats 400000 in
theorem Open_good (b : ByteArray) (k : Nat) (hk : b.size = k + 4) (hb : b.size ≤ 1000000) (he : Hid (b.data.toList.drop k = four (crcOf (b.data.toList.take k)))) (w : World) :
    Calls Try.prog 11 #[.string b] w fun e w' => e = .returned (.tuple #[.string (b.extract 0 k), .int .i64 0]) ∧ Below w.heap.size w w' := by
  have hq : ((b.extract k (k + 4)).toList == four (crcOf (b.data.toList.take k))) = true := by
    rw [ByteArray.toList_eq, drop_extract b k hk]
    exact beq_iff_eq.2 he.out
  have hz : (b.extract 0 k).size ≤ maxLen := by rw [take_size b k (by omega)]; unfold maxLen; omega
  have HZ := Hid.of hz
  clear hz
  go_enter Try.func11, Try.ntmps11
  go_wp2
  go_region_with (first | (go_at_call 13; refine (Of_one (b.extract 0 k) HZ.out w.drew _ _ (by rfl) (by rfl)).mono ?_; rintro e w1 ⟨rfl, b1⟩) | (go_at_call 21; refine (lay_any _ (crcOf_lt _) _).mono ?_; rintro e w2 ⟨rfl, b2⟩))
  all_goals
    have b3 : Below w.heap.size w w2 := ((Below.refl _ _).drew.trans b1).trans (b2.mono b1.size)
    clear b1 b2
    go_wp2_with (go_at_call 22; refine (Clone_any _ _ (by rw [take_size b k (by omega)]; omega)).mono ?_; rintro e w4 ⟨rfl, b4⟩)
    go_ret2
    exact ⟨rfl, b3.trans (b4.mono b3.size)⟩

/-- Open, whatever the bytes. -/
theorem Open_any (b : ByteArray) (hb : b.size ≤ 1000000) (w : World) :
    Calls Try.prog 11 #[.string b] w fun e w' => e = .returned (.tuple #[.string (openOf b).1, .int .i64 (openOf b).2]) ∧ Below w.heap.size w w' := by
  unfold openOf
  by_cases h : b.size < 4
  · rw [if_pos h]
    exact Open_short b h w
  · rw [if_neg h]
    split
    · rename_i he
      exact Open_good b (b.size - 4) (by omega) hb (Hid.of he) w
    · rename_i he
      exact Open_bad b (b.size - 4) (by omega) hb (Hid.of he) w

set_option maxHeartbeats 400000 in
theorem refOpen_short (b : ByteArray) (h : b.size < 4) (w : World) :
    Calls Try.prog 12 #[.string b] w fun e w' => e = .returned (.tuple #[.string ⟨#[]⟩, .int .i64 5]) ∧ Below w.heap.size w w' := by
  go_enter Try.func12, Try.ntmps12
  go_wp2
  go_ret2
  exact ⟨rfl, Below.refl _ _⟩

set_option maxHeartbeats 400000 in
theorem refOpen_bad (b : ByteArray) (k : Nat) (hk : b.size = k + 4) (hb : b.size ≤ 1000000) (hne : Hid (b.data.toList.drop k ≠ four (crcOf (b.data.toList.take k)))) (w : World) :
    Calls Try.prog 12 #[.string b] w fun e w' => e = .returned (.tuple #[.string ⟨#[]⟩, .int .i64 7]) ∧ Below w.heap.size w w' := by
  have hq : (four (crcOf (b.data.toList.take k)) == (b.extract k (k + 4)).toList) = false := by
    rw [ByteArray.toList_eq, drop_extract b k hk]
    exact beq_false_of_ne fun h => hne.out h.symm
  have hz : (b.extract 0 k).size ≤ maxLen := by rw [take_size b k (by omega)]; unfold maxLen; omega
  have HZ := Hid.of hz
  clear hz
  go_enter Try.func12, Try.ntmps12
  go_wp2
  go_region_with (first | (go_at_call 14; refine (refSum_any (b.extract 0 k) HZ.out _).mono ?_; rintro e w1 ⟨rfl, rfl⟩) | (go_at_call 23; refine (four_any _ (crcOf_lt _) _).mono ?_; rintro e w2 ⟨rfl, b2⟩))
  all_goals
    have b3 : Below w.heap.size w w2 := (Below.refl _ _).drew.trans b2
    go_wp2
    go_ret2
    exact ⟨rfl, b3⟩

set_option maxHeartbeats 400000 in
theorem refOpen_good (b : ByteArray) (k : Nat) (hk : b.size = k + 4) (hb : b.size ≤ 1000000) (he : Hid (b.data.toList.drop k = four (crcOf (b.data.toList.take k)))) (w : World) :
    Calls Try.prog 12 #[.string b] w fun e w' => e = .returned (.tuple #[.string (b.extract 0 k), .int .i64 0]) ∧ Below w.heap.size w w' := by
  have hq : (four (crcOf (b.data.toList.take k)) == (b.extract k (k + 4)).toList) = true := by
    rw [ByteArray.toList_eq, drop_extract b k hk]
    exact beq_iff_eq.2 he.out.symm
  have hz : (b.extract 0 k).size ≤ maxLen := by rw [take_size b k (by omega)]; unfold maxLen; omega
  have HZ := Hid.of hz
  clear hz
  go_enter Try.func12, Try.ntmps12
  go_wp2
  go_region_with (first | (go_at_call 14; refine (refSum_any (b.extract 0 k) HZ.out _).mono ?_; rintro e w1 ⟨rfl, rfl⟩) | (go_at_call 23; refine (four_any _ (crcOf_lt _) _).mono ?_; rintro e w2 ⟨rfl, b2⟩))
  all_goals
    have b3 : Below w.heap.size w w2 := (Below.refl _ _).drew.trans b2
    go_wp2
    go_ret2
    exact ⟨rfl, b3⟩

/-- The document's own Open, whatever the bytes. -/
theorem refOpen_any (b : ByteArray) (hb : b.size ≤ 1000000) (w : World) :
    Calls Try.prog 12 #[.string b] w fun e w' => e = .returned (.tuple #[.string (openOf b).1, .int .i64 (openOf b).2]) ∧ Below w.heap.size w w' := by
  unfold openOf
  by_cases h : b.size < 4
  · rw [if_pos h]
    exact refOpen_short b h w
  · rw [if_neg h]
    split
    · rename_i he
      exact refOpen_good b (b.size - 4) (by omega) hb (Hid.of he) w
    · rename_i he
      exact refOpen_bad b (b.size - 4) (by omega) hb (Hid.of he) w

end Go.Proofs.Ytiiaajejlckklaa
