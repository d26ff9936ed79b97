/-
  What methods Name, Text and Rest of an Unpacker answer.
-/
import Derived.Test.YtdlljjbooajgiaaDoorJ
import Derived.Test.YtdlljjbooajgiaaDoorG
import Derived.Test.YtdlljjbooajgiaaDoorShelf
namespace Go.Proofs.YtdlljjbooajgiaaDoor
open Go.RowKit Go.Lib

set_option maxHeartbeats 400000 in
theorem Clone_any (s : ByteArray) (w : World) (hs : s.size ≤ 281474976710656) :
    Calls Tryd.prog 44 #[.string s] w fun e w' => e = .returned (.string s) ∧ Below w.heap.size w w' := by
  go_enter Tryd.func44, Tryd.ntmps44
  go_wp2_with (go_at_call 57; refine (Tryd.stringslite_Clone s _ hs).mono ?_; rintro e w2 ⟨rfl, h2⟩)
  go_ret
  exact ⟨rfl, h2⟩

theorem take_goodN (u : Nat) (s : ByteArray) (k n : Nat) (hn : k + n ≤ s.size) (w : World) (h : Un u s k 0 w) :
    Calls Tryd.prog 42 #[.pointer (some ⟨u, 0, none⟩), .int .i64 n] w fun e w' => ∃ b : ByteArray, e = .returned (.string b) ∧ Hid (b.data.toList = (s.data.toList.drop k).take n) ∧ Hid (b.size = n) ∧ Un u s (k + n) 0 w' ∧ w.grownBy w' (some u) :=
  (take_good u s k n hn w h).mono fun _ _ ⟨h1, h2, h3⟩ => ⟨_, h1, extract_list s k n, extract_size s k n hn, h2, h3⟩

set_option maxHeartbeats 400000 in
theorem Name_nilU (w : World) :
    Calls Tryd.prog 28 #[.pointer none] w fun e w' => e = .returned (.string ⟨#[]⟩) ∧ w = w' := by
  go_enter Tryd.func28, Tryd.ntmps28
  go_wp2_with (go_at_call 42; refine (take_nil 16 _).mono ?_; rintro e w2 ⟨rfl, rfl⟩)
  go_ret
  exact ⟨rfl, rfl⟩

set_option maxHeartbeats 400000 in
theorem Name_stoppedU (u : Nat) (s : ByteArray) (k : Nat) (bad : Int) (hb : (bad != 0) = true) (w : World) (h : Un u s k bad w) :
    Calls Tryd.prog 28 #[.pointer (some ⟨u, 0, none⟩)] w fun e w' => e = .returned (.string ⟨#[]⟩) ∧ w = w' := by
  have H := Hid.of h
  clear h
  go_enter Tryd.func28, Tryd.ntmps28
  go_wp2_with (go_at_call 42; refine (take_stopped u s k bad hb 16 _ H.out).mono ?_; rintro e w2 ⟨rfl, rfl⟩)
  go_ret
  exact ⟨rfl, rfl⟩

theorem name_some {b : ByteArray} (h : b.size = 16) : b.toList.isEmpty = false := by
  have : b.toList.length = 16 := by rw [ByteArray.toList_eq, byte_len]; exact h
  cases hb : b.toList with
  | nil => rw [hb] at this; simp at this
  | cons _ _ => rfl

theorem name_first {b t : ByteArray} (ht : t.size ≤ 15) (h : b.data.toList = nameBytes t) (h0 : 0 < b.size) : (b[0]'h0).toNat = t.size := by
  have e : b[0]'h0 = b.data.toList[0]'(by rw [byte_len]; exact h0) := rfl
  rw [e]
  simp only [h, nameBytes]
  simp
  omega

theorem name_rest {b t : ByteArray} (ht : t.size ≤ 15) (h : b.data.toList = nameBytes t) (hs : b.size = 16) : (b.extract (1 + t.size) b.size).data.toList = List.replicate (15 - t.size) 0 := by
  have e : ([UInt8.ofNat t.size] ++ t.data.toList).length = 1 + t.size := by rw [List.length_append, byte_len]; rfl
  have e0 : b.size = 1 + t.size + (15 - t.size) := by omega
  rw [e0, extract_list, h, nameBytes, ← e, List.drop_left, List.take_of_length_le (by simp)]

theorem name_text {b t : ByteArray} (h : b.data.toList = nameBytes t) : b.extract 1 (1 + t.size) = t := by
  have e : (b.extract 1 (1 + t.size)).data.toList = t.data.toList := by
    rw [extract_list, h, nameBytes, List.append_assoc]
    have : ([UInt8.ofNat t.size] ++ (t.data.toList ++ List.replicate (15 - t.size) 0)).drop 1 = t.data.toList ++ List.replicate (15 - t.size) 0 := rfl
    rw [this, ← byte_len t, List.take_left]
  exact ByteArray.ext (Array.ext' e)

theorem Fr_trans {a b c : World} {row : Option Nat} (h : a.grownBy b row) (k : b.grownBy c row) : a.grownBy c row := grownBy_trans h k

theorem grownBy_weak {a b : World} {row : Option Nat} (h : a.grownBy b none) : a.grownBy b row := ⟨h.os, h.tape, h.output, h.size, fun k hk _ => h.block k hk (by simp)⟩

theorem Trim_zeros (s : ByteArray) (m : Nat) (w : World) (h : s.data.toList = List.replicate m 0) (hm : m ≤ 1000000) :
    Calls Tryd.prog 43 #[.string s, .string ⟨#[0]⟩] w fun e w' => e = .returned (.string ⟨#[]⟩) ∧ w.grownBy w' none := by
  have hb : s.size ≤ 9223372036854775807 := by rw [← byte_len, h, List.length_replicate]; omega
  refine (Tryd.strings_Trim_one s 0 (by decide) w hb).mono ?_
  rintro e w' ⟨rfl, hw⟩
  refine ⟨?_, ?_⟩
  · have e : Lib.trimB s.data.toList 0 = [] := by
      rw [h]
      simp [Lib.trimB, Lib.trimRightB, Lib.trimLeftB, List.reverse_replicate]
    rw [e]
  · rcases hw with rfl | rfl
    · exact grownBy_refl _ _
    · exact grownBy_drew (grownBy_refl _ _)

set_option maxHeartbeats 400000 in
theorem Name_goodU (u : Nat) (s t : ByteArray) (k : Nat) (ht : t.size ≤ 15) (hn : k + 16 ≤ s.size) (hnm : Hid ((s.data.toList.drop k).take 16 = nameBytes t)) (w : World) (h : Un u s k 0 w) :
    Calls Tryd.prog 28 #[.pointer (some ⟨u, 0, none⟩)] w fun e w' => e = .returned (.string t) ∧ ReadTo u s (k + 16) 0 w w' := by
  have H := Hid.of h
  clear h
  go_enter Tryd.func28, Tryd.ntmps28
  go_wp2_with fail
  refine (take_goodN u s k 16 hn _ H.out).mono ?_
  rintro e w2 ⟨b, rfl, hb, hbs, hu2, g2⟩
  have h0 : 0 < b.size := by have := hbs.out; omega
  have hbe : b.toList.isEmpty = false := name_some hbs.out
  have hb0 : (b[0]'h0).toNat = t.size := name_first ht (hb.out.trans hnm.out) h0
  have hb1 : 1 + t.size ≤ b.size := by have := hbs.out; omega
  have HU := Hid.of hu2
  clear hu2
  have HZ := Hid.of (name_rest ht (hb.out.trans hnm.out) hbs.out)
  have HT := Hid.of (name_text (hb.out.trans hnm.out))
  go_wp2_with (first | (go_at_call 43; refine (Trim_zeros _ (15 - t.size) _ HZ.out (by omega)).mono ?_; rintro e w3 ⟨rfl, g3⟩) | (go_at_call 44; refine (Clone_any _ _ (by rw [HT.out]; omega)).mono ?_; rintro e w4 ⟨rfl, b4⟩))
  go_ret
  refine ⟨?_, HU.out.kept (Fr_trans g3 (grown_of_below b4)), ?_⟩
  · show Ending.returned (.string (b.extract 1 (1 + t.size))) = _
    rw [HT.out]
  · exact grownBy_trans g2 (grownBy_weak (Fr_trans g3 (grown_of_below b4)))

set_option maxHeartbeats 400000 in
theorem Text_nilU (w : World) :
    Calls Tryd.prog 29 #[.pointer none] w fun e w' => e = .returned (.string ⟨#[]⟩) ∧ w = w' := by
  go_enter Tryd.func29, Tryd.ntmps29
  go_wp2
  go_ret
  exact ⟨rfl, rfl⟩

set_option maxHeartbeats 400000 in
theorem Text_stoppedU (u : Nat) (s : ByteArray) (k : Nat) (bad : Int) (hb : (bad != 0) = true) (w : World) (h : Un u s k bad w) :
    Calls Tryd.prog 29 #[.pointer (some ⟨u, 0, none⟩)] w fun e w' => e = .returned (.string ⟨#[]⟩) ∧ ReadTo u s k bad w w' := by
  obtain ⟨c0, c1, c2⟩ := h.cells
  have f0 : w.frozen? ⟨u, 0, none⟩ = false := row_frozen h.1
  have H := Hid.of h
  clear h
  go_enter Tryd.func29, Tryd.ntmps29
  go_wp2_with (first | (go_at_call 25; refine (Small_stoppedU u s k 2 (by decide) (by decide) bad hb _ H.out).mono ?_; rintro e w2 ⟨rfl, rfl⟩) | (go_at_call 42; refine (take_stopped u s k bad hb 0 _ H.out).mono ?_; rintro e w2 ⟨rfl, rfl⟩) | (go_at_call 39; refine (stopped_yes u bad hb _ c1).mono ?_; rintro e w' ⟨rfl, rfl⟩) | (go_at_call 44; refine (Clone_any ⟨#[]⟩ _ (by decide)).mono ?_; rintro e w4 ⟨rfl, b4⟩))
  go_ret
  refine ⟨rfl, Un.kept ?_ (grown_of_below b4), grownBy_trans (grownBy_setCell w u 0 _) (grownBy_weak (grown_of_below b4))⟩
  exact ⟨row_set H.out.1 _, H.out.2⟩

theorem Small_goodN (u : Nat) (s : ByteArray) (k n : Nat) (hn1 : 1 ≤ n) (hn7 : n ≤ 7) (hn : k + n ≤ s.size) (m : Nat) (hm : val ((s.data.toList.drop k).take n) = m) (w : World) (h : Un u s k 0 w) :
    Calls Tryd.prog 25 #[.pointer (some ⟨u, 0, none⟩), .int .i64 n] w fun e w' => e = .returned (.int .i64 m) ∧ Un u s (k + n) 0 w' ∧ w.grownBy w' (some u) := by
  rw [← hm]
  exact Small_goodU u s k n hn1 hn7 hn w h

set_option maxHeartbeats 400000 in
theorem Text_goodU (u : Nat) (s t : ByteArray) (k : Nat) (ht : t.size ≤ 65535) (hn : k + 2 + t.size ≤ s.size) (h1 : Hid ((s.data.toList.drop k).take 2 = le 2 t.size)) (h2 : Hid ((s.data.toList.drop (k + 2)).take t.size = t.data.toList)) (w : World) (h : Un u s k 0 w) :
    Calls Tryd.prog 29 #[.pointer (some ⟨u, 0, none⟩)] w fun e w' => e = .returned (.string t) ∧ ReadTo u s (k + 2 + t.size) 0 w w' := by
  obtain ⟨c0, c1, c2⟩ := h.cells
  have H := Hid.of h
  clear h c1 c2
  have HM : Hid (val ((s.data.toList.drop k).take 2) = t.size) := Hid.of (by rw [h1.out]; exact val_le 2 t.size (by simp; omega))
  go_enter Tryd.func29, Tryd.ntmps29
  go_wp2_with (first | (go_at_call 25; refine (Small_goodN u s k 2 (by decide) (by decide) (by omega) t.size HM.out _ H.out).mono ?_; rintro e w2 ⟨rfl, hu2, g2⟩; have HU := Hid.of hu2; clear hu2 c0) | (go_at_call 42; refine (take_goodN u s (k + 2) t.size hn _ HU.out).mono ?_; rintro e w3 ⟨b, rfl, hb, hbs, hu3, g3⟩; have HU3 := Hid.of hu3; have d1 := hu3.cells.2.1; clear hu3) | (go_at_call 39; refine (stopped_no u _ d1).mono ?_; rintro e w' ⟨rfl, rfl⟩) | (go_at_call 44; refine (Clone_any _ _ (by rw [hbs.out]; omega)).mono ?_; rintro e w4 ⟨rfl, b4⟩))
  go_ret
  have e : b = t := ByteArray.ext (Array.ext' (hb.out.trans h2.out))
  subst e
  exact ⟨rfl, HU3.out.kept (grown_of_below b4), grownBy_trans (grownBy_trans g2 g3) (grownBy_weak (grown_of_below b4))⟩

set_option maxHeartbeats 400000 in
theorem Rest_nilU (w : World) :
    Calls Tryd.prog 30 #[.pointer none] w fun e w' => e = .returned (.string ⟨#[]⟩) ∧ w = w' := by
  go_enter Tryd.func30, Tryd.ntmps30
  go_wp2
  go_ret
  exact ⟨rfl, rfl⟩

end Go.Proofs.YtdlljjbooajgiaaDoor
