/-
  A bundle of texts: K L.
-/
import Derived.Test.YtfgfgdchaoekfaaGreatDoorQ10
import Derived.Test.YtfgfgdchaoekfaaGreatDoorQ05
import Derived.Test.YtfgfgdchaoekfaaGreatDoorQ03
import Derived.Test.YtfgfgdchaoekfaaGreatDoorQ18
namespace Go.Proofs.YtfgfgdchaoekfaaGreatDoor
open Go.RowKit Go.Lib

theorem take_goodN (u : Nat) (s : ByteArray) (k n : Nat) (hn : k + n ≤ s.size) (w : World) (h : Un u s k 0 w) :
    Calls Tryz.prog 124 #[.pointer (some ⟨u, 0, none⟩), .int .i64 n] w fun e w' => ∃ b : ByteArray, e = .returned (.string b) ∧ Hid (b.data.toList = (s.data.toList.drop k).take n) ∧ Hid (b.size = n) ∧ Un u s (k + n) 0 w' ∧ w.grownBy w' (some u) :=
  (take_good u s k n hn w h).mono fun _ _ ⟨h1, h2, h3⟩ => ⟨_, h1, extract_list s k n, extract_size s k n hn, h2, h3⟩

theorem name_some {b : ByteArray} (h : b.size = 16) : b.toList.isEmpty = false := by
  have : b.toList.length = 16 := by rw [ByteArray.toList_eq, byte_len]; exact h
  cases hb : b.toList with
  | nil => rw [hb] at this; simp at this
  | cons _ _ => rfl

theorem name_first {b t : ByteArray} (ht : t.size ≤ 15) (h : b.data.toList = nameBytes t) (h0 : 0 < b.size) : (b[0]'h0).toNat = t.size := by
  have e : b[0]'h0 = b.data.toList[0]'(by rw [byte_len]; exact h0) := rfl
  rw [e]
  simp only [h, nameBytes]
  simp
  omega

theorem name_rest {b t : ByteArray} (ht : t.size ≤ 15) (h : b.data.toList = nameBytes t) (hs : b.size = 16) : (b.extract (1 + t.size) b.size).data.toList = List.replicate (15 - t.size) 0 := by
  have e : ([UInt8.ofNat t.size] ++ t.data.toList).length = 1 + t.size := by rw [List.length_append, byte_len]; rfl
  have e0 : b.size = 1 + t.size + (15 - t.size) := by omega
  rw [e0, extract_list, h, nameBytes, ← e, List.drop_left, List.take_of_length_le (by simp)]

theorem name_text {b t : ByteArray} (h : b.data.toList = nameBytes t) : b.extract 1 (1 + t.size) = t := by
  have e : (b.extract 1 (1 + t.size)).data.toList = t.data.toList := by
    rw [extract_list, h, nameBytes, List.append_assoc]
    have : ([UInt8.ofNat t.size] ++ (t.data.toList ++ List.replicate (15 - t.size) 0)).drop 1 = t.data.toList ++ List.replicate (15 - t.size) 0 := rfl
    rw [this, ← byte_len t, List.take_left]
  exact ByteArray.ext (Array.ext' e)

theorem Fr_trans {a b c : World} {row : Option Nat} (h : a.grownBy b row) (k : b.grownBy c row) : a.grownBy c row := grownBy_trans h k

theorem grownBy_weak {a b : World} {row : Option Nat} (h : a.grownBy b none) : a.grownBy b row := ⟨h.os, h.tape, h.output, h.size, fun k hk _ => h.block k hk (by simp)⟩

theorem Trim_zeros (s : ByteArray) (m : Nat) (w : World) (h : s.data.toList = List.replicate m 0) (hm : m ≤ 1000000) :
    Calls Tryz.prog 125 #[.string s, .string ⟨#[0]⟩] w fun e w' => e = .returned (.string ⟨#[]⟩) ∧ w.grownBy w' none := by
  have hb : s.size ≤ 9223372036854775807 := by rw [← byte_len, h, List.length_replicate]; omega
  refine (Tryz.strings_Trim_one s 0 (by decide) w hb).mono ?_
  rintro e w' ⟨rfl, hw⟩
  refine ⟨?_, ?_⟩
  · have e : Lib.trimB s.data.toList 0 = [] := by
      rw [h]
      simp [Lib.trimB, Lib.trimRightB, Lib.trimLeftB, List.reverse_replicate]
    rw [e]
  · rcases hw with rfl | rfl
    · exact grownBy_refl _ _
    · exact grownBy_drew (grownBy_refl _ _)

set_option maxHeartbeats 400000 in
theorem Name_goodU (u : Nat) (s t : ByteArray) (k : Nat) (ht : t.size ≤ 15) (hn : k + 16 ≤ s.size) (hnm : Hid ((s.data.toList.drop k).take 16 = nameBytes t)) (w : World) (h : Un u s k 0 w) :
    Calls Tryz.prog 93 #[.pointer (some ⟨u, 0, none⟩)] w fun e w' => e = .returned (.string t) ∧ ReadTo u s (k + 16) 0 w w' := by
  have H := Hid.of h
  clear h
  go_enter Tryz.func93, Tryz.ntmps93
  go_wp2_with fail
  refine (take_goodN u s k 16 hn _ H.out).mono ?_
  rintro e w2 ⟨b, rfl, hb, hbs, hu2, g2⟩
  have h0 : 0 < b.size := by have := hbs.out; omega
  have hbe : b.toList.isEmpty = false := name_some hbs.out
  have hb0 : (b[0]'h0).toNat = t.size := name_first ht (hb.out.trans hnm.out) h0
  have hb1 : 1 + t.size ≤ b.size := by have := hbs.out; omega
  have HU := Hid.of hu2
  clear hu2
  have HZ := Hid.of (name_rest ht (hb.out.trans hnm.out) hbs.out)
  have HT := Hid.of (name_text (hb.out.trans hnm.out))
  go_wp2_with (first | (go_at_call 125; refine (Trim_zeros _ (15 - t.size) _ HZ.out (by omega)).mono ?_; rintro e w3 ⟨rfl, g3⟩) | (go_at_call 127; refine (Clone_any _ _ (by rw [HT.out]; omega)).mono ?_; rintro e w4 ⟨rfl, b4⟩))
  go_ret
  refine ⟨?_, HU.out.kept (Fr_trans g3 (grown_of_below b4)), ?_⟩
  · show Ending.returned (.string (b.extract 1 (1 + t.size))) = _
    rw [HT.out]
  · exact grownBy_trans g2 (grownBy_weak (Fr_trans g3 (grown_of_below b4)))

end Go.Proofs.YtfgfgdchaoekfaaGreatDoor

namespace Go.Proofs.YtfgfgdchaoekfaaGreatDoor
open Go.RowKit Go.Lib

/-- What a method of a Packer without an error leaves. -/
def Wrote (B p : Nat) (l : List UInt8) (bad : Int) (w w' : World) : Prop := Pk B p l bad w' ∧ w.grownBy w' (some p)

theorem Ints_pk {B p : Nat} {l : List UInt8} {w : World} (h : Pk B p l 0 w) (h1 : l.length ≤ 140737488355328) (v : Value) (xs : List Int) (hv : NumRow .i64 w v xs) (h2 : xs.length ≤ 1000000000) :
    Calls Tryz.prog 87 #[.pointer (some ⟨p, 0, none⟩), v] w fun e w' => e = .returned (.tuple #[]) ∧ Wrote B p (l ++ smallBytes 8 (xs.map unsigned)) 0 w w' :=
  (Ints_any _ v xs w _ (Hid.of (putSpec_Pk B p l w h h1)) hv h2).mono fun _ _ ⟨he, hd⟩ => ⟨he, hd.pk⟩

theorem Words_pk {B p : Nat} {l : List UInt8} {w : World} (h : Pk B p l 0 w) (h1 : l.length ≤ 140737488355328) (v : Value) (xs : List Int) (hv : NumRow .u64 w v xs) (hnn : ∀ j, j < xs.length → 0 ≤ xs.getD j 0) (h2 : xs.length ≤ 1000000000) :
    Calls Tryz.prog 123 #[.pointer (some ⟨p, 0, none⟩), v] w fun e w' => e = .returned (.tuple #[]) ∧ Wrote B p (l ++ smallBytes 8 xs) 0 w w' :=
  (Words_any _ v xs w _ (Hid.of (putSpec_Pk B p l w h h1)) hv (Hid.of hnn) h2).mono fun _ _ ⟨he, hd⟩ => ⟨he, hd.pk⟩

theorem Names_pk {B p : Nat} {l : List UInt8} {w : World} (h : Pk B p l 0 w) (h1 : l.length ≤ 140737488355328) (v : Value) (ss : List ByteArray) (hv : StrRow w v ss) (hok : ∀ j, j < ss.length → (ss.getD j ByteArray.empty).size ≤ 15) (h2 : ss.length ≤ 1000000000) :
    Calls Tryz.prog 86 #[.pointer (some ⟨p, 0, none⟩), v] w fun e w' => e = .returned (.tuple #[]) ∧ Wrote B p (l ++ namesBytes ss) 0 w w' :=
  (Names_good _ v ss w _ (Hid.of (putSpec_Pk B p l w h h1)) hv (Hid.of hok) h2).mono fun _ _ ⟨he, hd⟩ => ⟨he, hd.pk⟩

/-- A new Packer. -/
theorem Pk.new (w : World) : Pk w.heap.size w.heap.size [] 0 (w.alloc (.cells #[.int .i64 0, .int .i64 0, .pointer none] 118)) :=
  ⟨[], none, Go.heap_alloc_new _ _, rfl, rfl, Nat.le_refl _⟩

end Go.Proofs.YtfgfgdchaoekfaaGreatDoor
