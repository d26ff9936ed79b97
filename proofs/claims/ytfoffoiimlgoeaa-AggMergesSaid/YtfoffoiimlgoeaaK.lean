/-
  What methods Name, Text and Rest of an Unpacker answer.
-/
import Derived.Test.YtfoffoiimlgoeaaJ
import Derived.Test.YtfoffoiimlgoeaaG
import Derived.Test.YtfoffoiimlgoeaaBC
namespace Go.Proofs.Ytfoffoiimlgoeaa
open Go.RowKit Go.Lib

theorem take_goodN (u : Nat) (s : ByteArray) (k n : Nat) (hn : k + n ≤ s.size) (w : World) (h : Un u s k 0 w) :
    Calls Try.prog 49 #[.pointer (some ⟨u, 0, none⟩), .int .i64 n] w fun e w' => ∃ b : ByteArray, e = .returned (.string b) ∧ Hid (b.data.toList = (s.data.toList.drop k).take n) ∧ Hid (b.size = n) ∧ Un u s (k + n) 0 w' ∧ w.grownBy w' (some u) :=
  (take_good u s k n hn w h).mono fun _ _ ⟨h1, h2, h3⟩ => ⟨_, h1, extract_list s k n, extract_size s k n hn, h2, h3⟩

theorem name_some {b : ByteArray} (h : b.size = 16) : b.toList.isEmpty = false := by
  have : b.toList.length = 16 := by rw [ByteArray.toList_eq, byte_len]; exact h
  cases hb : b.toList with
  | nil => rw [hb] at this; simp at this
  | cons _ _ => rfl

theorem name_first {b t : ByteArray} (ht : t.size ≤ 15) (h : b.data.toList = nameBytes t) (h0 : 0 < b.size) : (b[0]'h0).toNat = t.size := by
  have e : b[0]'h0 = b.data.toList[0]'(by rw [byte_len]; exact h0) := rfl
  rw [e]
  simp only [h, nameBytes]
  simp
  omega

theorem name_rest {b t : ByteArray} (ht : t.size ≤ 15) (h : b.data.toList = nameBytes t) (hs : b.size = 16) : (b.extract (1 + t.size) b.size).data.toList = List.replicate (15 - t.size) 0 := by
  have e : ([UInt8.ofNat t.size] ++ t.data.toList).length = 1 + t.size := by rw [List.length_append, byte_len]; rfl
  have e0 : b.size = 1 + t.size + (15 - t.size) := by omega
  rw [e0, extract_list, h, nameBytes, ← e, List.drop_left, List.take_of_length_le (by simp)]

theorem name_text {b t : ByteArray} (h : b.data.toList = nameBytes t) : b.extract 1 (1 + t.size) = t := by
  have e : (b.extract 1 (1 + t.size)).data.toList = t.data.toList := by
    rw [extract_list, h, nameBytes, List.append_assoc]
    have : ([UInt8.ofNat t.size] ++ (t.data.toList ++ List.replicate (15 - t.size) 0)).drop 1 = t.data.toList ++ List.replicate (15 - t.size) 0 := rfl
    rw [this, ← byte_len t, List.take_left]
  exact ByteArray.ext (Array.ext' e)

theorem Fr_trans {a b c : World} {row : Option Nat} (h : a.grownBy b row) (k : b.grownBy c row) : a.grownBy c row := grownBy_trans h k

theorem grownBy_weak {a b : World} {row : Option Nat} (h : a.grownBy b none) : a.grownBy b row := ⟨h.os, h.tape, h.output, h.size, fun k hk _ => h.block k hk (by simp)⟩

end Go.Proofs.Ytfoffoiimlgoeaa
