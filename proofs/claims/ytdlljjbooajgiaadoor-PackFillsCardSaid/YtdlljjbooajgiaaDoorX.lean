/-
  Pieces of bytes, where they lie; reads of an Unpacker, their answers given.
-/
import Derived.Test.YtdlljjbooajgiaaDoorS
import Derived.Deep.RegionHeld3
namespace Go.Proofs.YtdlljjbooajgiaaDoor
open Go.RowKit Go.Lib

theorem seg {l a b c : List UInt8} {k m : Nat} (hl : l = a ++ b ++ c) (hk : a.length = k) (hm : b.length = m) : (l.drop k).take m = b := by
  subst hl hk hm
  rw [List.append_assoc, List.drop_left, List.take_left]

theorem smallBytes_split (k : Nat) (xs : List Int) (j : Nat) (h : j < xs.length) : smallBytes k xs = smallBytes k (xs.take j) ++ le k (xs.getD j 0).toNat ++ smallBytes k (xs.drop (j + 1)) := by
  rw [← smallBytes_take k xs j h]
  unfold smallBytes
  rw [← List.flatten_append, ← List.map_append, List.take_append_drop]

theorem namesBytes_split (ss : List ByteArray) (j : Nat) (h : j < ss.length) : namesBytes ss = namesBytes (ss.take j) ++ nameBytes (ss.getD j ByteArray.empty) ++ namesBytes (ss.drop (j + 1)) := by
  rw [← namesBytes_take ss j h]
  unfold namesBytes
  rw [← List.flatten_append, ← List.map_append, List.take_append_drop]

theorem wrap_unsigned (x : Int) (h0 : -9223372036854775808 ≤ x) (h1 : x ≤ 9223372036854775807) : wrap64 ((unsigned x).toNat : Int) = x := by
  have e : unsigned x = x % 18446744073709551616 := rfl
  rw [Int.toNat_of_nonneg (unsigned_nonneg x), e]
  unfold wrap64
  omega

theorem unsigned_lt (x : Int) : (unsigned x).toNat < 256 ^ 8 := by
  have e : unsigned x = x % 18446744073709551616 := rfl
  rw [e]
  omega

/-- A world whose heap is the one that is known. -/
theorem Int_at (u : Nat) (s : ByteArray) (k : Nat) (hn : k + 8 ≤ s.size) (x : Int) (hx : wrap64 (val ((s.data.toList.drop k).take 8)) = x) (w0 w : World) (h : Un u s k 0 w0) (hh : w.heap = w0.heap) :
    Calls Tryd.prog 24 #[.pointer (some ⟨u, 0, none⟩)] w fun e w' => e = .returned (.int .i64 x) ∧ Un u s (k + 8) 0 w' ∧ w.grownBy w' (some u) := by
  have h2 : Un u s k 0 w := ⟨by rw [hh]; exact h.1, h.2⟩
  rw [← hx]
  exact Int_goodU u s k hn w h2

theorem Word_at (u : Nat) (s : ByteArray) (k : Nat) (hn : k + 8 ≤ s.size) (x : Nat) (hx : val ((s.data.toList.drop k).take 8) = x) (w : World) (h : Un u s k 0 w) :
    Calls Tryd.prog 27 #[.pointer (some ⟨u, 0, none⟩)] w fun e w' => e = .returned (.int .u64 x) ∧ Un u s (k + 8) 0 w' ∧ w.grownBy w' (some u) := by
  rw [← hx]
  exact Word_goodU u s k hn w h

theorem Name_at (u : Nat) (s t : ByteArray) (k : Nat) (ht : t.size ≤ 15) (hn : k + 16 ≤ s.size) (hnm : (s.data.toList.drop k).take 16 = nameBytes t) (w0 w : World) (h : Un u s k 0 w0) (hh : w.heap = w0.heap) :
    Calls Tryd.prog 28 #[.pointer (some ⟨u, 0, none⟩)] w fun e w' => e = .returned (.string t) ∧ Un u s (k + 16) 0 w' ∧ w.grownBy w' (some u) :=
  Name_goodU u s t k ht hn hnm w ⟨by rw [hh]; exact h.1, h.2⟩

end Go.Proofs.YtdlljjbooajgiaaDoor
