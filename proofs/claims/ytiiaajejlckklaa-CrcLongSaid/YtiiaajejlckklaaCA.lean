/-
  What function alive of chapter 2's statements answers: true.
-/
import Derived.Test.YtiiaajejlckklaaCO
namespace Go.Proofs.Ytiiaajejlckklaa
open Go.RowKit Go.Lib

/-- What was closed is opened. -/
theorem open_close (s : ByteArray) : openOf (closeOf s) = (s, 0) := by
  unfold openOf
  have hz := closeOf_size s
  have e : (closeOf s).size - 4 = s.size := by omega
  have ht : (closeOf s).data.toList.take s.size = s.data.toList := by
    rw [closeOf_list, ← byte_len s, List.take_left]
  have hd : (closeOf s).data.toList.drop s.size = four (crcOf s.data.toList) := by
    rw [closeOf_list, ← byte_len s, List.drop_left]
  rw [if_neg (by omega), e, ht, hd, if_pos rfl]
  refine Prod.ext (same_bytes ?_) rfl
  rw [take_extract, ht]

theorem known_sum : crcOf [49, 50, 51, 52, 53, 54, 55, 56, 57] = 759025838 := by decide +kernel

theorem known_on : crcOn (crcOn 0 (texts [⟨#[49, 50, 51, 52]⟩, ⟨#[53, 54, 55]⟩])) (texts [⟨#[56, 57]⟩]) = 759025838 := by decide +kernel

theorem known_of : crcOf (texts [⟨#[49, 50, 51, 52]⟩, ⟨#[53, 54, 55, 56, 57]⟩]) = 759025838 := by decide +kernel

theorem Of_made (ss : List ByteArray) (n : Nat) (hl : ss.length = n) (h : Hid (∀ j, j < ss.length → (ss.getD j ByteArray.empty).size ≤ maxLen)) (hn : ss.length ≤ 1000000000) (w1 w2 : World) (cs : Array Value) (b : Nat) (hc : cs = (ss.map Value.string).toArray) (hw : w2 = w1.alloc (.cells cs 9)) (hb : b = w1.heap.size) :
    Calls Try.prog 13 #[.slice (some ⟨b, 0, none⟩) n n] w2 fun e w' => e = .returned (.int .u32 (crcOf (texts ss) : Nat)) ∧ Below w1.heap.size w1 w' := by
  subst hw
  refine (Of_any _ ss _ (StrRow.made w1 _ ss _ hc _ n n hb hl.symm) hn h).mono ?_
  rintro e w' ⟨rfl, h2⟩
  exact ⟨rfl, ((Below.refl _ _).alloc (Nat.le_refl _) _).trans (h2.mono (by simp))⟩

/-- A Sum of its own in block p that stands at v. -/
def SumAt (p v : Nat) (w : World) : Prop := w.heap[p]? = some (.cells #[.int .u32 v] 28 (0, 0))

theorem SumAt.cell {p v : Nat} {w : World} (h : SumAt p v w) : w.cell? ⟨p, 0, none⟩ = some (.int .u32 v) := by
  have := cell_of_row w p 0 _ _ _ h
  simpa using this

theorem SumAt.kept {p v : Nat} {w w' : World} (h : SumAt p v w) (hb : w.grownBy w' none) : SumAt p v w' := by
  unfold SumAt at *
  rw [hb.block p (Array.getElem?_eq_some_iff.1 h).1 (by simp)]; exact h

theorem SumAt.lt {p v : Nat} {w : World} (h : SumAt p v w) : p < w.heap.size := (Array.getElem?_eq_some_iff.1 h).1

theorem SumAt.new (w : World) : SumAt w.heap.size 0 (w.alloc (.cells #[.int .u32 0] 28)) := Go.heap_alloc_new _ _

/-- Add at a Sum of one's own. -/
theorem Add_at (p v : Nat) (hv : v < 4294967296) (sv : Value) (ss : List ByteArray) (w : World) (h : SumAt p v w)
    (hs : StrRow w sv ss) (hn : ss.length ≤ 1000000000) (hm : Hid (∀ j, j < ss.length → (ss.getD j ByteArray.empty).size ≤ maxLen)) :
    Calls Try.prog 9 #[.pointer (some ⟨p, 0, none⟩), sv] w fun e w' => e = .returned (.tuple #[]) ∧ SumAt p (crcOn v (texts ss)) w' ∧ w.grownBy w' (some p) := by
  refine (Add_any p v hv sv ss w h.cell (row_frozen h) hs hn hm).mono ?_
  rintro e w' ⟨rfl, s1⟩
  refine ⟨rfl, ?_, s1.grown⟩
  exact s1.row h

/-- Add at a Sum of one's own and a new slice of texts. -/
theorem Add_made (p v : Nat) (hv : v < 4294967296) (ss : List ByteArray) (n : Nat) (hl : ss.length = n) (w1 w2 : World) (h : SumAt p v w1) (cs : Array Value) (b : Nat) (hc : cs = (ss.map Value.string).toArray) (hw : w2 = w1.alloc (.cells cs 9)) (hb : b = w1.heap.size)
    (hn : ss.length ≤ 1000000000) (hm : Hid (∀ j, j < ss.length → (ss.getD j ByteArray.empty).size ≤ maxLen)) :
    Calls Try.prog 9 #[.pointer (some ⟨p, 0, none⟩), .slice (some ⟨b, 0, none⟩) n n] w2 fun e w' => e = .returned (.tuple #[]) ∧ SumAt p (crcOn v (texts ss)) w' ∧ w1.grownBy w' (some p) := by
  subst hw
  refine (Add_at p v hv _ ss _ (h.kept (World.grownBy_alloc _ _ _)) (StrRow.made w1 _ ss _ hc _ n n hb hl.symm) hn hm).mono ?_
  rintro e w' ⟨rfl, h1, h2⟩
  exact ⟨rfl, h1, grownBy_trans (World.grownBy_alloc _ _ _) h2⟩

theorem small_texts (ss : List ByteArray) (h : ∀ s ∈ ss, s.size ≤ maxLen) : Hid (∀ j, j < ss.length → (ss.getD j ByteArray.empty).size ≤ maxLen) := Hid.of fun j hj => by
  have e : ss.getD j ByteArray.empty = ss[j] := by simp [List.getD, hj]
  rw [e]
  exact h _ (List.getElem_mem hj)

set_option maxHeartbeats 800000 in
theorem alive_any (w : World) : Calls Try.prog 8 #[] w fun e w' => e = .returned (.bool true) ∧ Below w.heap.size w w' := by
  have hcs : (closeOf ⟨#[97, 98, 99]⟩).size = 7 := closeOf_size _
  have HCS := Hid.of hcs
  clear hcs
  go_enter Try.func8, Try.ntmps8
  go_wp2_with fail
  refine (Close_any ⟨#[97, 98, 99]⟩ (by decide) _).mono ?_
  rintro e w1 ⟨rfl, b1⟩
  go_wp2_with fail
  refine (Open_any _ (by rw [HCS.out]; decide) _).mono ?_
  rintro e w2 ⟨rfl, c2⟩
  rw [open_close]
  have b2 : Below w.heap.size w w2 := b1.trans (c2.mono b1.size)
  clear b1 c2
  go_wp2_with fail
  refine (Add_made w2.heap.size 0 (by decide) [⟨#[49, 50, 51, 52]⟩, ⟨#[53, 54, 55]⟩] 2 (by rfl) _ _ (SumAt.new w2) _ _ (by rfl) (by rfl) (by simp) (by simp) (small_texts _ (by decide))).mono ?_
  rintro e w3 ⟨rfl, s3, g3⟩
  have b3 : Below w.heap.size w w3 := (b2.alloc b2.size _).trans (Below.of_grown g3 b2.size (by simp))
  have S3 := Hid.of s3
  have hz := s3.lt
  have b2 := b2.size
  clear s3 g3
  go_wp2_with fail
  refine (Add_made w2.heap.size _ (crcOn_lt (by decide) _) [⟨#[56, 57]⟩] 1 (by rfl) _ _ S3.out _ _ (by rfl) (by rfl) (by rfl) (by simp) (small_texts _ (by decide))).mono ?_
  rintro e w4 ⟨rfl, s4, g4⟩
  rw [known_on] at s4
  have b4 : Below w.heap.size w w4 := b3.trans (Below.of_grown g4 b2 hz)
  clear b3 g4
  have S4 := Hid.of s4
  clear s4
  go_wp2_with fail
  refine (Of_made [⟨#[49, 50, 51, 52]⟩, ⟨#[53, 54, 55, 56, 57]⟩] 2 (by rfl) (small_texts _ (by decide)) (by simp) w4 _ _ _ (by rfl) (by rfl) (by rfl)).mono ?_
  rintro e w5 ⟨rfl, c5⟩
  rw [known_of]
  have b5 : Below w.heap.size w w5 := b4.trans (c5.mono b4.size)
  have hc := (S4.out.kept (grown_of_below c5)).cell
  clear b4 c5
  go_wp2_with (go_at_call 15; refine (Value_any _ _ _ hc).mono ?_; rintro e w' ⟨rfl, rfl⟩)
  go_ret
  exact ⟨rfl, b5⟩

end Go.Proofs.Ytiiaajejlckklaa
