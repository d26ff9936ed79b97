/-
  A bundle of texts: BA WM BFL.
-/
import Derived.WalkKit
import Derived.WalkSpells
import Derived.WalkLawsBesides
import Derived.ChangeAlike
import Derived.Laws.IdiomStrings
import Derived.WalkSmall
import Derived.Lib.BufSteps
import Derived.Deep.Draws
import Derived.Test.YtdchjcidfaencaaGreatRows
namespace Go.Proofs.YtdchjcidfaencaaGreat
open Go.RowKit Go.Lib

theorem Hid.of {p : Prop} (h : p) : Hid p := h

theorem grownBy_refl (w : World) (row : Option Nat) : w.grownBy w row := ⟨rfl, rfl, rfl, Nat.le_refl _, fun _ _ _ => rfl⟩

theorem grownBy_trans {a b c : World} {row : Option Nat} (h : a.grownBy b row) (k : b.grownBy c row) : a.grownBy c row :=
  ⟨k.os.trans h.os, k.tape.trans h.tape, k.output.trans h.output, Nat.le_trans h.size k.size, fun i hi hr => (k.block i (Nat.lt_of_lt_of_le hi h.size) hr).trans (h.block i hi hr)⟩

theorem grownBy_drew {a b : World} {row : Option Nat} (h : a.grownBy b row) : a.grownBy b.drew row := ⟨h.os, h.tape, h.output, h.size, h.block⟩

theorem grownBy_setCell (w : World) (p o : Nat) (u : Value) : w.grownBy (w.setCell ⟨p, o, none⟩ u) (some p) :=
  ⟨rfl, rfl, rfl, by simp [World.setCell], fun k _ hr => Below.heap_setCell _ _ _ _ (by simpa using hr)⟩

theorem row_set {w : World} {p i : Nat} {cs : Array Value} {t : TypeId} (h : w.heap[p]? = some (.cells cs t (0, 0))) (x : Value) : (w.setCell ⟨p, i, none⟩ x).heap[p]? = some (.cells (cs.setIfInBounds i x) t (0, 0)) :=
  Go.heap_setCell_same w p i cs t x h

theorem row_alloc {w : World} {p : Nat} {b o : Obj} (h : w.heap[p]? = some b) : (w.alloc o).heap[p]? = some b := by
  rw [Below.heap_alloc _ _ _ (Array.getElem?_eq_some_iff.1 h).1]; exact h

theorem row_frozen {w : World} {p i : Nat} {cs : Array Value} {t : TypeId} (h : w.heap[p]? = some (.cells cs t (0, 0))) : w.frozen? ⟨p, i, none⟩ = false := by simp [World.frozen?, h]

/-- All that lay in a world before is as it was. -/
theorem grown_of_below {w w' : World} (h : Below w.heap.size w w') : w.grownBy w' none := ⟨h.os, h.tape, h.output, h.size, fun k hk _ => h.block k hk⟩

theorem below_of_none {w w' : World} (h : w.grownBy w' none) : Below w.heap.size w w' := ⟨h.os, h.tape, h.output, h.size, fun k hk => h.block k hk (by simp)⟩

theorem below_drewN {B : Nat} {w w' : World} (h : Below B w w') (n : Nat) : Below B w (w'.drewN n) := by
  obtain ⟨h1, h2, h3, h4, h5⟩ := h
  exact ⟨h1, h2, h3, h4, h5⟩

theorem byte_len (s : ByteArray) : s.data.toList.length = s.size := Array.length_toList

theorem extract_size (s : ByteArray) (k n : Nat) (h : k + n ≤ s.size) : (s.extract k (k + n)).size = n := by
  simp [ByteArray.size_extract]; omega

theorem take_snoc (s : ByteArray) (k : Nat) (h : k < s.size) : s.data.toList.take (k + 1) = s.data.toList.take k ++ [s[k]'h] := by
  rw [List.take_succ_eq_append_getElem (by rw [byte_len]; exact h)]; rfl

/-- The slice v holds the numbers xs of kind k. -/
def NumRow (k : IntKind) (w : World) (v : Value) (xs : List Int) : Prop :=
  ∃ a c, v = .slice a xs.length c ∧ ((xs = []) ∨ ∃ b o, a = some ⟨b, o, none⟩ ∧ b < w.heap.size ∧ ∀ j, j < xs.length → w.cell? ⟨b, o + j, none⟩ = some (.int k (xs.getD j 0)))

theorem NumRow.at {k : IntKind} {w : World} {b o n c : Nat} {xs : List Int} (hb : b < w.heap.size) (hc : ∀ j, j < xs.length → w.cell? ⟨b, o + j, none⟩ = some (.int k (xs.getD j 0))) (hn : n = xs.length) :
    NumRow k w (.slice (some ⟨b, o, none⟩) n c) xs := ⟨_, c, by rw [hn], .inr ⟨b, o, rfl, hb, hc⟩⟩

theorem NumRow.made (k : IntKind) (w1 : World) (t : TypeId) (xs : List Int) (cs : Array Value) (hcs : cs = (xs.map (Value.int k)).toArray) (b n c : Nat) (hb : b = w1.heap.size) (hn : n = xs.length) :
    NumRow k (w1.alloc (.cells cs t)) (.slice (some ⟨b, 0, none⟩) n c) xs := by
  subst hb hcs
  refine NumRow.at (by simp) ?_ hn
  intro j hj
  rw [Nat.zero_add, cell_of_row _ _ _ _ _ _ (Go.heap_alloc_new _ _)]
  simp [List.getD, hj]

end Go.Proofs.YtdchjcidfaencaaGreat

namespace Go.Proofs.YtdchjcidfaencaaGreat
open Go.RowKit

/-- A byte that is none. -/
def wBad (c : Nat) : Prop := c ≠ 10 ∧ c ≠ 32 ∧ c ≠ 9 ∧ (c < 33 ∨ 126 < c)

instance (c : Nat) : Decidable (wBad c) := by unfold wBad; infer_instance

end Go.Proofs.YtdchjcidfaencaaGreat

namespace Go.Proofs.YtdchjcidfaencaaGreat
open Go.RowKit Go.Lib

/-- The cells of a list, each element's as enc says. -/
def flat {α : Type} (enc : α → List Value) (l : List α) : List Value := l.flatMap enc

section
variable {α : Type} {enc : α → List Value} {s : Nat}

theorem flat_append (a b : List α) : flat enc (a ++ b) = flat enc a ++ flat enc b := by simp [flat]

theorem flat_one (a : α) : flat enc [a] = enc a := by simp [flat]

theorem flat_length (h : ∀ x, (enc x).length = s) (l : List α) : (flat enc l).length = l.length * s := by
  induction l with
  | nil => simp [flat]
  | cons a l ih =>
    have e : flat enc (a :: l) = enc a ++ flat enc l := rfl
    rw [e, List.length_append, ih, h, List.length_cons, Nat.add_mul, Nat.one_mul, Nat.add_comm]

theorem flat_at (h : ∀ x, (enc x).length = s) (l : List α) (j : Nat) (x : α) (hx : l[j]? = some x) (i : Nat) (hi : i < s) : (flat enc l)[j * s + i]? = (enc x)[i]? := by
  induction l generalizing j with
  | nil => simp at hx
  | cons a l ih =>
    have e : flat enc (a :: l) = enc a ++ flat enc l := rfl
    rw [e]
    match j with
    | 0 =>
      simp at hx
      subst hx
      rw [Nat.zero_mul, Nat.zero_add, List.getElem?_append_left (by rw [h]; exact hi)]
    | j + 1 =>
      have e2 : (j + 1) * s + i = s + (j * s + i) := by rw [Nat.add_mul, Nat.one_mul]; omega
      rw [e2, List.getElem?_append_right (by rw [h]; omega), h]
      have e3 : s + (j * s + i) - s = j * s + i := by omega
      rw [e3]
      exact ih j (by simpa using hx)

theorem flat_ones (h : ∀ x, ∀ u ∈ enc x, u.oneCell' = true) (l : List α) : ∀ u ∈ flat enc l, u.oneCell' = true := by
  intro u hu
  obtain ⟨x, _, hx⟩ := List.mem_flatMap.1 hu
  exact h x u hx

end

end Go.Proofs.YtdchjcidfaencaaGreat
