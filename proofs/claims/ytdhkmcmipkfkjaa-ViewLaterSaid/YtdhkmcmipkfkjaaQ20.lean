/-
  A bundle of texts: TAL TDR.
-/
import Derived.Deep.RegionHeld3
import Derived.Deep.QuietTactic
import Derived.BigQuiet
import Derived.Test.YtdhkmcmipkfkjaaQ18
import Derived.Test.YtdhkmcmipkfkjaaQ11
namespace Go.Proofs.Ytdhkmcmipkfkjaa
open Go.RowKit Go.Lib

def ta (s : Int) (a : Ag) : TRec := ⟨⟨#[97]⟩, s, a⟩
def g1 : Ag := ⟨1, 0, 1, 1, 1⟩
def g3 : Ag := ⟨1, 0, 3, 3, 3⟩
theorem ints_1 (x : Int) (h : -9223372036854775808 ≤ x ∧ x ≤ 9223372036854775807) : Ints [x] := fun y hy => by rw [List.mem_singleton.1 hy]; exact h

theorem num_1 (w : World) (x : Int) (T : TypeId) : NumRow .i64 (w.alloc (.cells #[.int .i64 x] T)) (.slice (some ⟨w.heap.size, 0, none⟩) 1 1) [x] :=
  CellRow.ints (xs := [x]) ⟨_, _, rfl, .inr ⟨w.heap.size, 0, rfl, by simp, new_cells w #[.int .i64 x] T⟩⟩

end Go.Proofs.Ytdhkmcmipkfkjaa

namespace Go.Proofs.Ytdhkmcmipkfkjaa
open Go.RowKit Go.Lib

theorem tIns_len (l : List TRec) (r : TRec) : (tIns l r).length ≤ l.length + 1 := by
  induction l with
  | nil => simp [tIns]
  | cons x l ih =>
    unfold tIns
    split
    · simp only [List.length_cons]; omega
    · split
      · simp only [List.length_cons]; omega
      · simp only [List.length_cons]; omega

/-- Of a list that is sifted: the next one that stays. -/
theorem filter_next {α : Type} {P : α → Bool} {L : List α} {i : Nat} {x : α} (hx : L[i]? = some x) (hp : P x = true) : (L.filter P)[((L.take i).filter P).length]? = some x := by
  have hl := (List.getElem?_eq_some_iff.1 hx)
  have e : L.filter P = (L.take i).filter P ++ (L.drop i).filter P := by rw [← List.filter_append, List.take_append_drop]
  rw [e, List.getElem?_append_right (Nat.le_refl _), Nat.sub_self, List.drop_eq_getElem_cons hl.1, hl.2, List.filter_cons, if_pos hp]
  rfl

theorem filter_take {α : Type} {P : α → Bool} {L : List α} {i : Nat} {x : α} (hx : L[i]? = some x) : ((L.take (i + 1)).filter P).length = ((L.take i).filter P).length + if P x = true then 1 else 0 := by
  rw [List.take_add_one, hx, List.filter_append, List.length_append]
  congr 1
  show (List.filter P [x]).length = _
  rw [List.filter_cons]
  split <;> simp

theorem filter_len {α : Type} (P : α → Bool) (L : List α) (i : Nat) : ((L.take i).filter P).length ≤ (L.filter P).length :=
  ((List.take_sublist i L).filter P).length_le

end Go.Proofs.Ytdhkmcmipkfkjaa
