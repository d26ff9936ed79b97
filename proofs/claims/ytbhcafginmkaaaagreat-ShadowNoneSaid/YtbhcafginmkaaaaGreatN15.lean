/-
  A bundle of texts: BG BKN BKP KS.
-/
import Derived.Deep.RegionHeld3
import Derived.Test.YtbhcafginmkaaaaGreatN13
import Derived.Test.YtbhcafginmkaaaaGreatN11
import Derived.Test.YtbhcafginmkaaaaGreatN04
namespace Go.Proofs.YtbhcafginmkaaaaGreat
open Go.RowKit Go.Lib

/-- A row: its elements' type, the cells of one, the slice, how many there are, the cells. -/
structure Row1 where
  e : TypeId
  s : Nat
  v : Value
  n : Nat
  xs : List Value

/-- Two slices that lie in no common block. -/
def Apart (a b : Value) : Prop := ∀ g, a.ownBlock = some g → b.ownBlock ≠ some g

theorem Apart.symm {a b : Value} (h : Apart a b) : Apart b a := fun g h1 h2 => h g h2 h1

theorem Apart.ne {a b : Value} (h : Apart a b) : a.ownBlock = none ∨ a.ownBlock ≠ b.ownBlock := by
  cases ha : a.ownBlock with
  | none => exact .inl rfl
  | some g => exact .inr fun hb => h g ha hb.symm

theorem CellRow.grown {w w' : World} {row : Option Nat} {v : Value} {n : Nat} {xs : List Value} (h : CellRow w v n xs) (hg : w.grownBy w' row) (hne : v.ownBlock = none ∨ v.ownBlock ≠ row) : CellRow w' v n xs := by
  obtain ⟨a, c, rfl, h⟩ := h
  refine ⟨a, c, rfl, ?_⟩
  rcases h with h | ⟨b, o, rfl, hl, hc⟩
  · exact .inl h
  · refine .inr ⟨b, o, rfl, Nat.lt_of_lt_of_le hl hg.size, fun j u hj => ?_⟩
    rw [World.cell?_of_block (hg.block b hl (by simpa [Value.ownBlock] using hne))]
    exact hc j u hj

theorem own_mono {w : World} {B D : Nat} {e : TypeId} {s : Nat} {v : Value} {n : Nat} {xs : List Value} (h : w.ownsRow B e s v n xs) (hD : D ≤ B) : w.ownsRow D e s v n xs := by
  refine ⟨h.1, ?_⟩
  rcases h.2 with hn | ⟨g, cap, cur, hv, hb, rest⟩
  · exact .inl hn
  · exact .inr ⟨g, cap, cur, hv, Nat.le_trans hD hb, rest⟩

/-- An own row's cells, whatever their number for each element. -/
theorem own_row {w : World} {B : Nat} {e : TypeId} {s : Nat} {v : Value} {n : Nat} {xs : List Value} (h : w.ownsRow B e s v n xs) : CellRow w v n xs := by
  obtain ⟨hl, h⟩ := h
  rcases h with ⟨rfl, rfl⟩ | ⟨g, cap, cur, rfl, hB, hrow, hcap, hmax, hcs, htk⟩
  · exact ⟨none, 0, rfl, .inl (by simpa using hl)⟩
  · refine ⟨_, _, rfl, .inr ⟨g, 0, rfl, (Array.getElem?_eq_some_iff.1 hrow).1, fun j u hj => ?_⟩⟩
    rw [Nat.zero_add, cell_of_row w g j _ _ _ hrow]
    rw [← htk, List.getElem?_take] at hj
    split at hj
    · simpa using hj
    · cases hj

variable {D : Nat} {w w' : World} {rs qs : List Row1}

end Go.Proofs.YtbhcafginmkaaaaGreat

namespace Go.Proofs.YtbhcafginmkaaaaGreat
open Go.RowKit Go.Lib

theorem one_cell (w : World) (x : Value) (t : TypeId) : Cells (w.alloc (.cells #[x] t)) w.heap.size 0 [x] := by
  intro j u hj
  match j, hj with
  | 0, hj =>
    simp at hj
    subst hj
    rw [World.cell?_alloc_new]
    rfl
  | j + 1, hj => simp at hj

theorem own_one {w : World} {B : Nat} {e : TypeId} {s : Nat} {v : Value} {n : Nat} {xs : List Value} (h : w.ownsRow B e s v n xs) : ∃ a c, v = .slice a n c ∧ v.oneCell' = true := by
  rcases h.2 with ⟨rfl, rfl⟩ | ⟨g, cap, cur, rfl, _⟩
  · exact ⟨_, _, rfl, rfl⟩
  · exact ⟨_, _, rfl, rfl⟩

end Go.Proofs.YtbhcafginmkaaaaGreat

namespace Go.Proofs.YtbhcafginmkaaaaGreat
open Go.RowKit Go.Lib

/-- The first k of M, and what is behind the first k of xs. -/
def part (M xs : List Value) (k : Nat) : List Value := M.take k ++ xs.drop k

end Go.Proofs.YtbhcafginmkaaaaGreat

namespace Go.Proofs.YtbhcafginmkaaaaGreat
open Go.RowKit Go.Lib

section
variable {α : Type} {enc : α → List Value} {s : Nat}

/-- The first k of M, and what is behind the first k of xs. -/
def parts (M xs : List α) (k : Nat) : List α := M.take k ++ xs.drop k

/-- Cells written one behind the other. -/
def setMany : List Value → Nat → List Value → List Value
  | xs, _, [] => xs
  | xs, o, y :: ys => setMany (xs.set o y) (o + 1) ys

theorem setMany_eq (ys xs : List Value) (o : Nat) (h : o + ys.length ≤ xs.length) : setMany xs o ys = xs.take o ++ ys ++ xs.drop (o + ys.length) := by
  induction ys generalizing xs o with
  | nil => simp [setMany]
  | cons y ys ih =>
    simp only [List.length_cons] at h
    rw [setMany, ih _ _ (by rw [List.length_set]; omega)]
    have e1 : (xs.set o y).take (o + 1) = xs.take o ++ [y] := by
      rw [List.take_succ_eq_append_getElem (by rw [List.length_set]; omega), List.take_set, List.set_eq_of_length_le (by rw [List.length_take]; omega)]
      simp
    have e2 : (xs.set o y).drop (o + 1 + ys.length) = xs.drop (o + (ys.length + 1)) := by
      rw [List.drop_set_of_lt (by omega)]
      congr 1
      omega
    rw [e1, e2]
    simp

end

/-- Cells of a block written one behind the other. -/
def setCells (w : World) (g : Nat) : Nat → List Value → World
  | _, [] => w
  | o, y :: ys => setCells (w.setCell ⟨g, o, none⟩ y) g (o + 1) ys

theorem setCells_own {D : Nat} {e : TypeId} {s n cap g : Nat} (ys : List Value) {w : World} {xs : List Value} (o : Nat) (h : w.ownsRow D e s (.slice (some ⟨g, 0, none⟩) n cap) n xs) :
    (setCells w g o ys).ownsRow D e s (.slice (some ⟨g, 0, none⟩) n cap) n (setMany xs o ys) ∧ w.grownBy (setCells w g o ys) (some g) := by
  induction ys generalizing w xs o with
  | nil => exact ⟨h, grownBy_refl _ _⟩
  | cons y ys ih =>
    obtain ⟨h1, h2⟩ := h.stored o y
    obtain ⟨h3, h4⟩ := ih (o + 1) h1
    exact ⟨h3, grownBy_trans h2 h4⟩

/-- A row's cells that are laid anew. -/
theorem new_cells (w : World) (cs : Array Value) (t : TypeId) : Cells (w.alloc (.cells cs t)) w.heap.size 0 cs.toList := by
  intro j u hj
  rw [Nat.zero_add, World.cell?_alloc_new]
  simpa using hj

end Go.Proofs.YtbhcafginmkaaaaGreat
