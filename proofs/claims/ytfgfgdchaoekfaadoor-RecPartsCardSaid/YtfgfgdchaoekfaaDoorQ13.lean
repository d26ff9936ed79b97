/-
  A bundle of texts: BG BKN KS.
-/
import Derived.Deep.RegionHeld3
import Derived.Test.YtfgfgdchaoekfaaDoorQ12
import Derived.Test.YtfgfgdchaoekfaaDoorQ09
import Derived.Test.YtfgfgdchaoekfaaDoorQ02
namespace Go.Proofs.YtfgfgdchaoekfaaDoor
open Go.RowKit Go.Lib

/-- A row: its elements' type, the cells of one, the slice, how many there are, the cells. -/
structure Row1 where
  e : TypeId
  s : Nat
  v : Value
  n : Nat
  xs : List Value

theorem CellRow.grown {w w' : World} {row : Option Nat} {v : Value} {n : Nat} {xs : List Value} (h : CellRow w v n xs) (hg : w.grownBy w' row) (hne : v.ownBlock = none ∨ v.ownBlock ≠ row) : CellRow w' v n xs := by
  obtain ⟨a, c, rfl, h⟩ := h
  refine ⟨a, c, rfl, ?_⟩
  rcases h with h | ⟨b, o, rfl, hl, hc⟩
  · exact .inl h
  · refine .inr ⟨b, o, rfl, Nat.lt_of_lt_of_le hl hg.size, fun j u hj => ?_⟩
    rw [World.cell?_of_block (hg.block b hl (by simpa [Value.ownBlock] using hne))]
    exact hc j u hj

/-- An own row's cells, whatever their number for each element. -/
theorem own_row {w : World} {B : Nat} {e : TypeId} {s : Nat} {v : Value} {n : Nat} {xs : List Value} (h : w.ownsRow B e s v n xs) : CellRow w v n xs := by
  obtain ⟨hl, h⟩ := h
  rcases h with ⟨rfl, rfl⟩ | ⟨g, cap, cur, rfl, hB, hrow, hcap, hmax, hcs, htk⟩
  · exact ⟨none, 0, rfl, .inl (by simpa using hl)⟩
  · refine ⟨_, _, rfl, .inr ⟨g, 0, rfl, (Array.getElem?_eq_some_iff.1 hrow).1, fun j u hj => ?_⟩⟩
    rw [Nat.zero_add, cell_of_row w g j _ _ _ hrow]
    rw [← htk, List.getElem?_take] at hj
    split at hj
    · simpa using hj
    · cases hj

variable {D : Nat} {w w' : World} {rs qs : List Row1}

end Go.Proofs.YtfgfgdchaoekfaaDoor

namespace Go.Proofs.YtfgfgdchaoekfaaDoor
open Go.RowKit Go.Lib

theorem own_one {w : World} {B : Nat} {e : TypeId} {s : Nat} {v : Value} {n : Nat} {xs : List Value} (h : w.ownsRow B e s v n xs) : ∃ a c, v = .slice a n c ∧ v.oneCell' = true := by
  rcases h.2 with ⟨rfl, rfl⟩ | ⟨g, cap, cur, rfl, _⟩
  · exact ⟨_, _, rfl, rfl⟩
  · exact ⟨_, _, rfl, rfl⟩

end Go.Proofs.YtfgfgdchaoekfaaDoor

namespace Go.Proofs.YtfgfgdchaoekfaaDoor
open Go.RowKit Go.Lib

section
variable {α : Type} {enc : α → List Value} {s : Nat}

end

/-- Cells of a block written one behind the other. -/
def setCells (w : World) (g : Nat) : Nat → List Value → World
  | _, [] => w
  | o, y :: ys => setCells (w.setCell ⟨g, o, none⟩ y) g (o + 1) ys

/-- A row's cells that are laid anew. -/
theorem new_cells (w : World) (cs : Array Value) (t : TypeId) : Cells (w.alloc (.cells cs t)) w.heap.size 0 cs.toList := by
  intro j u hj
  rw [Nat.zero_add, World.cell?_alloc_new]
  simpa using hj

end Go.Proofs.YtfgfgdchaoekfaaDoor
