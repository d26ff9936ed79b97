/-
  A bundle of texts: BKM.
-/
import Derived.Deep.RegionHeld3
import Derived.Test.YtokjlmkegdickaaQ10
/-
  Marked lists of ints (package sedimentbook): markedInts.
-/
namespace Go.Proofs.Ytokjlmkegdickaa
open Go.RowKit Go.Lib

theorem own_cells {w : World} {B : Nat} {e : TypeId} {v : Value} {n : Nat} {xs : List Value} (h : w.ownsRow B e 1 v n xs) : CellRow w v n xs := by
  obtain ⟨hl, h⟩ := h
  rcases h with ⟨rfl, rfl⟩ | ⟨g, cap, cur, rfl, hB, hrow, hcap, hmax, hcs, htk⟩
  · exact ⟨none, 0, rfl, .inl (by simpa using hl)⟩
  · refine ⟨_, _, rfl, .inr ⟨g, 0, rfl, (Array.getElem?_eq_some_iff.1 hrow).1, fun j u hj => ?_⟩⟩
    rw [Nat.zero_add, cell_of_row w g j _ _ _ hrow]
    rw [← htk, List.getElem?_take] at hj
    split at hj
    · simpa using hj
    · cases hj


end Go.Proofs.Ytokjlmkegdickaa
