/-
  One more list of ints in a Book (package sedimentbook): Book.Ints.
-/
import Derived.Test.YtcjfejhfafiaiaaBG
import Derived.Deep.RegionHeld3
namespace Go.Proofs.Ytcjfejhfafiaiaa
open Go.RowKit Go.Lib

theorem one_cell (w : World) (x : Value) (t : TypeId) : Cells (w.alloc (.cells #[x] t)) w.heap.size 0 [x] := by
  intro j u hj
  match j, hj with
  | 0, hj =>
    simp at hj
    subst hj
    rw [World.cell?_alloc_new]
    rfl
  | j + 1, hj => simp at hj

theorem own_one {w : World} {B : Nat} {e : TypeId} {s : Nat} {v : Value} {n : Nat} {xs : List Value} (h : w.ownsRow B e s v n xs) : ∃ a c, v = .slice a n c ∧ v.oneCell' = true := by
  rcases h.2 with ⟨rfl, rfl⟩ | ⟨g, cap, cur, rfl, _⟩
  · exact ⟨_, _, rfl, rfl⟩
  · exact ⟨_, _, rfl, rfl⟩

theorem block_kept {w w' : World} {p D : Nat} {row : Option Nat} {o : Obj} (h : w.heap[p]? = some o) (hp : p < D) (hg : w.grownBy w' row) (hr : ∀ g, row = some g → D ≤ g) : w'.heap[p]? = some o := by
  rw [hg.block p (Array.getElem?_eq_some_iff.1 h).1 ?_]
  · exact h
  · intro he
    have := hr p he.symm
    omega

theorem grown_alloc {w w' : World} {row : Option Nat} {o : Obj} (h : (w.alloc o).grownBy w' row) : w.grownBy w' row := by
  have h1 : w.grownBy (w.alloc o) row := World.grownBy_alloc w o row
  exact grownBy_trans h1 h


end Go.Proofs.Ytcjfejhfafiaiaa
