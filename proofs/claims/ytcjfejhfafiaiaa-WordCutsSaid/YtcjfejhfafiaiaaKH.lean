/-
  A Book (package sedimentbook) in a world: where it lies, rows of one's own, what is below.
-/
import Derived.Test.YtcjfejhfafiaiaaBG
import Derived.Test.YtcjfejhfafiaiaaBKN
namespace Go.Proofs.Ytcjfejhfafiaiaa
open Go.RowKit Go.Lib

/-- The Book lies at p, rows of one's own above D, all that is below p as it was. -/
structure Here (p D : Nat) (cs : Array Value) (T : TypeId) (w0 w : World) (rs qs : List Row1) : Prop where
  hp : p < D
  hD : D ≤ w.heap.size
  blk : w.heap[p]? = some (.cells cs T (0, 0))
  fr : Below p w0 w
  bag : Bag D w rs qs

theorem Here.next {p D : Nat} {cs : Array Value} {T : TypeId} {w0 w w' : World} {rs qs : List Row1} (h : Here p D cs T w0 w rs qs) (b : Below w.heap.size w w') : Here p D cs T w0 w' rs qs := by
  have h1 := h.hp
  have h2 := h.hD
  exact ⟨h1, Nat.le_trans h2 b.size, block_kept h.blk h1 (grown_of_below b) (fun g hg => by cases hg), h.fr.trans (b.mono (by omega)), h.bag.below b⟩

theorem Here.drewN {p D : Nat} {cs : Array Value} {T : TypeId} {w0 w : World} {rs qs : List Row1} (h : Here p D cs T w0 w rs qs) (q : Nat) : Here p D cs T w0 (w.drewN q) rs qs := h.next (below_drewN (Below.refl _ _) q)

theorem Here.cell {p D : Nat} {cs : Array Value} {T : TypeId} {w0 w : World} {rs qs : List Row1} (h : Here p D cs T w0 w rs qs) (i : Nat) (v : Value) (hv : cs[i]? = some v) : w.cell? ⟨p, i, none⟩ = some v := by
  rw [cell_of_row w p i _ _ _ h.blk]
  exact hv

theorem Here.more {p D : Nat} {cs : Array Value} {T : TypeId} {w0 w w' : World} {rs qs : List Row1} {e : TypeId} {s : Nat} {v : Value} {n : Nat} {xs : List Value} (h : Here p D cs T w0 w rs qs) (b : Below w.heap.size w w') (o : w'.ownsRow w.heap.size e s v n xs) : Here p D cs T w0 w' (⟨e, s, v, n, xs⟩ :: rs) qs := by
  have k := h.next b
  exact ⟨k.hp, k.hD, k.blk, k.fr, h.bag.new b o h.hD⟩

theorem Here.perm {p D : Nat} {cs : Array Value} {T : TypeId} {w0 w : World} {rs rs' qs : List Row1} (h : Here p D cs T w0 w rs qs) (k : rs.Perm rs') : Here p D cs T w0 w rs' qs := ⟨h.hp, h.hD, h.blk, h.fr, h.bag.perm k⟩

theorem Here.sublist {p D : Nat} {cs : Array Value} {T : TypeId} {w0 w : World} {rs rs' qs : List Row1} (h : Here p D cs T w0 w rs qs) (k : rs'.Sublist rs) : Here p D cs T w0 w rs' qs := ⟨h.hp, h.hD, h.blk, h.fr, h.bag.sublist k⟩

theorem Here.at {p D : Nat} {cs : Array Value} {T : TypeId} {w0 w : World} {rs qs : List Row1} (h : Here p D cs T w0 w rs qs) (r : Row1) (hr : r ∈ rs) : CellRow w r.v r.n r.xs := own_row (h.bag.own r hr)

end Go.Proofs.Ytcjfejhfafiaiaa
