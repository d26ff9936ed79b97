/-
  A row that is grown step by step (package sedimentbook's grow): what it was at first stays, and nothing else is touched.
-/
import Derived.Test.YtcjfejhfafiaiaaBKA
namespace Go.Proofs.Ytcjfejhfafiaiaa
open Go.RowKit Go.Lib

/-- From the world w0, in which the row u of n cells lay, to w, in which it has grown to v: m cells, ys. -/
structure GrewRow (D : Nat) (e : TypeId) (w0 w : World) (u : Value) (n : Nat) (v : Value) (m : Nat) (ys : List Value) : Prop where
  own : w.ownsRow D e 1 v m ys
  le : n ≤ m
  grown : w0.grownBy w u.ownBlock
  kept : ∀ g, u.ownBlock = some g → ∀ j, j < n → w.cell? ⟨g, j, none⟩ = w0.cell? ⟨g, j, none⟩
  where_ : v.ownBlock = u.ownBlock ∨ ∃ g, v.ownBlock = some g ∧ w0.heap.size ≤ g

theorem GrewRow.refl {D : Nat} {e : TypeId} {w : World} {u : Value} {n : Nat} {xs : List Value} (h : w.ownsRow D e 1 u n xs) : GrewRow D e w w u n u n xs :=
  ⟨h, Nat.le_refl _, ⟨rfl, rfl, rfl, Nat.le_refl _, fun _ _ _ => rfl⟩, fun _ _ _ _ => rfl, .inl rfl⟩

theorem GrewRow.below {D : Nat} {e : TypeId} {w0 w w' : World} {u v : Value} {n m : Nat} {xs ys : List Value} (h0 : w0.ownsRow D e 1 u n xs) (h : GrewRow D e w0 w u n v m ys) (b : Below w.heap.size w w') : GrewRow D e w0 w' u n v m ys := by
  have hs := h.grown.size
  refine ⟨h.own.kept (grown_of_below b) ?_, h.le, ⟨b.os.trans h.grown.os, b.tape.trans h.grown.tape, b.output.trans h.grown.output, Nat.le_trans hs b.size, fun k hk hne => ?_⟩, fun g hg j hj => ?_, h.where_⟩
  · cases v.ownBlock <;> simp
  · rw [b.block k (by omega)]
    exact h.grown.block k hk hne
  · rw [b.cell (Nat.lt_of_lt_of_le (h0.lt g hg).2 hs)]
    exact h.kept g hg j hj

theorem GrewRow.append {D : Nat} {e : TypeId} {w0 w w' : World} {u v v' : Value} {n m m' : Nat} {xs ys ys' : List Value} (h0 : w0.ownsRow D e 1 u n xs) (h : GrewRow D e w0 w u n v m ys)
    (ho : w'.ownsRow D e 1 v' m' ys') (hm : m ≤ m') (hg : w.grownBy w' v.ownBlock) (hk : ∀ g, v.ownBlock = some g → ∀ j, j < m * 1 → w'.cell? ⟨g, j, none⟩ = w.cell? ⟨g, j, none⟩)
    (hw : v'.ownBlock = v.ownBlock ∨ ∃ g, v'.ownBlock = some g ∧ w.heap.size ≤ g) : GrewRow D e w0 w' u n v' m' ys' := by
  have hs := h.grown.size
  have other : ∀ k, k < w0.heap.size → u.ownBlock ≠ some k → v.ownBlock ≠ some k := by
    intro k hk' hne he
    rcases h.where_ with e1 | ⟨g, e1, e2⟩
    · exact hne (e1 ▸ he)
    · rw [e1] at he
      simp at he
      omega
  refine ⟨ho, Nat.le_trans h.le hm, ⟨hg.os.trans h.grown.os, hg.tape.trans h.grown.tape, hg.output.trans h.grown.output, Nat.le_trans hs hg.size, fun k hk' hne => ?_⟩, fun g hgu j hj => ?_, ?_⟩
  · have h1 := other k hk' (fun h => hne h.symm)
    rw [hg.block k (by omega) (fun h => h1 h.symm)]
    exact h.grown.block k hk' hne
  · rw [← h.kept g hgu j hj]
    by_cases hv : v.ownBlock = some g
    · exact hk g hv j (by have := h.le; omega)
    · have hlt := (h0.lt g hgu).2
      unfold World.cell?
      rw [hg.block g (by omega) (fun h => hv h.symm)]
  · rcases hw with e1 | ⟨g, e1, e2⟩
    · rw [e1]
      exact h.where_
    · exact .inr ⟨g, e1, by omega⟩

end Go.Proofs.Ytcjfejhfafiaiaa
