/-
  A bundle of texts: POC.
-/
import Derived.Deep.CutBlock
import Derived.Deep.DeepCutAuto
import Derived.Deep.QuietTactic
import Derived.BigQuiet
import Derived.Test.YtdchjcidfaencaaGreatQ21
namespace Go.Proofs.YtdchjcidfaencaaGreat
open Go.RowKit Go.Lib

/-- A variable that holds a tier. -/
def TBlk (w : World) (b : Nat) (x : TierL) : Prop := w.heap[b]? = some (.cells #[.string x.1, .int .i64 x.2.1, .int .i64 x.2.2.1, .int .i64 x.2.2.2] 31 (0, 0))

theorem TBlk.made (w : World) (x : TierL) : TBlk (w.alloc (.cells #[.string x.1, .int .i64 x.2.1, .int .i64 x.2.2.1, .int .i64 x.2.2.2] 31)) w.heap.size x := Go.heap_alloc_new _ _

theorem TBlk.kept {w w' : World} {b : Nat} {x : TierL} (h : TBlk w b x) (c : Below w.heap.size w w') : TBlk w' b x := by
  unfold TBlk at h ⊢
  rw [c.block b (Array.getElem?_eq_some_iff.1 h).1]
  exact h

theorem TBlk.at {w : World} {b : Nat} {x : TierL} (h : TBlk w b x) : w.cell? ⟨b, 0, none⟩ = some (.string x.1) ∧ w.cell? ⟨b, 1, none⟩ = some (.int .i64 x.2.1) ∧ w.cell? ⟨b, 2, none⟩ = some (.int .i64 x.2.2.1) ∧ w.cell? ⟨b, 3, none⟩ = some (.int .i64 x.2.2.2) := by
  refine ⟨?_, ?_, ?_, ?_⟩ <;> (rw [cell_of_row w b _ _ _ _ h]; rfl)

end Go.Proofs.YtdchjcidfaencaaGreat
