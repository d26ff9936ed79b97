/-
  A variable that holds a record.
-/
import Derived.Test.YtopilmancehbiaaNA
namespace Go.Proofs.Ytopilmancehbiaa
open Go.RowKit Go.Lib

/-- A variable that holds a record. -/
def NBlk (w : World) (b : Nat) (a : NRec) : Prop := w.heap[b]? = some (.cells #[.string a.n, .int .i64 a.t, .int .i64 a.c, .int .i64 a.hi, .int .u64 a.lo, .int .i64 a.mn, .int .i64 a.mx] 27 (0, 0))

theorem NBlk.kept {w w' : World} {b : Nat} {a : NRec} (h : NBlk w b a) (hb : Below w.heap.size w w') : NBlk w' b a := by
  unfold NBlk at h ⊢
  rw [hb.block b (Array.getElem?_eq_some_iff.1 h).1]
  exact h

theorem NBlk.alloc {w : World} {b : Nat} {a : NRec} (h : NBlk w b a) (o : Obj) : NBlk (w.alloc o) b a := row_alloc h

theorem NBlk.made (w : World) (a : NRec) (b : Nat) (hb : b = w.heap.size) : NBlk (w.alloc (.cells #[.string a.n, .int .i64 a.t, .int .i64 a.c, .int .i64 a.hi, .int .u64 a.lo, .int .i64 a.mn, .int .i64 a.mx] 27)) b a := by
  subst hb
  exact Go.heap_alloc_new _ _

def NAt (w : World) (b : Nat) (a : NRec) : Prop := w.cell? ⟨b, 0, none⟩ = some (.string a.n) ∧ w.cell? ⟨b, 1, none⟩ = some (.int .i64 a.t) ∧ w.cell? ⟨b, 2, none⟩ = some (.int .i64 a.c) ∧ w.cell? ⟨b, 3, none⟩ = some (.int .i64 a.hi) ∧ w.cell? ⟨b, 4, none⟩ = some (.int .u64 a.lo) ∧ w.cell? ⟨b, 5, none⟩ = some (.int .i64 a.mn) ∧ w.cell? ⟨b, 6, none⟩ = some (.int .i64 a.mx)

theorem NBlk.at {w : World} {b : Nat} {a : NRec} (h : NBlk w b a) : NAt w b a := by
  refine ⟨?_, ?_, ?_, ?_, ?_, ?_, ?_⟩ <;> (rw [cell_of_row w b _ _ _ _ h]; rfl)

end Go.Proofs.Ytopilmancehbiaa
