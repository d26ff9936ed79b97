/-
  Structs put together, and variables on the heap, their cells said.
-/
import Derived.Test.YtfgfgdchaoekfaaGreatDoorQ13
namespace Go.Proofs.YtfgfgdchaoekfaaGreatDoor
open Go.RowKit Go.Lib

section
variable {P : Program}

/-- A struct put together, its cells said. -/
theorem wpList_builtP {ops : Array Oper} {rest : List Oper} {o : Oper} {a : Act} {w : World} {Q : Exit → Act → World → Prop} (hg : o.guard = none) (t : TypeId) (ps : List (Nat × Operand)) (ho : o.op = .build t ps.toArray)
    (cs : Array Value) (hc : P.built t (ps.map fun x => (x.1, a.eval x.2)) = some cs)
    (h : wpList P ops Q rest (a.put o.dst (.agg cs)) w) : wpList P ops Q (o :: rest) a w := by
  have e : P.built t (ps.toArray.map fun (i, x) => (i, a.eval x)).toList = some cs := by
    rw [← hc]
    congr 1
    simp
  exact wpList_build hg t ps.toArray ho (by rw [e]; rfl) (by rw [e]; exact h)

/-- A variable on the heap, its cells said. -/
theorem wpList_boxedP {ops : Array Oper} {rest : List Oper} {o : Oper} {a : Act} {w : World} {Q : Exit → Act → World → Prop} (hg : o.guard = none) (t : TypeId) (x : Operand) (ho : o.op = .box t x)
    (cs : Array Value) (hx : (a.eval x).cells = cs)
    (h : wpList P ops Q rest (a.put o.dst (.pointer (some ⟨w.heap.size, 0, none⟩))) (w.alloc (.cells cs t))) : wpList P ops Q (o :: rest) a w :=
  wpList_plain hg fun K hK => by
    unfold Oper.wp execOp
    simp only [ho, Instr.box, newVar, newRow, run_newObj_alloc, Sem.run_bind, Sem.run_pure, Result.andThen_ok, hx]
    exact hK _ _ h
end

end Go.Proofs.YtfgfgdchaoekfaaGreatDoor
