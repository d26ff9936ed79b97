/-
  What functions Sum and Mean of package agg, and the document's own Value and Mean, answer.
-/
import Derived.Deep.QuietTactic
import Derived.BigQuiet
import Derived.Test.YtokjlmkegdickaaQ14
namespace Go.Proofs.Ytokjlmkegdickaa
open Go.RowKit Go.Lib

theorem quiet_here {P : Program} {f : FuncId} {args : Array Value} {w : World} {n : Nat} {v : Value}
    (h : Calls P f args (w.drewN n) fun e w' => e = .returned v ∧ w.drewN n = w') : Calls P f args (w.drewN n) fun e w'' => e = .returned v ∧ ∃ m, w'' = w.drewN m :=
  h.mono fun _ _ ⟨he, hm⟩ => ⟨he, n, hm.symm⟩

def agFits (a : Ag) : Bool := decide (a.hi = agSign (w64 a.lo))

/-- The sum, or the end that it passes. -/
def agVal (a : Ag) : Int := if agFits a = true then w64 a.lo else if a.hi < 0 then -9223372036854775808 else 9223372036854775807

/-- What Sum answers. -/
def SumEnd (a : Ag) (w : World) (e : Ending) (w' : World) : Prop := e = .returned (.tuple #[.int .i64 (agVal a), .bool (!agFits a)]) ∧ Below w.heap.size w w'

theorem i64_wrap (x : Int) : wrap64 x = w64 x := by
  unfold wrap64 w64
  omega

/-- The mean. -/
def agMean (a : Ag) : Int := if agOk a = true then (if agFits a = true then w64 ((agVal a).tdiv a.c) else agVal a) else 0

end Go.Proofs.Ytokjlmkegdickaa
