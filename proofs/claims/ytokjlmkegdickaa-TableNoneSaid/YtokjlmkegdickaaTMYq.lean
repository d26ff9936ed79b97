/-
  A record that came in by value.
-/
import Derived.Test.YtokjlmkegdickaaTMXq
import Derived.Test.YtokjlmkegdickaaQ32
import Derived.Test.YtokjlmkegdickaaQ25
namespace Go.Proofs.Ytokjlmkegdickaa
open Go.RowKit Go.Lib

/-- A record that came in. -/
def inRec (a : RecIn) : TRec := ⟨a.n, a.t, ⟨a.c, a.hi, a.lo, a.mn, a.mx⟩⟩
theorem inRec_fit {a : RecIn} (h : a.Ok) : TFit (inRec a) :=
  ⟨h.1, tin64_of _ h.2.1, tin64_of _ h.2.2.1, tin64_of _ h.2.2.2.1, u64_of _ h.2.2.2.2.1, tin64_of _ h.2.2.2.2.2.1, tin64_of _ h.2.2.2.2.2.2⟩

theorem tableNone_in (S : TableSpec) (a : RecIn) (n : Int) (w : World) (h : a.Ok) :
    Calls Try.prog 3 #[.agg a.cells.toArray, .int .i64 n] w fun e w' => e = .returned (.bool true) ∧ Below w.heap.size w w' := tableNone_main S (inRec a) n w (inRec_fit h)

end Go.Proofs.Ytokjlmkegdickaa
