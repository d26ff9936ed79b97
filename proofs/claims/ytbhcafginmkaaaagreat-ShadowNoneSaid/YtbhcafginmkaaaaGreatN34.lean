/-
  A bundle of texts: POI RCV.
-/
import Derived.Deep.RegionHeld3
import Derived.Test.YtbhcafginmkaaaaGreatN21
import Derived.Test.YtbhcafginmkaaaaGreatN27
import Derived.Test.YtbhcafginmkaaaaGreatN11
import Derived.Test.YtbhcafginmkaaaaGreatN04
import Derived.Test.YtbhcafginmkaaaaGreatN19
namespace Go.Proofs.YtbhcafginmkaaaaGreat
open Go.ChangeShapes Go.WideShapes Go.ChangeAt Go.RowKit Go.Lib

theorem in64_of (n : Int) (h : (Lit.int .i64 n).wf = true) : In64 n := int_bounds h

end Go.Proofs.YtbhcafginmkaaaaGreat

namespace Go.Proofs.YtbhcafginmkaaaaGreat
open Go.RowKit Go.Lib

theorem rFrom_nat (r : RchL) (j : Nat) : rFrom r (j : Int) = rFromN r j := by
  unfold rFrom
  rw [if_neg (by omega)]
  rfl

section
variable {S : ReachSpec} {w0 w w' : World} {b4 b6 b9 : Nat} {n sn : ByteArray} {sl s f : Value} {t x now : Int} {r : RchL}
end

end Go.Proofs.YtbhcafginmkaaaaGreat
