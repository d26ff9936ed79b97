/-
  A bundle of texts: VLT.
-/
import Derived.Laws.StructEq
import Derived.Shelf.SlicesE.Kit
import Derived.Test.YtdchjcidfaencaaGreatQ37
import Derived.Test.YtdchjcidfaencaaGreatQ22
import Derived.Test.YtdchjcidfaencaaGreatQ28
import Derived.Test.YtdchjcidfaencaaGreatQ35
namespace Go.Proofs.YtdchjcidfaencaaGreat
open Go.RowKit Go.Lib

/-- What came in: a policy in a variable, samples. -/
structure PV (S : ReachSpec) (B : Nat) (n : ByteArray) (sl : Value) (p : PolL) (w0 w : World) : Prop where
  k : PBlk w B n sl
  r0 : PolRow w0 (polVal n sl) p
  ok0 : S.Ok w0
  fr : Below w0.heap.size w0 w
  hB : w0.heap.size = B

section
variable {S : ReachSpec} {B : Nat} {n : ByteArray} {sl : Value} {p : PolL} {w0 w w' : World}
theorem PV.next (h : PV S B n sl p w0 w) (b : Below w.heap.size w w') : PV S B n sl p w0 w' := ⟨h.k.kept b, h.r0, h.ok0, h.fr.trans (b.mono h.fr.size), h.hB⟩
theorem PV.row (h : PV S B n sl p w0 w) : PolRow w (polVal n sl) p := h.r0.kept h.fr
theorem PV.ok (h : PV S B n sl p w0 w) : S.Ok w := S.kept h.ok0 h.fr
end

end Go.Proofs.YtdchjcidfaencaaGreat
