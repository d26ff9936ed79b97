/-
  ViewLater: as time goes on, records go, and those that stay are as they were.
-/
import Derived.Test.YtdhkmcmipkfkjaaR32
import Derived.Test.YtdhkmcmipkfkjaaVCKr
import Derived.Test.YtdhkmcmipkfkjaaVEQr
import Derived.Test.YtdhkmcmipkfkjaaR31
namespace Go.Proofs.Ytdhkmcmipkfkjaa
open Go.RowKit Go.Lib

/-- What came in: a policy in a variable, samples. -/
structure PV (S : ReachSpec) (B : Nat) (n : ByteArray) (sl : Value) (p : PolL) (w0 w : World) : Prop where
  k : PBlk w B n sl
  r0 : PolRow w0 (polVal n sl) p
  ok0 : S.Ok w0
  fr : Below w0.heap.size w0 w
  hB : w0.heap.size = B

section
variable {S : ReachSpec} {B : Nat} {n : ByteArray} {sl : Value} {p : PolL} {w0 w w' : World}
theorem PV.next (h : PV S B n sl p w0 w) (b : Below w.heap.size w w') : PV S B n sl p w0 w' := ⟨h.k.kept b, h.r0, h.ok0, h.fr.trans (b.mono h.fr.size), h.hB⟩
theorem PV.row (h : PV S B n sl p w0 w) : PolRow w (polVal n sl) p := h.r0.kept h.fr
theorem PV.ok (h : PV S B n sl p w0 w) : S.Ok w := S.kept h.ok0 h.fr
end

theorem vok_of {p : PolL} (h : (pCheck p).1 = 0) (now : Int) (fl : List Int) : VOk (now, p, fl) := fun t ht => by
  obtain ⟨i, hi⟩ := List.getElem?_of_mem ht
  exact (tier_known h hi).1

end Go.Proofs.Ytdhkmcmipkfkjaa
