/-
  What statement TiersTicks answers: true, for every input.
-/
import Derived.Test.YtnohmloilcpmiaaGreatR25
import Derived.Test.YtnohmloilcpmiaaGreatR38
namespace Go.Proofs.YtnohmloilcpmiaaGreat
open Go.RowKit Go.Lib

theorem ISame.symm {r r' : RchL} {T T' : List (List TRec)} (h : ISame r r' T T') : ISame r' r T' T := ⟨h.1.symm, h.2.1.symm, h.2.2.1.symm, h.2.2.2.symm⟩

end Go.Proofs.YtnohmloilcpmiaaGreat
