/-
  A bundle of texts: BKM.
-/
import Derived.Deep.RegionHeld3
import Derived.Test.YtnohmloilcpmiaaGreatQ10
namespace Go.Proofs.YtnohmloilcpmiaaGreat
open Go.RowKit Go.Lib

end Go.Proofs.YtnohmloilcpmiaaGreat
