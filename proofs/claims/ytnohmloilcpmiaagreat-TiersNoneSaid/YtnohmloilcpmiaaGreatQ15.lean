/-
  A bundle of texts: GS.
-/
import Derived.Test.YtnohmloilcpmiaaGreatQ10
import Derived.Test.YtnohmloilcpmiaaGreatQ05
namespace Go.Proofs.YtnohmloilcpmiaaGreat
open Go.RowKit Go.Lib

end Go.Proofs.YtnohmloilcpmiaaGreat
