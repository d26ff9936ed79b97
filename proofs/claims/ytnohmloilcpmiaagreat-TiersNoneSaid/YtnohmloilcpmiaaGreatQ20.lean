/-
  A bundle of texts: GX.
-/
import Derived.Test.YtnohmloilcpmiaaGreatQ15
import Derived.Test.YtnohmloilcpmiaaGreatQ16
namespace Go.Proofs.YtnohmloilcpmiaaGreat
open Go.RowKit Go.Lib

end Go.Proofs.YtnohmloilcpmiaaGreat
