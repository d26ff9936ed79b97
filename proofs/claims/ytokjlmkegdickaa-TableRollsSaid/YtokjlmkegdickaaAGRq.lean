/-
  What the document's own functions of chapter 3 answer: One, Merge, Value, Mean.
-/
import Derived.Test.YtokjlmkegdickaaAGNq
namespace Go.Proofs.Ytokjlmkegdickaa
open Go.RowKit Go.Lib

end Go.Proofs.Ytokjlmkegdickaa
