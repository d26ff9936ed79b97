/-
  What strings.Clone answers: the text (a new block may lie behind it).
-/
import Derived.Test.YtfoffoiimlgoeaaBA
namespace Go.Proofs.Ytfoffoiimlgoeaa
open Go.RowKit Go.Lib

end Go.Proofs.Ytfoffoiimlgoeaa
