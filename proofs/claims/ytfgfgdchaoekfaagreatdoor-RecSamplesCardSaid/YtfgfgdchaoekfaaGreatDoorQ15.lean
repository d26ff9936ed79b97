/-
  A bundle of texts: AGN.
-/
import Derived.Deep.QuietTactic
import Derived.BigQuiet
import Derived.Test.YtfgfgdchaoekfaaGreatDoorQ11
namespace Go.Proofs.YtfgfgdchaoekfaaGreatDoor
open Go.RowKit Go.Lib

theorem i64_wrap (x : Int) : wrap64 x = w64 x := by
  unfold wrap64 w64
  omega

end Go.Proofs.YtfgfgdchaoekfaaGreatDoor
