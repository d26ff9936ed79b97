/-
  A bundle of texts: TBP.
-/
import Derived.Test.YtfgfgdchaoekfaaGreatDoorQ07
import Derived.Test.YtfgfgdchaoekfaaGreatDoorQ16
import Derived.Test.YtfgfgdchaoekfaaGreatDoorQ04
import Derived.Test.YtfgfgdchaoekfaaGreatDoorQ09
namespace Go.Proofs.YtfgfgdchaoekfaaGreatDoor
open Go.RowKit Go.Lib

/-- A record's cells. -/
def rl (x : TRec) : RecL := (x.n, x.s, x.a.c, x.a.hi, x.a.lo, x.a.mn, x.a.mx)

/-- An int of 64 bits. -/
def TIn64 (v : Int) : Prop := -9223372036854775808 ≤ v ∧ v ≤ 9223372036854775807

/-- Such as memory can hold. -/
def TFit (r : TRec) : Prop := r.n.size ≤ maxLen ∧ TIn64 r.s ∧ AgIn r.a

section

end

end Go.Proofs.YtfgfgdchaoekfaaGreatDoor
