/-
  A bundle of texts: BC.
-/
import Derived.Test.YtadepjpmpjipmaaGreatDoorQ02
import Derived.Test.YtadepjpmpjipmaaGreatDoorQ04
/-
  What strings.Clone answers: the text (a new block may lie behind it).
-/
namespace Go.Proofs.YtadepjpmpjipmaaGreatDoor
open Go.RowKit Go.Lib

theorem Clone_any (s : ByteArray) (w : World) (hs : s.size ≤ 281474976710656) :
    Calls Tryz.prog 28 #[.string s] w fun e w' => e = .returned (.string s) ∧ Below w.heap.size w w' := by
  go_enter Tryz.func28, Tryz.ntmps28
  go_wp2_with (go_at_call 72; refine (Tryz.stringslite_Clone s _ hs).mono ?_; rintro e w2 ⟨rfl, h2⟩)
  go_ret
  exact ⟨rfl, h2⟩

end Go.Proofs.YtadepjpmpjipmaaGreatDoor
