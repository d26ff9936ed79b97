/-
  A bundle of texts: BC.
-/
import Derived.Test.YtfbgjoildibikaaQ03
import Derived.Test.YtfbgjoildibikaaQ02
/-
  What strings.Clone answers: the text (a new block may lie behind it).
-/
namespace Go.Proofs.Ytfbgjoildibikaa
open Go.RowKit Go.Lib

theorem Clone_any (s : ByteArray) (w : World) (hs : s.size ≤ 281474976710656) :
    Calls Try.prog 78 #[.string s] w fun e w' => e = .returned (.string s) ∧ Below w.heap.size w w' := by
  go_enter Try.func78, Try.ntmps78
  go_wp2_with (go_at_call 96; refine (Try.stringslite_Clone s _ hs).mono ?_; rintro e w2 ⟨rfl, h2⟩)
  go_ret
  exact ⟨rfl, h2⟩

end Go.Proofs.Ytfbgjoildibikaa
