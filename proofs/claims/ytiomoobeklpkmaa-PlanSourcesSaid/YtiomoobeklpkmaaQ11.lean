/-
  A bundle of texts: BC.
-/
import Derived.Test.YtiomoobeklpkmaaQ03
import Derived.Test.YtiomoobeklpkmaaQ02
namespace Go.Proofs.Ytiomoobeklpkmaa
open Go.RowKit Go.Lib

theorem Clone_any (s : ByteArray) (w : World) (hs : s.size ≤ 281474976710656) :
    Calls Try.prog 34 #[.string s] w fun e w' => e = .returned (.string s) ∧ Below w.heap.size w w' := by
  go_enter Try.func34, Try.ntmps34
  go_wp2_with (go_at_call 43; refine (Try.stringslite_Clone s _ hs).mono ?_; rintro e w2 ⟨rfl, h2⟩)
  go_ret
  exact ⟨rfl, h2⟩

end Go.Proofs.Ytiomoobeklpkmaa
