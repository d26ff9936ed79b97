/-
  What strings.Clone answers: the text (a new block may lie behind it).
-/
import Derived.Test.YtcjfejhfafiaiaaBA
import Derived.Test.YtcjfejhfafiaiaaShelf
namespace Go.Proofs.Ytcjfejhfafiaiaa
open Go.RowKit Go.Lib

theorem Clone_any (s : ByteArray) (w : World) (hs : s.size ≤ 281474976710656) :
    Calls Try.prog 22 #[.string s] w fun e w' => e = .returned (.string s) ∧ Below w.heap.size w w' := by
  go_enter Try.func22, Try.ntmps22
  go_wp2_with (go_at_call 61; refine (Try.stringslite_Clone s _ hs).mono ?_; rintro e w2 ⟨rfl, h2⟩)
  go_ret
  exact ⟨rfl, h2⟩

end Go.Proofs.Ytcjfejhfafiaiaa
