/-
  A bundle of texts: BC.
-/
import Derived.Test.YtnohmloilcpmiaaQ05
import Derived.Test.YtnohmloilcpmiaaQ04
namespace Go.Proofs.Ytnohmloilcpmiaa
open Go.RowKit Go.Lib

theorem Clone_any (s : ByteArray) (w : World) (hs : s.size ≤ 281474976710656) :
    Calls Try.prog 43 #[.string s] w fun e w' => e = .returned (.string s) ∧ Below w.heap.size w w' := by
  go_enter Try.func43, Try.ntmps43
  go_wp2_with (go_at_call 67; refine (Try.stringslite_Clone s _ hs).mono ?_; rintro e w2 ⟨rfl, h2⟩)
  go_ret
  exact ⟨rfl, h2⟩

end Go.Proofs.Ytnohmloilcpmiaa
