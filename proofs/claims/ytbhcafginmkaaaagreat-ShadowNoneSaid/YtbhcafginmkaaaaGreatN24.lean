/-
  A bundle of texts: BC.
-/
import Derived.Test.YtbhcafginmkaaaaGreatN04
import Derived.Test.YtbhcafginmkaaaaGreatN10
namespace Go.Proofs.YtbhcafginmkaaaaGreat
open Go.RowKit Go.Lib

theorem Clone_any (s : ByteArray) (w : World) (hs : s.size ≤ 281474976710656) :
    Calls Tryz.prog 206 #[.string s] w fun e w' => e = .returned (.string s) ∧ Below w.heap.size w w' := by
  go_enter Tryz.func206, Tryz.ntmps206
  go_wp2_with (go_at_call 260; refine (Tryz.stringslite_Clone s _ hs).mono ?_; rintro e w2 ⟨rfl, h2⟩)
  go_ret
  exact ⟨rfl, h2⟩

end Go.Proofs.YtbhcafginmkaaaaGreat
