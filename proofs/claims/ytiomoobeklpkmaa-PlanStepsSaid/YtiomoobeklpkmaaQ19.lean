/-
  A bundle of texts: RFL RRF.
-/
import Derived.Deep.CutBlock
import Derived.Deep.DeepCutAuto
import Derived.Deep.QuietTactic
import Derived.BigQuiet
import Derived.Test.YtiomoobeklpkmaaQ18
import Derived.Test.YtiomoobeklpkmaaQ06
import Derived.Test.YtiomoobeklpkmaaQ04
import Derived.Test.YtiomoobeklpkmaaQ08
namespace Go.Proofs.Ytiomoobeklpkmaa
open Go.RowKit Go.Lib

theorem floors_max {now : Int} {p : PolL} {fl : List Int} {i : Nat} (h : i < p.2.length) : rFromN (now, p, fl) i = max (rFromN (now, p, []) i) (fl.getD i 0) := by
  unfold rFromN
  obtain ⟨t, ht⟩ : ∃ t, p.2[i]? = some t := ⟨_, List.getElem?_eq_getElem h⟩
  have h0 := gBack_nonneg now t.2.2.1 (rEvery p.2 i)
  simp only [ht, List.getD_eq_getElem?_getD, List.getElem?_nil]
  cases hf : fl[i]? with
  | none =>
    simp only [Option.getD_none]
    omega
  | some f => rfl

section
variable {S : ReachSpec} {w0 w w' : World} {b4 b9 b10 : Nat} {n : ByteArray} {sl g s f s' f' : Value} {now : Int} {p : PolL} {fl : List Int}
end

end Go.Proofs.Ytiomoobeklpkmaa

namespace Go.Proofs.Ytiomoobeklpkmaa
open Go.RowKit Go.Lib

theorem in_tier {p : PolL} {j : Nat} {t : TierL} (h : PFit p) (ht : p.2[j]? = some t) : In64 t.2.1 ∧ In64 t.2.2.1 :=
  ⟨(h.2.2 t (List.mem_of_getElem? ht)).2.1, (h.2.2 t (List.mem_of_getElem? ht)).2.2.1⟩

end Go.Proofs.Ytiomoobeklpkmaa
