/-
 A bundle of texts: IHW.
-/
import Derived.Test.YtiomoobeklpkmaaGreatV42
import Derived.Test.YtiomoobeklpkmaaGreatV43
namespace Go.Proofs.YtiomoobeklpkmaaGreat
open Go.RowKit Go.Lib

/-- The blocks of tiers are below a new one. -/
theorem IHere.new_off {TS : TableSpec} {S : TiersSpec TS} {B p : Nat} {w0 w w' : World} {r : RchL} {T : List (List TRec)} {F : TFoot} {y : Nat} (h : IHere S B w0 w p r T F) (g : w.grownBy w' (some y)) (hy : B ≤ y) (hF : ∀ k, F.all k → k < y) : IHere S B w0 w' p r T F :=
 h.grown g (fun k hk => by cases hk; exact ⟨hy, fun c => Nat.lt_irrefl _ (hF y c)⟩)

end Go.Proofs.YtiomoobeklpkmaaGreat
