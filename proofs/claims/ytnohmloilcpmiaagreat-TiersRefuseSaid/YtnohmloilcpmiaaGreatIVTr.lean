/-
  What statement TiersView answers: true, for every input.
-/
import Derived.Deep.RegionHeld3
import Derived.Deep.QuietTactic
import Derived.BigQuiet
import Derived.Test.YtnohmloilcpmiaaGreatITKr
import Derived.Test.YtnohmloilcpmiaaGreatR25
import Derived.Test.YtnohmloilcpmiaaGreatR20
import Derived.Test.YtnohmloilcpmiaaGreatR13
import Derived.Test.YtnohmloilcpmiaaGreatR10
import Derived.Test.YtnohmloilcpmiaaGreatR05
import Derived.Test.YtnohmloilcpmiaaGreatR14
import Derived.Test.YtnohmloilcpmiaaGreatBKRr
import Derived.Test.YtnohmloilcpmiaaGreatR38
import Derived.Test.YtnohmloilcpmiaaGreatR36
import Derived.Test.YtnohmloilcpmiaaGreatR17
namespace Go.Proofs.YtnohmloilcpmiaaGreat
open Go.RowKit Go.Lib

theorem asam_info : (Tryz.prog.info? 23).map (fun i => (i.zero, i.size, i.bytes)) = some (some (.agg #[.string ⟨#[]⟩, .int .i64 0, .int .i64 0]), 3, 32) := by kernel_rfl

theorem iown_kept' {w w' : World} {D : Nat} {e : TypeId} {sz n : Nat} {v : Value} {xs : List Value} (h : w.ownsRow D e sz v n xs) (b : Below w.heap.size w w') : w'.ownsRow D e sz v n xs := (Step.of_below (F := fun _ => False) b).own h (fun _ _ c => c)
theorem IHere.grown {TS : TableSpec} {S : TiersSpec TS} {B p : Nat} {w0 w w' : World} {r : RchL} {T : List (List TRec)} {F : TFoot} {o : Option Nat} (h : IHere S B w0 w p r T F) (g : w.grownBy w' o) (ho : ∀ k, o = some k → B ≤ k ∧ ¬ F.all k) : IHere S B w0 w' p r T F :=
  ⟨S.kept h.rep g.size (fun k hk => g.block k (S.lt h.rep k hk) (fun c => (ho k c.symm).2 hk)), h.ge, Nat.le_trans h.hB g.size, h.fr.grown g h.hB (fun k hk => (ho k hk).1)⟩

end Go.Proofs.YtnohmloilcpmiaaGreat
