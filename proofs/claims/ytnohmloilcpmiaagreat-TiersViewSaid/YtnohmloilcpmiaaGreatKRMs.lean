/-
  Marked lists of records (package sedimentbook): markedRecords.
-/
import Derived.Deep.RegionHeld3
import Derived.Test.YtnohmloilcpmiaaGreatS18
import Derived.Test.YtnohmloilcpmiaaGreatS11
namespace Go.Proofs.YtnohmloilcpmiaaGreat
open Go.RowKit Go.Lib

theorem SameRecords_named (u v : Value) (ss : List RecL) (n : Nat) (hl : ss.length = n) (w : World) (hu : CellRow w u n (flat renc ss)) (hv : CellRow w v n (flat renc ss)) (hn : n ≤ 1000000) :
    Calls Tryz.prog 26 #[u, v] w fun e w' => e = .returned (.bool true) ∧ ∃ q, w' = w.drewN q := by
  subst hl
  exact SameRecords_quiet u v ss w hu hv hn

end Go.Proofs.YtnohmloilcpmiaaGreat
