/-
  No cell of these rows narrows 'for every input' (looked for: loops, veiled, ifaces, maps, wideKeys, modest, calm, conditions, laid).
  DERIVED. THE GIVEN ROWS OF THIS SEAT. 7 by the template 'for every input the law returns true; each argument reads behind the call as it read before'; 0 by the template 'total and deterministic' (their statements: YtfoffoiimlgoeaaTotals.lean).
  GIVEN WITH THE SEED: the statements are not yours to turn. If you find one false, say at which input.
  Laid BY PROGRAM, IN A SANDBOX (cutbox-rows.mjs): the forced cells as the released guide's own fill.sh prints them over the translation 848e1686642024a7… (all of the seat's roots in one cut). By AI agents, Wed Nov 11 2026. No macro, syntax, notation, axiom, sorry.
-/
import Derived.Test.YtfoffoiimlgoeaaChecked
import GoSem.Claim
import GoSem.ClaimJoined
import GoSem.ClaimMapViews
import Derived.JoinedTies
import Derived.KernelRfl
namespace Go.Proofs.Ytfoffoiimlgoeaa
/- THE CELL 'sum', in the pinned program and in every row, IS THE sha256 OF THE DUMP (.gsa) THAT YtfoffoiimlgoeaaProg.lean LOADS. Nothing in Lean hashes anything: it is a label: what it is worth is what the hold of that sum in a sandbox is worth. -/
noncomputable def Try.pinned : Pinned := { name := "ytfoffoiimlgoeaa", sum := "848e1686642024a786fed7a5e44273cb4ff83b97b0bde57803ed4e7260c592e8", checked := Try.checked }
namespace Rows
def none {H : Type} : Left H := { results := [], args := [] }

/-- 'sedimentlaw3.AggTells': WHATEVER THE INPUT: true; the input reads as it did. -/
def aggTellsSpec : ChangeSpec := { name := "aggTells", fn := fun _ => fun
  | [d1, d2, d3] => { results := [.lit (.bool true)], args := [d1, d2, d3] }
  | _ => none }
def aggTellsRow : OpenClaim := { program := "ytfoffoiimlgoeaa", sum := "848e1686642024a786fed7a5e44273cb4ff83b97b0bde57803ed4e7260c592e8", func := "sediment/sedimentlaw3.AggTells", spec := "aggTells", inPlace := ["math/bits.Add64"], apart := false }
def AggTellsSaid : Prop := aggTellsRow.holds Try.pinned (OpenSpec.ofChange aggTellsSpec)

/-- ITS FALSE NEIGHBOUR: 'it returns false'. Refute it at one input. -/
def aggTellsWrong : ChangeSpec := { name := "aggTells", fn := fun _ => fun
  | [d1, d2, d3] => { results := [.lit (.bool false)], args := [d1, d2, d3] }
  | _ => none }
def AggTellsWrongFalsely : Prop := aggTellsRow.holds Try.pinned (OpenSpec.ofChange aggTellsWrong)

/-- 'sedimentlaw3.AggMerges': WHATEVER THE INPUT: true; the input reads as it did. -/
def aggMergesSpec : ChangeSpec := { name := "aggMerges", fn := fun _ => fun
  | [d1, d2, d3, d4, d5] => { results := [.lit (.bool true)], args := [d1, d2, d3, d4, d5] }
  | _ => none }
def aggMergesRow : OpenClaim := { program := "ytfoffoiimlgoeaa", sum := "848e1686642024a786fed7a5e44273cb4ff83b97b0bde57803ed4e7260c592e8", func := "sediment/sedimentlaw3.AggMerges", spec := "aggMerges", inPlace := ["math/bits.Add64"], apart := false }
def AggMergesSaid : Prop := aggMergesRow.holds Try.pinned (OpenSpec.ofChange aggMergesSpec)

/-- ITS FALSE NEIGHBOUR: 'it returns false'. Refute it at one input. -/
def aggMergesWrong : ChangeSpec := { name := "aggMerges", fn := fun _ => fun
  | [d1, d2, d3, d4, d5] => { results := [.lit (.bool false)], args := [d1, d2, d3, d4, d5] }
  | _ => none }
def AggMergesWrongFalsely : Prop := aggMergesRow.holds Try.pinned (OpenSpec.ofChange aggMergesWrong)

/-- 'sedimentlaw3.AggSums': WHATEVER THE INPUT: true; the input reads as it did. -/
def aggSumsSpec : ChangeSpec := { name := "aggSums", fn := fun _ => fun
  | [d] => { results := [.lit (.bool true)], args := [d] }
  | _ => none }
def aggSumsRow : OpenClaim := { program := "ytfoffoiimlgoeaa", sum := "848e1686642024a786fed7a5e44273cb4ff83b97b0bde57803ed4e7260c592e8", func := "sediment/sedimentlaw3.AggSums", spec := "aggSums", inPlace := ["math/bits.Add64"], apart := false }
def AggSumsSaid : Prop := aggSumsRow.holds Try.pinned (OpenSpec.ofChange aggSumsSpec)

/-- ITS FALSE NEIGHBOUR: 'it returns false'. Refute it at one input. -/
def aggSumsWrong : ChangeSpec := { name := "aggSums", fn := fun _ => fun
  | [d] => { results := [.lit (.bool false)], args := [d] }
  | _ => none }
def AggSumsWrongFalsely : Prop := aggSumsRow.holds Try.pinned (OpenSpec.ofChange aggSumsWrong)

/-- 'sedimentlaw3.AggBack': WHATEVER THE INPUT: true; the input reads as it did. -/
def aggBackSpec : ChangeSpec := { name := "aggBack", fn := fun _ => fun
  | [d1, d2] => { results := [.lit (.bool true)], args := [d1, d2] }
  | _ => none }
def aggBackRow : OpenClaim := { program := "ytfoffoiimlgoeaa", sum := "848e1686642024a786fed7a5e44273cb4ff83b97b0bde57803ed4e7260c592e8", func := "sediment/sedimentlaw3.AggBack", spec := "aggBack", inPlace := ["math/bits.Add64"], apart := false }
def AggBackSaid : Prop := aggBackRow.holds Try.pinned (OpenSpec.ofChange aggBackSpec)

/-- ITS FALSE NEIGHBOUR: 'it returns false'. Refute it at one input. -/
def aggBackWrong : ChangeSpec := { name := "aggBack", fn := fun _ => fun
  | [d1, d2] => { results := [.lit (.bool false)], args := [d1, d2] }
  | _ => none }
def AggBackWrongFalsely : Prop := aggBackRow.holds Try.pinned (OpenSpec.ofChange aggBackWrong)

/-- 'sedimentlaw3.AggPlus': WHATEVER THE INPUT: true; the input reads as it did. -/
def aggPlusSpec : ChangeSpec := { name := "aggPlus", fn := fun _ => fun
  | [d1, d2] => { results := [.lit (.bool true)], args := [d1, d2] }
  | _ => none }
def aggPlusRow : OpenClaim := { program := "ytfoffoiimlgoeaa", sum := "848e1686642024a786fed7a5e44273cb4ff83b97b0bde57803ed4e7260c592e8", func := "sediment/sedimentlaw3.AggPlus", spec := "aggPlus", inPlace := ["math/bits.Add64"], apart := false }
def AggPlusSaid : Prop := aggPlusRow.holds Try.pinned (OpenSpec.ofChange aggPlusSpec)

/-- ITS FALSE NEIGHBOUR: 'it returns false'. Refute it at one input. -/
def aggPlusWrong : ChangeSpec := { name := "aggPlus", fn := fun _ => fun
  | [d1, d2] => { results := [.lit (.bool false)], args := [d1, d2] }
  | _ => none }
def AggPlusWrongFalsely : Prop := aggPlusRow.holds Try.pinned (OpenSpec.ofChange aggPlusWrong)

/-- 'sedimentlaw3.AggEnds': WHATEVER THE INPUT: true; the input reads as it did. -/
def aggEndsSpec : ChangeSpec := { name := "aggEnds", fn := fun _ => fun
  | [d] => { results := [.lit (.bool true)], args := [d] }
  | _ => none }
def aggEndsRow : OpenClaim := { program := "ytfoffoiimlgoeaa", sum := "848e1686642024a786fed7a5e44273cb4ff83b97b0bde57803ed4e7260c592e8", func := "sediment/sedimentlaw3.AggEnds", spec := "aggEnds", inPlace := ["math/bits.Add64"], apart := false }
def AggEndsSaid : Prop := aggEndsRow.holds Try.pinned (OpenSpec.ofChange aggEndsSpec)

/-- ITS FALSE NEIGHBOUR: 'it returns false'. Refute it at one input. -/
def aggEndsWrong : ChangeSpec := { name := "aggEnds", fn := fun _ => fun
  | [d] => { results := [.lit (.bool false)], args := [d] }
  | _ => none }
def AggEndsWrongFalsely : Prop := aggEndsRow.holds Try.pinned (OpenSpec.ofChange aggEndsWrong)

/-- 'sedimentlaw3.AggMany': WHATEVER THE INPUT: true; the input reads as it did. -/
def aggManySpec : ChangeSpec := { name := "aggMany", fn := fun _ => fun
  | [d1, d2, d3] => { results := [.lit (.bool true)], args := [d1, d2, d3] }
  | _ => none }
def aggManyRow : OpenClaim := { program := "ytfoffoiimlgoeaa", sum := "848e1686642024a786fed7a5e44273cb4ff83b97b0bde57803ed4e7260c592e8", func := "sediment/sedimentlaw3.AggMany", spec := "aggMany", inPlace := ["math/bits.Add64"], apart := false }
def AggManySaid : Prop := aggManyRow.holds Try.pinned (OpenSpec.ofChange aggManySpec)

/-- ITS FALSE NEIGHBOUR: 'it returns false'. Refute it at one input. -/
def aggManyWrong : ChangeSpec := { name := "aggMany", fn := fun _ => fun
  | [d1, d2, d3] => { results := [.lit (.bool false)], args := [d1, d2, d3] }
  | _ => none }
def AggManyWrongFalsely : Prop := aggManyRow.holds Try.pinned (OpenSpec.ofChange aggManyWrong)

/- THE SECOND FORM. 'bulk': how many values and letters a reading holds, each counted each time it is reached (what is shared counts as often as it is met; a slice's spare places count too). A statement '..UptoSaid' is the law's where the arguments, and the package variables that the reading takes, are together of bulk at most 1048576: NARROWER than '..Said'. Prove '..Said' where nothing that the law and all that it calls make is longer than what came in: it says more and counts as full. Else prove '..UptoSaid'. A law counts once. -/
mutual
def uptoBulk {H : Type} : DataW H → Nat
  | .lit (.string bytes) => bytes.length + 1
  | .lit _ => 1
  | .nil => 1
  | .ptr d => uptoBulk d + 1
  | .slice elems spare => uptoBulkAll elems + uptoBulkAll spare + 1
  | .agg parts => uptoBulkAll parts + 1
  | .iface _ d => uptoBulk d + 1
  | .map entries => uptoBulkEntries entries + 1
  | .held _ => 1
def uptoBulkAll {H : Type} : List (DataW H) → Nat
  | [] => 0
  | d :: r => uptoBulk d + uptoBulkAll r
def uptoBulkEntries {H : Type} : List (Lit × DataW H) → Nat
  | [] => 0
  | x :: r => uptoBulkEntry x + uptoBulkEntries r
def uptoBulkEntry {H : Type} : Lit × DataW H → Nat
  | (.string bytes, d) => bytes.length + uptoBulk d + 1
  | (_, d) => uptoBulk d + 1
 end
def uptoSmall : (H : Type) → List (DataW H) → Bool := fun _ ds => decide (uptoBulkAll ds ≤ 1048576)
def OpenSpec.upto (s : _root_.Go.ChangeSpec) : _root_.Go.OpenSpec := { _root_.Go.OpenSpec.ofChange s with cond := some uptoSmall }

/-- 'sedimentlaw3.AggTells', WHERE WHAT IT READS IS OF BULK AT MOST 1048576: true; the input reads as it did. -/
def aggTellsUptoRow : OpenClaim := { program := "ytfoffoiimlgoeaa", sum := "848e1686642024a786fed7a5e44273cb4ff83b97b0bde57803ed4e7260c592e8", func := "sediment/sedimentlaw3.AggTells", spec := "aggTells", inPlace := ["math/bits.Add64"], apart := false, narrowed := true }
def AggTellsUptoSaid : Prop := aggTellsUptoRow.holds Try.pinned (OpenSpec.upto aggTellsSpec)

/-- 'sedimentlaw3.AggMerges', WHERE WHAT IT READS IS OF BULK AT MOST 1048576: true; the input reads as it did. -/
def aggMergesUptoRow : OpenClaim := { program := "ytfoffoiimlgoeaa", sum := "848e1686642024a786fed7a5e44273cb4ff83b97b0bde57803ed4e7260c592e8", func := "sediment/sedimentlaw3.AggMerges", spec := "aggMerges", inPlace := ["math/bits.Add64"], apart := false, narrowed := true }
def AggMergesUptoSaid : Prop := aggMergesUptoRow.holds Try.pinned (OpenSpec.upto aggMergesSpec)

/-- 'sedimentlaw3.AggSums', WHERE WHAT IT READS IS OF BULK AT MOST 1048576: true; the input reads as it did. -/
def aggSumsUptoRow : OpenClaim := { program := "ytfoffoiimlgoeaa", sum := "848e1686642024a786fed7a5e44273cb4ff83b97b0bde57803ed4e7260c592e8", func := "sediment/sedimentlaw3.AggSums", spec := "aggSums", inPlace := ["math/bits.Add64"], apart := false, narrowed := true }
def AggSumsUptoSaid : Prop := aggSumsUptoRow.holds Try.pinned (OpenSpec.upto aggSumsSpec)

/-- 'sedimentlaw3.AggBack', WHERE WHAT IT READS IS OF BULK AT MOST 1048576: true; the input reads as it did. -/
def aggBackUptoRow : OpenClaim := { program := "ytfoffoiimlgoeaa", sum := "848e1686642024a786fed7a5e44273cb4ff83b97b0bde57803ed4e7260c592e8", func := "sediment/sedimentlaw3.AggBack", spec := "aggBack", inPlace := ["math/bits.Add64"], apart := false, narrowed := true }
def AggBackUptoSaid : Prop := aggBackUptoRow.holds Try.pinned (OpenSpec.upto aggBackSpec)

/-- 'sedimentlaw3.AggPlus', WHERE WHAT IT READS IS OF BULK AT MOST 1048576: true; the input reads as it did. -/
def aggPlusUptoRow : OpenClaim := { program := "ytfoffoiimlgoeaa", sum := "848e1686642024a786fed7a5e44273cb4ff83b97b0bde57803ed4e7260c592e8", func := "sediment/sedimentlaw3.AggPlus", spec := "aggPlus", inPlace := ["math/bits.Add64"], apart := false, narrowed := true }
def AggPlusUptoSaid : Prop := aggPlusUptoRow.holds Try.pinned (OpenSpec.upto aggPlusSpec)

/-- 'sedimentlaw3.AggEnds', WHERE WHAT IT READS IS OF BULK AT MOST 1048576: true; the input reads as it did. -/
def aggEndsUptoRow : OpenClaim := { program := "ytfoffoiimlgoeaa", sum := "848e1686642024a786fed7a5e44273cb4ff83b97b0bde57803ed4e7260c592e8", func := "sediment/sedimentlaw3.AggEnds", spec := "aggEnds", inPlace := ["math/bits.Add64"], apart := false, narrowed := true }
def AggEndsUptoSaid : Prop := aggEndsUptoRow.holds Try.pinned (OpenSpec.upto aggEndsSpec)

/-- 'sedimentlaw3.AggMany', WHERE WHAT IT READS IS OF BULK AT MOST 1048576: true; the input reads as it did. -/
def aggManyUptoRow : OpenClaim := { program := "ytfoffoiimlgoeaa", sum := "848e1686642024a786fed7a5e44273cb4ff83b97b0bde57803ed4e7260c592e8", func := "sediment/sedimentlaw3.AggMany", spec := "aggMany", inPlace := ["math/bits.Add64"], apart := false, narrowed := true }
def AggManyUptoSaid : Prop := aggManyUptoRow.holds Try.pinned (OpenSpec.upto aggManySpec)

end Rows
end Go.Proofs.Ytfoffoiimlgoeaa
