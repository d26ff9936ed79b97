/-
  No cell of these rows narrows 'for every input' (looked for: loops, veiled, ifaces, maps, wideKeys, modest, calm, conditions, laid).
  DERIVED. THE GIVEN ROWS OF THIS SEAT. 6 by the template 'for every input the law returns true; each argument reads behind the call as it read before'; 0 by the template 'total and deterministic' (their statements: YtfbgjoildibikaaTotals.lean).
  GIVEN WITH THE SEED: the statements are not yours to turn. If you find one false, say at which input.
  Laid BY PROGRAM, IN A SANDBOX (cutbox-rows.mjs): the forced cells as the released guide's own fill.sh prints them over the translation 513e9cda345dc9d9… (all of the seat's roots in one cut). By AI agents, Wed Nov 11 2026. No macro, syntax, notation, axiom, sorry.
-/
import Derived.Test.YtfbgjoildibikaaChecked
import GoSem.Claim
import GoSem.ClaimJoined
import GoSem.ClaimMapViews
import Derived.JoinedTies
import Derived.KernelRfl
namespace Go.Proofs.Ytfbgjoildibikaa
/- THE CELL 'sum', in the pinned program and in every row, IS THE sha256 OF THE DUMP (.gsa) THAT YtfbgjoildibikaaProg.lean LOADS. Nothing in Lean hashes anything: it is a label: what it is worth is what the hold of that sum in a sandbox is worth. -/
noncomputable def Try.pinned : Pinned := { name := "ytfbgjoildibikaa", sum := "513e9cda345dc9d9d96baff231c95a0244e933a50f6a6737769beafdf799aa93", checked := Try.checked }
namespace Rows
def none {H : Type} : Left H := { results := [], args := [] }

/-- 'sedimentlaw9.ReachTells': WHATEVER THE INPUT: true; the input reads as it did. -/
def reachTellsSpec : ChangeSpec := { name := "reachTells", fn := fun _ => fun
  | [d1, d2, d3, d4, d5, d6, d7] => { results := [.lit (.bool true)], args := [d1, d2, d3, d4, d5, d6, d7] }
  | _ => none }
def reachTellsRow : OpenClaim := { program := "ytfbgjoildibikaa", sum := "513e9cda345dc9d9d96baff231c95a0244e933a50f6a6737769beafdf799aa93", func := "sediment/sedimentlaw9.ReachTells", spec := "reachTells", apart := false }
def ReachTellsSaid : Prop := reachTellsRow.holds Try.pinned (OpenSpec.ofChange reachTellsSpec)

/-- ITS FALSE NEIGHBOUR: 'it returns false'. Refute it at one input. -/
def reachTellsWrong : ChangeSpec := { name := "reachTells", fn := fun _ => fun
  | [d1, d2, d3, d4, d5, d6, d7] => { results := [.lit (.bool false)], args := [d1, d2, d3, d4, d5, d6, d7] }
  | _ => none }
def ReachTellsWrongFalsely : Prop := reachTellsRow.holds Try.pinned (OpenSpec.ofChange reachTellsWrong)

/-- 'sedimentlaw9.ReachRises': WHATEVER THE INPUT: true; the input reads as it did. -/
def reachRisesSpec : ChangeSpec := { name := "reachRises", fn := fun _ => fun
  | [d1, d2, d3, d4, d5, d6] => { results := [.lit (.bool true)], args := [d1, d2, d3, d4, d5, d6] }
  | _ => none }
def reachRisesRow : OpenClaim := { program := "ytfbgjoildibikaa", sum := "513e9cda345dc9d9d96baff231c95a0244e933a50f6a6737769beafdf799aa93", func := "sediment/sedimentlaw9.ReachRises", spec := "reachRises", apart := false }
def ReachRisesSaid : Prop := reachRisesRow.holds Try.pinned (OpenSpec.ofChange reachRisesSpec)

/-- ITS FALSE NEIGHBOUR: 'it returns false'. Refute it at one input. -/
def reachRisesWrong : ChangeSpec := { name := "reachRises", fn := fun _ => fun
  | [d1, d2, d3, d4, d5, d6] => { results := [.lit (.bool false)], args := [d1, d2, d3, d4, d5, d6] }
  | _ => none }
def ReachRisesWrongFalsely : Prop := reachRisesRow.holds Try.pinned (OpenSpec.ofChange reachRisesWrong)

/-- 'sedimentlaw9.ReachCovers': WHATEVER THE INPUT: true; the input reads as it did. -/
def reachCoversSpec : ChangeSpec := { name := "reachCovers", fn := fun _ => fun
  | [d1, d2, d3, d4] => { results := [.lit (.bool true)], args := [d1, d2, d3, d4] }
  | _ => none }
def reachCoversRow : OpenClaim := { program := "ytfbgjoildibikaa", sum := "513e9cda345dc9d9d96baff231c95a0244e933a50f6a6737769beafdf799aa93", func := "sediment/sedimentlaw9.ReachCovers", spec := "reachCovers", apart := false }
def ReachCoversSaid : Prop := reachCoversRow.holds Try.pinned (OpenSpec.ofChange reachCoversSpec)

/-- ITS FALSE NEIGHBOUR: 'it returns false'. Refute it at one input. -/
def reachCoversWrong : ChangeSpec := { name := "reachCovers", fn := fun _ => fun
  | [d1, d2, d3, d4] => { results := [.lit (.bool false)], args := [d1, d2, d3, d4] }
  | _ => none }
def ReachCoversWrongFalsely : Prop := reachCoversRow.holds Try.pinned (OpenSpec.ofChange reachCoversWrong)

/-- 'sedimentlaw9.ReachLater': WHATEVER THE INPUT: true; the input reads as it did. -/
def reachLaterSpec : ChangeSpec := { name := "reachLater", fn := fun _ => fun
  | [d1, d2, d3, d4, d5] => { results := [.lit (.bool true)], args := [d1, d2, d3, d4, d5] }
  | _ => none }
def reachLaterRow : OpenClaim := { program := "ytfbgjoildibikaa", sum := "513e9cda345dc9d9d96baff231c95a0244e933a50f6a6737769beafdf799aa93", func := "sediment/sedimentlaw9.ReachLater", spec := "reachLater", apart := false }
def ReachLaterSaid : Prop := reachLaterRow.holds Try.pinned (OpenSpec.ofChange reachLaterSpec)

/-- ITS FALSE NEIGHBOUR: 'it returns false'. Refute it at one input. -/
def reachLaterWrong : ChangeSpec := { name := "reachLater", fn := fun _ => fun
  | [d1, d2, d3, d4, d5] => { results := [.lit (.bool false)], args := [d1, d2, d3, d4, d5] }
  | _ => none }
def ReachLaterWrongFalsely : Prop := reachLaterRow.holds Try.pinned (OpenSpec.ofChange reachLaterWrong)

/-- 'sedimentlaw9.ReachFloors': WHATEVER THE INPUT: true; the input reads as it did. -/
def reachFloorsSpec : ChangeSpec := { name := "reachFloors", fn := fun _ => fun
  | [d1, d2, d3, d4] => { results := [.lit (.bool true)], args := [d1, d2, d3, d4] }
  | _ => none }
def reachFloorsRow : OpenClaim := { program := "ytfbgjoildibikaa", sum := "513e9cda345dc9d9d96baff231c95a0244e933a50f6a6737769beafdf799aa93", func := "sediment/sedimentlaw9.ReachFloors", spec := "reachFloors", apart := false }
def ReachFloorsSaid : Prop := reachFloorsRow.holds Try.pinned (OpenSpec.ofChange reachFloorsSpec)

/-- ITS FALSE NEIGHBOUR: 'it returns false'. Refute it at one input. -/
def reachFloorsWrong : ChangeSpec := { name := "reachFloors", fn := fun _ => fun
  | [d1, d2, d3, d4] => { results := [.lit (.bool false)], args := [d1, d2, d3, d4] }
  | _ => none }
def ReachFloorsWrongFalsely : Prop := reachFloorsRow.holds Try.pinned (OpenSpec.ofChange reachFloorsWrong)

/-- 'sedimentlaw9.ReachTakes': WHATEVER THE INPUT: true; the input reads as it did. -/
def reachTakesSpec : ChangeSpec := { name := "reachTakes", fn := fun _ => fun
  | [d1, d2] => { results := [.lit (.bool true)], args := [d1, d2] }
  | _ => none }
def reachTakesRow : OpenClaim := { program := "ytfbgjoildibikaa", sum := "513e9cda345dc9d9d96baff231c95a0244e933a50f6a6737769beafdf799aa93", func := "sediment/sedimentlaw9.ReachTakes", spec := "reachTakes", apart := false }
def ReachTakesSaid : Prop := reachTakesRow.holds Try.pinned (OpenSpec.ofChange reachTakesSpec)

/-- ITS FALSE NEIGHBOUR: 'it returns false'. Refute it at one input. -/
def reachTakesWrong : ChangeSpec := { name := "reachTakes", fn := fun _ => fun
  | [d1, d2] => { results := [.lit (.bool false)], args := [d1, d2] }
  | _ => none }
def ReachTakesWrongFalsely : Prop := reachTakesRow.holds Try.pinned (OpenSpec.ofChange reachTakesWrong)

/- THE SECOND FORM. 'bulk': how many values and letters a reading holds, each counted each time it is reached (what is shared counts as often as it is met; a slice's spare places count too). A statement '..UptoSaid' is the law's where the arguments, and the package variables that the reading takes, are together of bulk at most 1048576: NARROWER than '..Said'. Prove '..Said' where nothing that the law and all that it calls make is longer than what came in: it says more and counts as full. Else prove '..UptoSaid'. A law counts once. -/
mutual
def uptoBulk {H : Type} : DataW H → Nat
  | .lit (.string bytes) => bytes.length + 1
  | .lit _ => 1
  | .nil => 1
  | .ptr d => uptoBulk d + 1
  | .slice elems spare => uptoBulkAll elems + uptoBulkAll spare + 1
  | .agg parts => uptoBulkAll parts + 1
  | .iface _ d => uptoBulk d + 1
  | .map entries => uptoBulkEntries entries + 1
  | .held _ => 1
def uptoBulkAll {H : Type} : List (DataW H) → Nat
  | [] => 0
  | d :: r => uptoBulk d + uptoBulkAll r
def uptoBulkEntries {H : Type} : List (Lit × DataW H) → Nat
  | [] => 0
  | x :: r => uptoBulkEntry x + uptoBulkEntries r
def uptoBulkEntry {H : Type} : Lit × DataW H → Nat
  | (.string bytes, d) => bytes.length + uptoBulk d + 1
  | (_, d) => uptoBulk d + 1
 end
def uptoSmall : (H : Type) → List (DataW H) → Bool := fun _ ds => decide (uptoBulkAll ds ≤ 1048576)
def OpenSpec.upto (s : _root_.Go.ChangeSpec) : _root_.Go.OpenSpec := { _root_.Go.OpenSpec.ofChange s with cond := some uptoSmall }

/-- 'sedimentlaw9.ReachTells', WHERE WHAT IT READS IS OF BULK AT MOST 1048576: true; the input reads as it did. -/
def reachTellsUptoRow : OpenClaim := { program := "ytfbgjoildibikaa", sum := "513e9cda345dc9d9d96baff231c95a0244e933a50f6a6737769beafdf799aa93", func := "sediment/sedimentlaw9.ReachTells", spec := "reachTells", apart := false, narrowed := true }
def ReachTellsUptoSaid : Prop := reachTellsUptoRow.holds Try.pinned (OpenSpec.upto reachTellsSpec)

/-- 'sedimentlaw9.ReachRises', WHERE WHAT IT READS IS OF BULK AT MOST 1048576: true; the input reads as it did. -/
def reachRisesUptoRow : OpenClaim := { program := "ytfbgjoildibikaa", sum := "513e9cda345dc9d9d96baff231c95a0244e933a50f6a6737769beafdf799aa93", func := "sediment/sedimentlaw9.ReachRises", spec := "reachRises", apart := false, narrowed := true }
def ReachRisesUptoSaid : Prop := reachRisesUptoRow.holds Try.pinned (OpenSpec.upto reachRisesSpec)

/-- 'sedimentlaw9.ReachCovers', WHERE WHAT IT READS IS OF BULK AT MOST 1048576: true; the input reads as it did. -/
def reachCoversUptoRow : OpenClaim := { program := "ytfbgjoildibikaa", sum := "513e9cda345dc9d9d96baff231c95a0244e933a50f6a6737769beafdf799aa93", func := "sediment/sedimentlaw9.ReachCovers", spec := "reachCovers", apart := false, narrowed := true }
def ReachCoversUptoSaid : Prop := reachCoversUptoRow.holds Try.pinned (OpenSpec.upto reachCoversSpec)

/-- 'sedimentlaw9.ReachLater', WHERE WHAT IT READS IS OF BULK AT MOST 1048576: true; the input reads as it did. -/
def reachLaterUptoRow : OpenClaim := { program := "ytfbgjoildibikaa", sum := "513e9cda345dc9d9d96baff231c95a0244e933a50f6a6737769beafdf799aa93", func := "sediment/sedimentlaw9.ReachLater", spec := "reachLater", apart := false, narrowed := true }
def ReachLaterUptoSaid : Prop := reachLaterUptoRow.holds Try.pinned (OpenSpec.upto reachLaterSpec)

/-- 'sedimentlaw9.ReachFloors', WHERE WHAT IT READS IS OF BULK AT MOST 1048576: true; the input reads as it did. -/
def reachFloorsUptoRow : OpenClaim := { program := "ytfbgjoildibikaa", sum := "513e9cda345dc9d9d96baff231c95a0244e933a50f6a6737769beafdf799aa93", func := "sediment/sedimentlaw9.ReachFloors", spec := "reachFloors", apart := false, narrowed := true }
def ReachFloorsUptoSaid : Prop := reachFloorsUptoRow.holds Try.pinned (OpenSpec.upto reachFloorsSpec)

/-- 'sedimentlaw9.ReachTakes', WHERE WHAT IT READS IS OF BULK AT MOST 1048576: true; the input reads as it did. -/
def reachTakesUptoRow : OpenClaim := { program := "ytfbgjoildibikaa", sum := "513e9cda345dc9d9d96baff231c95a0244e933a50f6a6737769beafdf799aa93", func := "sediment/sedimentlaw9.ReachTakes", spec := "reachTakes", apart := false, narrowed := true }
def ReachTakesUptoSaid : Prop := reachTakesUptoRow.holds Try.pinned (OpenSpec.upto reachTakesSpec)

end Rows
end Go.Proofs.Ytfbgjoildibikaa
