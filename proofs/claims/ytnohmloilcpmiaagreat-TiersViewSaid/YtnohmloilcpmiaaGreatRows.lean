/-
  No cell of these rows narrows 'for every input' (looked for: loops, veiled, ifaces, maps, wideKeys, modest, calm, conditions, laid).
  DERIVED. THE GIVEN ROWS OF THIS SEAT. 7 by the template 'for every input the law returns true; each argument reads behind the call as it read before'; 0 by the template 'total and deterministic' (their statements: YtnohmloilcpmiaaGreatTotals.lean).
  GIVEN WITH THE SEED: the statements are not yours to turn. If you find one false, say at which input.
  Laid BY PROGRAM, IN A SANDBOX (cutbox-rows.mjs): the forced cells as the released guide's own fill.sh prints them over the translation 196028cba3c87d62… (all of the seat's roots in one cut). By AI agents, Wed Nov 11 2026. No macro, syntax, notation, axiom, sorry.
-/
import Derived.Test.YtnohmloilcpmiaaGreatChecked
import GoSem.Claim
import GoSem.ClaimJoined
import GoSem.ClaimMapViews
import Derived.JoinedTies
import Derived.KernelRfl
namespace Go.Proofs.YtnohmloilcpmiaaGreat
/- THE CELL 'sum', in the pinned program and in every row, IS THE sha256 OF THE DUMP (.gsa) THAT YtnohmloilcpmiaaGreatProg.lean LOADS. Nothing in Lean hashes anything: it is a label: what it is worth is what the hold of that sum in a sandbox is worth. -/
noncomputable def Tryz.pinned : Pinned := { name := "ytnohmloilcpmiaagreat", sum := "196028cba3c87d6211aa3d55d29c0927650bc2f5a6199a3f5a5eb98f8aed1d88", checked := Tryz.checked }
namespace Rows
def none {H : Type} : Left H := { results := [], args := [] }

/-- 'sedimentlaw11.TiersNone': WHATEVER THE INPUT: true; the input reads as it did. -/
def tiersNoneSpec : ChangeSpec := { name := "tiersNone", fn := fun _ => fun
  | [d1, d2] => { results := [.lit (.bool true)], args := [d1, d2] }
  | _ => none }
def tiersNoneRow : OpenClaim := { program := "ytnohmloilcpmiaagreat", sum := "196028cba3c87d6211aa3d55d29c0927650bc2f5a6199a3f5a5eb98f8aed1d88", func := "sediment/sedimentlaw11.TiersNone", spec := "tiersNone", inPlace := ["math/bits.Add64", "slices.overlaps[sediment/table.bucket]", "maps.clone"], unfollowed := true, recurses := true, apart := false }
def TiersNoneSaid : Prop := tiersNoneRow.holds Tryz.pinned (OpenSpec.ofChange tiersNoneSpec)

/-- ITS FALSE NEIGHBOUR: 'it returns false'. Refute it at one input. -/
def tiersNoneWrong : ChangeSpec := { name := "tiersNone", fn := fun _ => fun
  | [d1, d2] => { results := [.lit (.bool false)], args := [d1, d2] }
  | _ => none }
def TiersNoneWrongFalsely : Prop := tiersNoneRow.holds Tryz.pinned (OpenSpec.ofChange tiersNoneWrong)

/-- 'sedimentlaw11.TiersTicks': WHATEVER THE INPUT: true; the input reads as it did. -/
def tiersTicksSpec : ChangeSpec := { name := "tiersTicks", fn := fun _ => fun
  | [d1, d2, d3, d4, d5] => { results := [.lit (.bool true)], args := [d1, d2, d3, d4, d5] }
  | _ => none }
def tiersTicksRow : OpenClaim := { program := "ytnohmloilcpmiaagreat", sum := "196028cba3c87d6211aa3d55d29c0927650bc2f5a6199a3f5a5eb98f8aed1d88", func := "sediment/sedimentlaw11.TiersTicks", spec := "tiersTicks", inPlace := ["math/bits.Add64", "slices.overlaps[sediment/table.bucket]", "maps.clone"], unfollowed := true, recurses := true, apart := false }
def TiersTicksSaid : Prop := tiersTicksRow.holds Tryz.pinned (OpenSpec.ofChange tiersTicksSpec)

/-- ITS FALSE NEIGHBOUR: 'it returns false'. Refute it at one input. -/
def tiersTicksWrong : ChangeSpec := { name := "tiersTicks", fn := fun _ => fun
  | [d1, d2, d3, d4, d5] => { results := [.lit (.bool false)], args := [d1, d2, d3, d4, d5] }
  | _ => none }
def TiersTicksWrongFalsely : Prop := tiersTicksRow.holds Tryz.pinned (OpenSpec.ofChange tiersTicksWrong)

/-- 'sedimentlaw11.TiersPuts': WHATEVER THE INPUT: true; the input reads as it did. -/
def tiersPutsSpec : ChangeSpec := { name := "tiersPuts", fn := fun _ => fun
  | [d1, d2, d3, d4] => { results := [.lit (.bool true)], args := [d1, d2, d3, d4] }
  | _ => none }
def tiersPutsRow : OpenClaim := { program := "ytnohmloilcpmiaagreat", sum := "196028cba3c87d6211aa3d55d29c0927650bc2f5a6199a3f5a5eb98f8aed1d88", func := "sediment/sedimentlaw11.TiersPuts", spec := "tiersPuts", inPlace := ["math/bits.Add64", "slices.overlaps[sediment/table.bucket]"], unfollowed := true, recurses := true, apart := false }
def TiersPutsSaid : Prop := tiersPutsRow.holds Tryz.pinned (OpenSpec.ofChange tiersPutsSpec)

/-- ITS FALSE NEIGHBOUR: 'it returns false'. Refute it at one input. -/
def tiersPutsWrong : ChangeSpec := { name := "tiersPuts", fn := fun _ => fun
  | [d1, d2, d3, d4] => { results := [.lit (.bool false)], args := [d1, d2, d3, d4] }
  | _ => none }
def TiersPutsWrongFalsely : Prop := tiersPutsRow.holds Tryz.pinned (OpenSpec.ofChange tiersPutsWrong)

/-- 'sedimentlaw11.TiersSums': WHATEVER THE INPUT: true; the input reads as it did. -/
def tiersSumsSpec : ChangeSpec := { name := "tiersSums", fn := fun _ => fun
  | [d] => { results := [.lit (.bool true)], args := [d] }
  | _ => none }
def tiersSumsRow : OpenClaim := { program := "ytnohmloilcpmiaagreat", sum := "196028cba3c87d6211aa3d55d29c0927650bc2f5a6199a3f5a5eb98f8aed1d88", func := "sediment/sedimentlaw11.TiersSums", spec := "tiersSums", inPlace := ["math/bits.Add64", "slices.overlaps[sediment/table.bucket]"], unfollowed := true, recurses := true, apart := false }
def TiersSumsSaid : Prop := tiersSumsRow.holds Tryz.pinned (OpenSpec.ofChange tiersSumsSpec)

/-- ITS FALSE NEIGHBOUR: 'it returns false'. Refute it at one input. -/
def tiersSumsWrong : ChangeSpec := { name := "tiersSums", fn := fun _ => fun
  | [d] => { results := [.lit (.bool false)], args := [d] }
  | _ => none }
def TiersSumsWrongFalsely : Prop := tiersSumsRow.holds Tryz.pinned (OpenSpec.ofChange tiersSumsWrong)

/-- 'sedimentlaw11.TiersView': WHATEVER THE INPUT: true; the input reads as it did. -/
def tiersViewSpec : ChangeSpec := { name := "tiersView", fn := fun _ => fun
  | [d1, d2, d3, d4] => { results := [.lit (.bool true)], args := [d1, d2, d3, d4] }
  | _ => none }
def tiersViewRow : OpenClaim := { program := "ytnohmloilcpmiaagreat", sum := "196028cba3c87d6211aa3d55d29c0927650bc2f5a6199a3f5a5eb98f8aed1d88", func := "sediment/sedimentlaw11.TiersView", spec := "tiersView", inPlace := ["math/bits.Add64", "slices.overlaps[sediment/table.bucket]"], unfollowed := true, recurses := true, apart := false }
def TiersViewSaid : Prop := tiersViewRow.holds Tryz.pinned (OpenSpec.ofChange tiersViewSpec)

/-- ITS FALSE NEIGHBOUR: 'it returns false'. Refute it at one input. -/
def tiersViewWrong : ChangeSpec := { name := "tiersView", fn := fun _ => fun
  | [d1, d2, d3, d4] => { results := [.lit (.bool false)], args := [d1, d2, d3, d4] }
  | _ => none }
def TiersViewWrongFalsely : Prop := tiersViewRow.holds Tryz.pinned (OpenSpec.ofChange tiersViewWrong)

/-- 'sedimentlaw11.TiersRefuse': WHATEVER THE INPUT: true; the input reads as it did. -/
def tiersRefuseSpec : ChangeSpec := { name := "tiersRefuse", fn := fun _ => fun
  | [d1, d2, d3, d4] => { results := [.lit (.bool true)], args := [d1, d2, d3, d4] }
  | _ => none }
def tiersRefuseRow : OpenClaim := { program := "ytnohmloilcpmiaagreat", sum := "196028cba3c87d6211aa3d55d29c0927650bc2f5a6199a3f5a5eb98f8aed1d88", func := "sediment/sedimentlaw11.TiersRefuse", spec := "tiersRefuse", inPlace := ["math/bits.Add64", "slices.overlaps[sediment/table.bucket]", "maps.clone"], unfollowed := true, recurses := true, apart := false }
def TiersRefuseSaid : Prop := tiersRefuseRow.holds Tryz.pinned (OpenSpec.ofChange tiersRefuseSpec)

/-- ITS FALSE NEIGHBOUR: 'it returns false'. Refute it at one input. -/
def tiersRefuseWrong : ChangeSpec := { name := "tiersRefuse", fn := fun _ => fun
  | [d1, d2, d3, d4] => { results := [.lit (.bool false)], args := [d1, d2, d3, d4] }
  | _ => none }
def TiersRefuseWrongFalsely : Prop := tiersRefuseRow.holds Tryz.pinned (OpenSpec.ofChange tiersRefuseWrong)

/-- 'sedimentlaw11.TiersPlays': WHATEVER THE INPUT: true; the input reads as it did. -/
def tiersPlaysSpec : ChangeSpec := { name := "tiersPlays", fn := fun _ => fun
  | [d1, d2, d3, d4, d5, d6, d7] => { results := [.lit (.bool true)], args := [d1, d2, d3, d4, d5, d6, d7] }
  | _ => none }
def tiersPlaysRow : OpenClaim := { program := "ytnohmloilcpmiaagreat", sum := "196028cba3c87d6211aa3d55d29c0927650bc2f5a6199a3f5a5eb98f8aed1d88", func := "sediment/sedimentlaw11.TiersPlays", spec := "tiersPlays", inPlace := ["math/bits.Add64", "slices.overlaps[sediment/table.bucket]", "maps.clone"], unfollowed := true, recurses := true, apart := false }
def TiersPlaysSaid : Prop := tiersPlaysRow.holds Tryz.pinned (OpenSpec.ofChange tiersPlaysSpec)

/-- ITS FALSE NEIGHBOUR: 'it returns false'. Refute it at one input. -/
def tiersPlaysWrong : ChangeSpec := { name := "tiersPlays", fn := fun _ => fun
  | [d1, d2, d3, d4, d5, d6, d7] => { results := [.lit (.bool false)], args := [d1, d2, d3, d4, d5, d6, d7] }
  | _ => none }
def TiersPlaysWrongFalsely : Prop := tiersPlaysRow.holds Tryz.pinned (OpenSpec.ofChange tiersPlaysWrong)

/- THE SECOND FORM. 'bulk': how many values and letters a reading holds, each counted each time it is reached (what is shared counts as often as it is met; a slice's spare places count too). A statement '..UptoSaid' is the law's where the arguments, and the package variables that the reading takes, are together of bulk at most 1048576: NARROWER than '..Said'. Prove '..Said' where nothing that the law and all that it calls make is longer than what came in: it says more and counts as full. Else prove '..UptoSaid'. A law counts once. -/
mutual
def uptoBulk {H : Type} : DataW H → Nat
  | .lit (.string bytes) => bytes.length + 1
  | .lit _ => 1
  | .nil => 1
  | .ptr d => uptoBulk d + 1
  | .slice elems spare => uptoBulkAll elems + uptoBulkAll spare + 1
  | .agg parts => uptoBulkAll parts + 1
  | .iface _ d => uptoBulk d + 1
  | .map entries => uptoBulkEntries entries + 1
  | .held _ => 1
def uptoBulkAll {H : Type} : List (DataW H) → Nat
  | [] => 0
  | d :: r => uptoBulk d + uptoBulkAll r
def uptoBulkEntries {H : Type} : List (Lit × DataW H) → Nat
  | [] => 0
  | x :: r => uptoBulkEntry x + uptoBulkEntries r
def uptoBulkEntry {H : Type} : Lit × DataW H → Nat
  | (.string bytes, d) => bytes.length + uptoBulk d + 1
  | (_, d) => uptoBulk d + 1
 end
def uptoSmall : (H : Type) → List (DataW H) → Bool := fun _ ds => decide (uptoBulkAll ds ≤ 1048576)
def OpenSpec.upto (s : _root_.Go.ChangeSpec) : _root_.Go.OpenSpec := { _root_.Go.OpenSpec.ofChange s with cond := some uptoSmall }

/-- 'sedimentlaw11.TiersNone', WHERE WHAT IT READS IS OF BULK AT MOST 1048576: true; the input reads as it did. -/
def tiersNoneUptoRow : OpenClaim := { program := "ytnohmloilcpmiaagreat", sum := "196028cba3c87d6211aa3d55d29c0927650bc2f5a6199a3f5a5eb98f8aed1d88", func := "sediment/sedimentlaw11.TiersNone", spec := "tiersNone", inPlace := ["math/bits.Add64", "slices.overlaps[sediment/table.bucket]", "maps.clone"], unfollowed := true, recurses := true, apart := false, narrowed := true }
def TiersNoneUptoSaid : Prop := tiersNoneUptoRow.holds Tryz.pinned (OpenSpec.upto tiersNoneSpec)

/-- 'sedimentlaw11.TiersTicks', WHERE WHAT IT READS IS OF BULK AT MOST 1048576: true; the input reads as it did. -/
def tiersTicksUptoRow : OpenClaim := { program := "ytnohmloilcpmiaagreat", sum := "196028cba3c87d6211aa3d55d29c0927650bc2f5a6199a3f5a5eb98f8aed1d88", func := "sediment/sedimentlaw11.TiersTicks", spec := "tiersTicks", inPlace := ["math/bits.Add64", "slices.overlaps[sediment/table.bucket]", "maps.clone"], unfollowed := true, recurses := true, apart := false, narrowed := true }
def TiersTicksUptoSaid : Prop := tiersTicksUptoRow.holds Tryz.pinned (OpenSpec.upto tiersTicksSpec)

/-- 'sedimentlaw11.TiersPuts', WHERE WHAT IT READS IS OF BULK AT MOST 1048576: true; the input reads as it did. -/
def tiersPutsUptoRow : OpenClaim := { program := "ytnohmloilcpmiaagreat", sum := "196028cba3c87d6211aa3d55d29c0927650bc2f5a6199a3f5a5eb98f8aed1d88", func := "sediment/sedimentlaw11.TiersPuts", spec := "tiersPuts", inPlace := ["math/bits.Add64", "slices.overlaps[sediment/table.bucket]"], unfollowed := true, recurses := true, apart := false, narrowed := true }
def TiersPutsUptoSaid : Prop := tiersPutsUptoRow.holds Tryz.pinned (OpenSpec.upto tiersPutsSpec)

/-- 'sedimentlaw11.TiersSums', WHERE WHAT IT READS IS OF BULK AT MOST 1048576: true; the input reads as it did. -/
def tiersSumsUptoRow : OpenClaim := { program := "ytnohmloilcpmiaagreat", sum := "196028cba3c87d6211aa3d55d29c0927650bc2f5a6199a3f5a5eb98f8aed1d88", func := "sediment/sedimentlaw11.TiersSums", spec := "tiersSums", inPlace := ["math/bits.Add64", "slices.overlaps[sediment/table.bucket]"], unfollowed := true, recurses := true, apart := false, narrowed := true }
def TiersSumsUptoSaid : Prop := tiersSumsUptoRow.holds Tryz.pinned (OpenSpec.upto tiersSumsSpec)

/-- 'sedimentlaw11.TiersView', WHERE WHAT IT READS IS OF BULK AT MOST 1048576: true; the input reads as it did. -/
def tiersViewUptoRow : OpenClaim := { program := "ytnohmloilcpmiaagreat", sum := "196028cba3c87d6211aa3d55d29c0927650bc2f5a6199a3f5a5eb98f8aed1d88", func := "sediment/sedimentlaw11.TiersView", spec := "tiersView", inPlace := ["math/bits.Add64", "slices.overlaps[sediment/table.bucket]"], unfollowed := true, recurses := true, apart := false, narrowed := true }
def TiersViewUptoSaid : Prop := tiersViewUptoRow.holds Tryz.pinned (OpenSpec.upto tiersViewSpec)

/-- 'sedimentlaw11.TiersRefuse', WHERE WHAT IT READS IS OF BULK AT MOST 1048576: true; the input reads as it did. -/
def tiersRefuseUptoRow : OpenClaim := { program := "ytnohmloilcpmiaagreat", sum := "196028cba3c87d6211aa3d55d29c0927650bc2f5a6199a3f5a5eb98f8aed1d88", func := "sediment/sedimentlaw11.TiersRefuse", spec := "tiersRefuse", inPlace := ["math/bits.Add64", "slices.overlaps[sediment/table.bucket]", "maps.clone"], unfollowed := true, recurses := true, apart := false, narrowed := true }
def TiersRefuseUptoSaid : Prop := tiersRefuseUptoRow.holds Tryz.pinned (OpenSpec.upto tiersRefuseSpec)

/-- 'sedimentlaw11.TiersPlays', WHERE WHAT IT READS IS OF BULK AT MOST 1048576: true; the input reads as it did. -/
def tiersPlaysUptoRow : OpenClaim := { program := "ytnohmloilcpmiaagreat", sum := "196028cba3c87d6211aa3d55d29c0927650bc2f5a6199a3f5a5eb98f8aed1d88", func := "sediment/sedimentlaw11.TiersPlays", spec := "tiersPlays", inPlace := ["math/bits.Add64", "slices.overlaps[sediment/table.bucket]", "maps.clone"], unfollowed := true, recurses := true, apart := false, narrowed := true }
def TiersPlaysUptoSaid : Prop := tiersPlaysUptoRow.holds Tryz.pinned (OpenSpec.upto tiersPlaysSpec)

end Rows
end Go.Proofs.YtnohmloilcpmiaaGreat
