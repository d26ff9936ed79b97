/-
  No cell of these rows narrows 'for every input' (looked for: loops, veiled, ifaces, maps, wideKeys, modest, calm, conditions, laid).
  DERIVED. THE GIVEN ROWS OF THIS SEAT. 6 by the template 'for every input the law returns true; each argument reads behind the call as it read before'; 0 by the template 'total and deterministic' (their statements: YtokjlmkegdickaaTotals.lean).
  GIVEN WITH THE SEED: the statements are not yours to turn. If you find one false, say at which input.
  Laid BY PROGRAM, IN A SANDBOX (cutbox-rows.mjs): the forced cells as the released guide's own fill.sh prints them over the translation 288ed0e2e85665f5… (all of the seat's roots in one cut). By AI agents, Wed Nov 11 2026. No macro, syntax, notation, axiom, sorry.
-/
import Derived.Test.YtokjlmkegdickaaChecked
import GoSem.Claim
import GoSem.ClaimJoined
import GoSem.ClaimMapViews
import Derived.JoinedTies
import Derived.KernelRfl
namespace Go.Proofs.Ytokjlmkegdickaa
/- THE CELL 'sum', in the pinned program and in every row, IS THE sha256 OF THE DUMP (.gsa) THAT YtokjlmkegdickaaProg.lean LOADS. Nothing in Lean hashes anything: it is a label: what it is worth is what the hold of that sum in a sandbox is worth. -/
noncomputable def Try.pinned : Pinned := { name := "ytokjlmkegdickaa", sum := "288ed0e2e85665f541bde0b303608ecad512208a8591693ce7265be2509ca711", checked := Try.checked }
namespace Rows
def none {H : Type} : Left H := { results := [], args := [] }

/-- 'sedimentlaw10.TableNone': WHATEVER THE INPUT: true; the input reads as it did. -/
def tableNoneSpec : ChangeSpec := { name := "tableNone", fn := fun _ => fun
  | [d1, d2] => { results := [.lit (.bool true)], args := [d1, d2] }
  | _ => none }
def tableNoneRow : OpenClaim := { program := "ytokjlmkegdickaa", sum := "288ed0e2e85665f541bde0b303608ecad512208a8591693ce7265be2509ca711", func := "sediment/sedimentlaw10.TableNone", spec := "tableNone", inPlace := ["math/bits.Add64", "slices.overlaps[sediment/table.bucket]", "maps.clone"], unfollowed := true, recurses := true, apart := false }
def TableNoneSaid : Prop := tableNoneRow.holds Try.pinned (OpenSpec.ofChange tableNoneSpec)

/-- ITS FALSE NEIGHBOUR: 'it returns false'. Refute it at one input. -/
def tableNoneWrong : ChangeSpec := { name := "tableNone", fn := fun _ => fun
  | [d1, d2] => { results := [.lit (.bool false)], args := [d1, d2] }
  | _ => none }
def TableNoneWrongFalsely : Prop := tableNoneRow.holds Try.pinned (OpenSpec.ofChange tableNoneWrong)

/-- 'sedimentlaw10.TableRolls': WHATEVER THE INPUT: true; the input reads as it did. -/
def tableRollsSpec : ChangeSpec := { name := "tableRolls", fn := fun _ => fun
  | [d1, d2, d3, d4] => { results := [.lit (.bool true)], args := [d1, d2, d3, d4] }
  | _ => none }
def tableRollsRow : OpenClaim := { program := "ytokjlmkegdickaa", sum := "288ed0e2e85665f541bde0b303608ecad512208a8591693ce7265be2509ca711", func := "sediment/sedimentlaw10.TableRolls", spec := "tableRolls", inPlace := ["math/bits.Add64", "slices.overlaps[sediment/table.bucket]"], unfollowed := true, recurses := true, apart := false }
def TableRollsSaid : Prop := tableRollsRow.holds Try.pinned (OpenSpec.ofChange tableRollsSpec)

/-- ITS FALSE NEIGHBOUR: 'it returns false'. Refute it at one input. -/
def tableRollsWrong : ChangeSpec := { name := "tableRolls", fn := fun _ => fun
  | [d1, d2, d3, d4] => { results := [.lit (.bool false)], args := [d1, d2, d3, d4] }
  | _ => none }
def TableRollsWrongFalsely : Prop := tableRollsRow.holds Try.pinned (OpenSpec.ofChange tableRollsWrong)

/-- 'sedimentlaw10.TableShards': WHATEVER THE INPUT: true; the input reads as it did. -/
def tableShardsSpec : ChangeSpec := { name := "tableShards", fn := fun _ => fun
  | [d1, d2] => { results := [.lit (.bool true)], args := [d1, d2] }
  | _ => none }
def tableShardsRow : OpenClaim := { program := "ytokjlmkegdickaa", sum := "288ed0e2e85665f541bde0b303608ecad512208a8591693ce7265be2509ca711", func := "sediment/sedimentlaw10.TableShards", spec := "tableShards", inPlace := ["math/bits.Add64", "slices.overlaps[sediment/table.bucket]", "maps.clone"], unfollowed := true, recurses := true, apart := false }
def TableShardsSaid : Prop := tableShardsRow.holds Try.pinned (OpenSpec.ofChange tableShardsSpec)

/-- ITS FALSE NEIGHBOUR: 'it returns false'. Refute it at one input. -/
def tableShardsWrong : ChangeSpec := { name := "tableShards", fn := fun _ => fun
  | [d1, d2] => { results := [.lit (.bool false)], args := [d1, d2] }
  | _ => none }
def TableShardsWrongFalsely : Prop := tableShardsRow.holds Try.pinned (OpenSpec.ofChange tableShardsWrong)

/-- 'sedimentlaw10.TableAdds': WHATEVER THE INPUT: true; the input reads as it did. -/
def tableAddsSpec : ChangeSpec := { name := "tableAdds", fn := fun _ => fun
  | [d1, d2] => { results := [.lit (.bool true)], args := [d1, d2] }
  | _ => none }
def tableAddsRow : OpenClaim := { program := "ytokjlmkegdickaa", sum := "288ed0e2e85665f541bde0b303608ecad512208a8591693ce7265be2509ca711", func := "sediment/sedimentlaw10.TableAdds", spec := "tableAdds", inPlace := ["math/bits.Add64", "slices.overlaps[sediment/table.bucket]"], unfollowed := true, recurses := true, apart := false }
def TableAddsSaid : Prop := tableAddsRow.holds Try.pinned (OpenSpec.ofChange tableAddsSpec)

/-- ITS FALSE NEIGHBOUR: 'it returns false'. Refute it at one input. -/
def tableAddsWrong : ChangeSpec := { name := "tableAdds", fn := fun _ => fun
  | [d1, d2] => { results := [.lit (.bool false)], args := [d1, d2] }
  | _ => none }
def TableAddsWrongFalsely : Prop := tableAddsRow.holds Try.pinned (OpenSpec.ofChange tableAddsWrong)

/-- 'sedimentlaw10.TableFinds': WHATEVER THE INPUT: true; the input reads as it did. -/
def tableFindsSpec : ChangeSpec := { name := "tableFinds", fn := fun _ => fun
  | [d1, d2, d3, d4] => { results := [.lit (.bool true)], args := [d1, d2, d3, d4] }
  | _ => none }
def tableFindsRow : OpenClaim := { program := "ytokjlmkegdickaa", sum := "288ed0e2e85665f541bde0b303608ecad512208a8591693ce7265be2509ca711", func := "sediment/sedimentlaw10.TableFinds", spec := "tableFinds", inPlace := ["math/bits.Add64", "slices.overlaps[sediment/table.bucket]"], unfollowed := true, recurses := true, apart := false }
def TableFindsSaid : Prop := tableFindsRow.holds Try.pinned (OpenSpec.ofChange tableFindsSpec)

/-- ITS FALSE NEIGHBOUR: 'it returns false'. Refute it at one input. -/
def tableFindsWrong : ChangeSpec := { name := "tableFinds", fn := fun _ => fun
  | [d1, d2, d3, d4] => { results := [.lit (.bool false)], args := [d1, d2, d3, d4] }
  | _ => none }
def TableFindsWrongFalsely : Prop := tableFindsRow.holds Try.pinned (OpenSpec.ofChange tableFindsWrong)

/-- 'sedimentlaw10.TableDrops': WHATEVER THE INPUT: true; the input reads as it did. -/
def tableDropsSpec : ChangeSpec := { name := "tableDrops", fn := fun _ => fun
  | [d1, d2] => { results := [.lit (.bool true)], args := [d1, d2] }
  | _ => none }
def tableDropsRow : OpenClaim := { program := "ytokjlmkegdickaa", sum := "288ed0e2e85665f541bde0b303608ecad512208a8591693ce7265be2509ca711", func := "sediment/sedimentlaw10.TableDrops", spec := "tableDrops", inPlace := ["math/bits.Add64", "slices.overlaps[sediment/table.bucket]"], unfollowed := true, recurses := true, apart := false }
def TableDropsSaid : Prop := tableDropsRow.holds Try.pinned (OpenSpec.ofChange tableDropsSpec)

/-- ITS FALSE NEIGHBOUR: 'it returns false'. Refute it at one input. -/
def tableDropsWrong : ChangeSpec := { name := "tableDrops", fn := fun _ => fun
  | [d1, d2] => { results := [.lit (.bool false)], args := [d1, d2] }
  | _ => none }
def TableDropsWrongFalsely : Prop := tableDropsRow.holds Try.pinned (OpenSpec.ofChange tableDropsWrong)

/- THE SECOND FORM. 'bulk': how many values and letters a reading holds, each counted each time it is reached (what is shared counts as often as it is met; a slice's spare places count too). A statement '..UptoSaid' is the law's where the arguments, and the package variables that the reading takes, are together of bulk at most 1048576: NARROWER than '..Said'. Prove '..Said' where nothing that the law and all that it calls make is longer than what came in: it says more and counts as full. Else prove '..UptoSaid'. A law counts once. -/
mutual
def uptoBulk {H : Type} : DataW H → Nat
  | .lit (.string bytes) => bytes.length + 1
  | .lit _ => 1
  | .nil => 1
  | .ptr d => uptoBulk d + 1
  | .slice elems spare => uptoBulkAll elems + uptoBulkAll spare + 1
  | .agg parts => uptoBulkAll parts + 1
  | .iface _ d => uptoBulk d + 1
  | .map entries => uptoBulkEntries entries + 1
  | .held _ => 1
def uptoBulkAll {H : Type} : List (DataW H) → Nat
  | [] => 0
  | d :: r => uptoBulk d + uptoBulkAll r
def uptoBulkEntries {H : Type} : List (Lit × DataW H) → Nat
  | [] => 0
  | x :: r => uptoBulkEntry x + uptoBulkEntries r
def uptoBulkEntry {H : Type} : Lit × DataW H → Nat
  | (.string bytes, d) => bytes.length + uptoBulk d + 1
  | (_, d) => uptoBulk d + 1
 end
def uptoSmall : (H : Type) → List (DataW H) → Bool := fun _ ds => decide (uptoBulkAll ds ≤ 1048576)
def OpenSpec.upto (s : _root_.Go.ChangeSpec) : _root_.Go.OpenSpec := { _root_.Go.OpenSpec.ofChange s with cond := some uptoSmall }

/-- 'sedimentlaw10.TableNone', WHERE WHAT IT READS IS OF BULK AT MOST 1048576: true; the input reads as it did. -/
def tableNoneUptoRow : OpenClaim := { program := "ytokjlmkegdickaa", sum := "288ed0e2e85665f541bde0b303608ecad512208a8591693ce7265be2509ca711", func := "sediment/sedimentlaw10.TableNone", spec := "tableNone", inPlace := ["math/bits.Add64", "slices.overlaps[sediment/table.bucket]", "maps.clone"], unfollowed := true, recurses := true, apart := false, narrowed := true }
def TableNoneUptoSaid : Prop := tableNoneUptoRow.holds Try.pinned (OpenSpec.upto tableNoneSpec)

/-- 'sedimentlaw10.TableRolls', WHERE WHAT IT READS IS OF BULK AT MOST 1048576: true; the input reads as it did. -/
def tableRollsUptoRow : OpenClaim := { program := "ytokjlmkegdickaa", sum := "288ed0e2e85665f541bde0b303608ecad512208a8591693ce7265be2509ca711", func := "sediment/sedimentlaw10.TableRolls", spec := "tableRolls", inPlace := ["math/bits.Add64", "slices.overlaps[sediment/table.bucket]"], unfollowed := true, recurses := true, apart := false, narrowed := true }
def TableRollsUptoSaid : Prop := tableRollsUptoRow.holds Try.pinned (OpenSpec.upto tableRollsSpec)

/-- 'sedimentlaw10.TableShards', WHERE WHAT IT READS IS OF BULK AT MOST 1048576: true; the input reads as it did. -/
def tableShardsUptoRow : OpenClaim := { program := "ytokjlmkegdickaa", sum := "288ed0e2e85665f541bde0b303608ecad512208a8591693ce7265be2509ca711", func := "sediment/sedimentlaw10.TableShards", spec := "tableShards", inPlace := ["math/bits.Add64", "slices.overlaps[sediment/table.bucket]", "maps.clone"], unfollowed := true, recurses := true, apart := false, narrowed := true }
def TableShardsUptoSaid : Prop := tableShardsUptoRow.holds Try.pinned (OpenSpec.upto tableShardsSpec)

/-- 'sedimentlaw10.TableAdds', WHERE WHAT IT READS IS OF BULK AT MOST 1048576: true; the input reads as it did. -/
def tableAddsUptoRow : OpenClaim := { program := "ytokjlmkegdickaa", sum := "288ed0e2e85665f541bde0b303608ecad512208a8591693ce7265be2509ca711", func := "sediment/sedimentlaw10.TableAdds", spec := "tableAdds", inPlace := ["math/bits.Add64", "slices.overlaps[sediment/table.bucket]"], unfollowed := true, recurses := true, apart := false, narrowed := true }
def TableAddsUptoSaid : Prop := tableAddsUptoRow.holds Try.pinned (OpenSpec.upto tableAddsSpec)

/-- 'sedimentlaw10.TableFinds', WHERE WHAT IT READS IS OF BULK AT MOST 1048576: true; the input reads as it did. -/
def tableFindsUptoRow : OpenClaim := { program := "ytokjlmkegdickaa", sum := "288ed0e2e85665f541bde0b303608ecad512208a8591693ce7265be2509ca711", func := "sediment/sedimentlaw10.TableFinds", spec := "tableFinds", inPlace := ["math/bits.Add64", "slices.overlaps[sediment/table.bucket]"], unfollowed := true, recurses := true, apart := false, narrowed := true }
def TableFindsUptoSaid : Prop := tableFindsUptoRow.holds Try.pinned (OpenSpec.upto tableFindsSpec)

/-- 'sedimentlaw10.TableDrops', WHERE WHAT IT READS IS OF BULK AT MOST 1048576: true; the input reads as it did. -/
def tableDropsUptoRow : OpenClaim := { program := "ytokjlmkegdickaa", sum := "288ed0e2e85665f541bde0b303608ecad512208a8591693ce7265be2509ca711", func := "sediment/sedimentlaw10.TableDrops", spec := "tableDrops", inPlace := ["math/bits.Add64", "slices.overlaps[sediment/table.bucket]"], unfollowed := true, recurses := true, apart := false, narrowed := true }
def TableDropsUptoSaid : Prop := tableDropsUptoRow.holds Try.pinned (OpenSpec.upto tableDropsSpec)

end Rows
end Go.Proofs.Ytokjlmkegdickaa
