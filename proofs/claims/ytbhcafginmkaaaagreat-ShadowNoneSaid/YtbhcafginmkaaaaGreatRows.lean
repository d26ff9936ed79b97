/-
  No cell of these rows narrows 'for every input' (looked for: loops, veiled, ifaces, maps, wideKeys, modest, calm, conditions, laid).
  DERIVED. THE GIVEN ROWS OF THIS SEAT. 9 by the template 'for every input the law returns true; each argument reads behind the call as it read before'; 0 by the template 'total and deterministic' (their statements: YtbhcafginmkaaaaGreatTotals.lean).
  GIVEN WITH THE SEED: the statements are not yours to turn. If you find one false, say at which input.
  Laid BY PROGRAM, IN A SANDBOX (cutbox-rows.mjs): the forced cells as the released guide's own fill.sh prints them over the translation 36d028b49c73f2dc… (all of the seat's roots in one cut). By AI agents, Wed Nov 11 2026. No macro, syntax, notation, axiom, sorry.
-/
import Derived.Test.YtbhcafginmkaaaaGreatChecked
import GoSem.Claim
import GoSem.ClaimJoined
import GoSem.ClaimMapViews
import Derived.JoinedTies
import Derived.KernelRfl
namespace Go.Proofs.YtbhcafginmkaaaaGreat
/- THE CELL 'sum', in the pinned program and in every row, IS THE sha256 OF THE DUMP (.gsa) THAT YtbhcafginmkaaaaGreatProg.lean LOADS. Nothing in Lean hashes anything: it is a label: what it is worth is what the hold of that sum in a sandbox is worth. -/
noncomputable def Tryz.pinned : Pinned := { name := "ytbhcafginmkaaaagreat", sum := "36d028b49c73f2dc333d19fa6366bc14175582cda010b14ed375c61d98f585fc", checked := Tryz.checked }
namespace Rows
def none {H : Type} : Left H := { results := [], args := [] }

/-- 'sedimentlaw13.PlanTells': WHATEVER THE INPUT: true; the input reads as it did. -/
def planTellsSpec : ChangeSpec := { name := "planTells", fn := fun _ => fun
  | [d1, d2, d3, d4, d5, d6, d7, d8] => { results := [.lit (.bool true)], args := [d1, d2, d3, d4, d5, d6, d7, d8] }
  | _ => none }
def planTellsRow : OpenClaim := { program := "ytbhcafginmkaaaagreat", sum := "36d028b49c73f2dc333d19fa6366bc14175582cda010b14ed375c61d98f585fc", func := "sediment/sedimentlaw13.PlanTells", spec := "planTells", plainKeys := false, apart := false }
def PlanTellsSaid : Prop := planTellsRow.holds Tryz.pinned (OpenSpec.ofChange planTellsSpec)

/-- ITS FALSE NEIGHBOUR: 'it returns false'. Refute it at one input. -/
def planTellsWrong : ChangeSpec := { name := "planTells", fn := fun _ => fun
  | [d1, d2, d3, d4, d5, d6, d7, d8] => { results := [.lit (.bool false)], args := [d1, d2, d3, d4, d5, d6, d7, d8] }
  | _ => none }
def PlanTellsWrongFalsely : Prop := planTellsRow.holds Tryz.pinned (OpenSpec.ofChange planTellsWrong)

/-- 'sedimentlaw13.PlanBuilds': WHATEVER THE INPUT: true; the input reads as it did. -/
def planBuildsSpec : ChangeSpec := { name := "planBuilds", fn := fun _ => fun
  | [d1, d2, d3, d4, d5, d6, d7] => { results := [.lit (.bool true)], args := [d1, d2, d3, d4, d5, d6, d7] }
  | _ => none }
def planBuildsRow : OpenClaim := { program := "ytbhcafginmkaaaagreat", sum := "36d028b49c73f2dc333d19fa6366bc14175582cda010b14ed375c61d98f585fc", func := "sediment/sedimentlaw13.PlanBuilds", spec := "planBuilds", inPlace := ["math/bits.Add64", "slices.overlaps[sediment/table.bucket]", "maps.clone"], unfollowed := true, recurses := true, plainKeys := false, apart := false }
def PlanBuildsSaid : Prop := planBuildsRow.holds Tryz.pinned (OpenSpec.ofChange planBuildsSpec)

/-- ITS FALSE NEIGHBOUR: 'it returns false'. Refute it at one input. -/
def planBuildsWrong : ChangeSpec := { name := "planBuilds", fn := fun _ => fun
  | [d1, d2, d3, d4, d5, d6, d7] => { results := [.lit (.bool false)], args := [d1, d2, d3, d4, d5, d6, d7] }
  | _ => none }
def PlanBuildsWrongFalsely : Prop := planBuildsRow.holds Tryz.pinned (OpenSpec.ofChange planBuildsWrong)

/-- 'sedimentlaw12.ViewTells': WHATEVER THE INPUT: true; the input reads as it did. -/
def viewTellsSpec : ChangeSpec := { name := "viewTells", fn := fun _ => fun
  | [d1, d2, d3, d4, d5, d6, d7, d8] => { results := [.lit (.bool true)], args := [d1, d2, d3, d4, d5, d6, d7, d8] }
  | _ => none }
def viewTellsRow : OpenClaim := { program := "ytbhcafginmkaaaagreat", sum := "36d028b49c73f2dc333d19fa6366bc14175582cda010b14ed375c61d98f585fc", func := "sediment/sedimentlaw12.ViewTells", spec := "viewTells", inPlace := ["math/bits.Add64"], unfollowed := true, recurses := true, plainKeys := false, apart := false }
def ViewTellsSaid : Prop := viewTellsRow.holds Tryz.pinned (OpenSpec.ofChange viewTellsSpec)

/-- ITS FALSE NEIGHBOUR: 'it returns false'. Refute it at one input. -/
def viewTellsWrong : ChangeSpec := { name := "viewTells", fn := fun _ => fun
  | [d1, d2, d3, d4, d5, d6, d7, d8] => { results := [.lit (.bool false)], args := [d1, d2, d3, d4, d5, d6, d7, d8] }
  | _ => none }
def ViewTellsWrongFalsely : Prop := viewTellsRow.holds Tryz.pinned (OpenSpec.ofChange viewTellsWrong)

/-- 'sedimentlaw11.TiersPlays': WHATEVER THE INPUT: true; the input reads as it did. -/
def tiersPlaysSpec : ChangeSpec := { name := "tiersPlays", fn := fun _ => fun
  | [d1, d2, d3, d4, d5, d6, d7] => { results := [.lit (.bool true)], args := [d1, d2, d3, d4, d5, d6, d7] }
  | _ => none }
def tiersPlaysRow : OpenClaim := { program := "ytbhcafginmkaaaagreat", sum := "36d028b49c73f2dc333d19fa6366bc14175582cda010b14ed375c61d98f585fc", func := "sediment/sedimentlaw11.TiersPlays", spec := "tiersPlays", inPlace := ["math/bits.Add64", "slices.overlaps[sediment/table.bucket]", "maps.clone"], unfollowed := true, recurses := true, plainKeys := false, apart := false }
def TiersPlaysSaid : Prop := tiersPlaysRow.holds Tryz.pinned (OpenSpec.ofChange tiersPlaysSpec)

/-- ITS FALSE NEIGHBOUR: 'it returns false'. Refute it at one input. -/
def tiersPlaysWrong : ChangeSpec := { name := "tiersPlays", fn := fun _ => fun
  | [d1, d2, d3, d4, d5, d6, d7] => { results := [.lit (.bool false)], args := [d1, d2, d3, d4, d5, d6, d7] }
  | _ => none }
def TiersPlaysWrongFalsely : Prop := tiersPlaysRow.holds Tryz.pinned (OpenSpec.ofChange tiersPlaysWrong)

/-- 'sedimentlaw14.ShadowPlays': WHATEVER THE INPUT: true; the input reads as it did. -/
def shadowPlaysSpec : ChangeSpec := { name := "shadowPlays", fn := fun _ => fun
  | [d1, d2, d3, d4, d5, d6, d7, d8] => { results := [.lit (.bool true)], args := [d1, d2, d3, d4, d5, d6, d7, d8] }
  | _ => none }
def shadowPlaysRow : OpenClaim := { program := "ytbhcafginmkaaaagreat", sum := "36d028b49c73f2dc333d19fa6366bc14175582cda010b14ed375c61d98f585fc", func := "sediment/sedimentlaw14.ShadowPlays", spec := "shadowPlays", inPlace := ["math/bits.Add64", "slices.overlaps[sediment/table.bucket]", "maps.clone"], unfollowed := true, recurses := true, plainKeys := false, apart := false }
def ShadowPlaysSaid : Prop := shadowPlaysRow.holds Tryz.pinned (OpenSpec.ofChange shadowPlaysSpec)

/-- ITS FALSE NEIGHBOUR: 'it returns false'. Refute it at one input. -/
def shadowPlaysWrong : ChangeSpec := { name := "shadowPlays", fn := fun _ => fun
  | [d1, d2, d3, d4, d5, d6, d7, d8] => { results := [.lit (.bool false)], args := [d1, d2, d3, d4, d5, d6, d7, d8] }
  | _ => none }
def ShadowPlaysWrongFalsely : Prop := shadowPlaysRow.holds Tryz.pinned (OpenSpec.ofChange shadowPlaysWrong)

/-- 'sedimentlaw14.ShadowNone': WHATEVER THE INPUT: true; the input reads as it did. -/
def shadowNoneSpec : ChangeSpec := { name := "shadowNone", fn := fun _ => fun
  | [d1, d2] => { results := [.lit (.bool true)], args := [d1, d2] }
  | _ => none }
def shadowNoneRow : OpenClaim := { program := "ytbhcafginmkaaaagreat", sum := "36d028b49c73f2dc333d19fa6366bc14175582cda010b14ed375c61d98f585fc", func := "sediment/sedimentlaw14.ShadowNone", spec := "shadowNone", inPlace := ["math/bits.Add64", "slices.overlaps[sediment/table.bucket]", "maps.clone"], unfollowed := true, recurses := true, plainKeys := false, apart := false }
def ShadowNoneSaid : Prop := shadowNoneRow.holds Tryz.pinned (OpenSpec.ofChange shadowNoneSpec)

/-- ITS FALSE NEIGHBOUR: 'it returns false'. Refute it at one input. -/
def shadowNoneWrong : ChangeSpec := { name := "shadowNone", fn := fun _ => fun
  | [d1, d2] => { results := [.lit (.bool false)], args := [d1, d2] }
  | _ => none }
def ShadowNoneWrongFalsely : Prop := shadowNoneRow.holds Tryz.pinned (OpenSpec.ofChange shadowNoneWrong)

/-- 'sedimentlaw14.ShadowRight': WHATEVER THE INPUT: true; the input reads as it did. -/
def shadowRightSpec : ChangeSpec := { name := "shadowRight", fn := fun _ => fun
  | [d1, d2, d3, d4, d5, d6] => { results := [.lit (.bool true)], args := [d1, d2, d3, d4, d5, d6] }
  | _ => none }
def shadowRightRow : OpenClaim := { program := "ytbhcafginmkaaaagreat", sum := "36d028b49c73f2dc333d19fa6366bc14175582cda010b14ed375c61d98f585fc", func := "sediment/sedimentlaw14.ShadowRight", spec := "shadowRight", inPlace := ["math/bits.Add64", "slices.overlaps[sediment/table.bucket]", "maps.clone"], unfollowed := true, recurses := true, plainKeys := false, apart := false }
def ShadowRightSaid : Prop := shadowRightRow.holds Tryz.pinned (OpenSpec.ofChange shadowRightSpec)

/-- ITS FALSE NEIGHBOUR: 'it returns false'. Refute it at one input. -/
def shadowRightWrong : ChangeSpec := { name := "shadowRight", fn := fun _ => fun
  | [d1, d2, d3, d4, d5, d6] => { results := [.lit (.bool false)], args := [d1, d2, d3, d4, d5, d6] }
  | _ => none }
def ShadowRightWrongFalsely : Prop := shadowRightRow.holds Tryz.pinned (OpenSpec.ofChange shadowRightWrong)

/-- 'sedimentlaw14.ShadowResumes': WHATEVER THE INPUT: true; the input reads as it did. -/
def shadowResumesSpec : ChangeSpec := { name := "shadowResumes", fn := fun _ => fun
  | [d1, d2, d3, d4, d5, d6] => { results := [.lit (.bool true)], args := [d1, d2, d3, d4, d5, d6] }
  | _ => none }
def shadowResumesRow : OpenClaim := { program := "ytbhcafginmkaaaagreat", sum := "36d028b49c73f2dc333d19fa6366bc14175582cda010b14ed375c61d98f585fc", func := "sediment/sedimentlaw14.ShadowResumes", spec := "shadowResumes", inPlace := ["math/bits.Add64", "slices.overlaps[sediment/table.bucket]", "maps.clone"], unfollowed := true, recurses := true, plainKeys := false, apart := false }
def ShadowResumesSaid : Prop := shadowResumesRow.holds Tryz.pinned (OpenSpec.ofChange shadowResumesSpec)

/-- ITS FALSE NEIGHBOUR: 'it returns false'. Refute it at one input. -/
def shadowResumesWrong : ChangeSpec := { name := "shadowResumes", fn := fun _ => fun
  | [d1, d2, d3, d4, d5, d6] => { results := [.lit (.bool false)], args := [d1, d2, d3, d4, d5, d6] }
  | _ => none }
def ShadowResumesWrongFalsely : Prop := shadowResumesRow.holds Tryz.pinned (OpenSpec.ofChange shadowResumesWrong)

/-- 'sedimentlaw14.ShadowChecks': WHATEVER THE INPUT: true; the input reads as it did. -/
def shadowChecksSpec : ChangeSpec := { name := "shadowChecks", fn := fun _ => fun
  | [d1, d2, d3, d4, d5, d6] => { results := [.lit (.bool true)], args := [d1, d2, d3, d4, d5, d6] }
  | _ => none }
def shadowChecksRow : OpenClaim := { program := "ytbhcafginmkaaaagreat", sum := "36d028b49c73f2dc333d19fa6366bc14175582cda010b14ed375c61d98f585fc", func := "sediment/sedimentlaw14.ShadowChecks", spec := "shadowChecks", inPlace := ["math/bits.Add64", "slices.overlaps[sediment/table.bucket]", "maps.clone"], unfollowed := true, recurses := true, plainKeys := false, apart := false }
def ShadowChecksSaid : Prop := shadowChecksRow.holds Tryz.pinned (OpenSpec.ofChange shadowChecksSpec)

/-- ITS FALSE NEIGHBOUR: 'it returns false'. Refute it at one input. -/
def shadowChecksWrong : ChangeSpec := { name := "shadowChecks", fn := fun _ => fun
  | [d1, d2, d3, d4, d5, d6] => { results := [.lit (.bool false)], args := [d1, d2, d3, d4, d5, d6] }
  | _ => none }
def ShadowChecksWrongFalsely : Prop := shadowChecksRow.holds Tryz.pinned (OpenSpec.ofChange shadowChecksWrong)

/- THE SECOND FORM. 'bulk': how many values and letters a reading holds, each counted each time it is reached (what is shared counts as often as it is met; a slice's spare places count too). A statement '..UptoSaid' is the law's where the arguments, and the package variables that the reading takes, are together of bulk at most 1048576: NARROWER than '..Said'. Prove '..Said' where nothing that the law and all that it calls make is longer than what came in: it says more and counts as full. Else prove '..UptoSaid'. A law counts once. -/
mutual
def uptoBulk {H : Type} : DataW H → Nat
  | .lit (.string bytes) => bytes.length + 1
  | .lit _ => 1
  | .nil => 1
  | .ptr d => uptoBulk d + 1
  | .slice elems spare => uptoBulkAll elems + uptoBulkAll spare + 1
  | .agg parts => uptoBulkAll parts + 1
  | .iface _ d => uptoBulk d + 1
  | .map entries => uptoBulkEntries entries + 1
  | .held _ => 1
def uptoBulkAll {H : Type} : List (DataW H) → Nat
  | [] => 0
  | d :: r => uptoBulk d + uptoBulkAll r
def uptoBulkEntries {H : Type} : List (Lit × DataW H) → Nat
  | [] => 0
  | x :: r => uptoBulkEntry x + uptoBulkEntries r
def uptoBulkEntry {H : Type} : Lit × DataW H → Nat
  | (.string bytes, d) => bytes.length + uptoBulk d + 1
  | (_, d) => uptoBulk d + 1
 end
def uptoSmall : (H : Type) → List (DataW H) → Bool := fun _ ds => decide (uptoBulkAll ds ≤ 1048576)
def OpenSpec.upto (s : _root_.Go.ChangeSpec) : _root_.Go.OpenSpec := { _root_.Go.OpenSpec.ofChange s with cond := some uptoSmall }

/-- 'sedimentlaw13.PlanTells', WHERE WHAT IT READS IS OF BULK AT MOST 1048576: true; the input reads as it did. -/
def planTellsUptoRow : OpenClaim := { program := "ytbhcafginmkaaaagreat", sum := "36d028b49c73f2dc333d19fa6366bc14175582cda010b14ed375c61d98f585fc", func := "sediment/sedimentlaw13.PlanTells", spec := "planTells", plainKeys := false, apart := false, narrowed := true }
def PlanTellsUptoSaid : Prop := planTellsUptoRow.holds Tryz.pinned (OpenSpec.upto planTellsSpec)

/-- 'sedimentlaw13.PlanBuilds', WHERE WHAT IT READS IS OF BULK AT MOST 1048576: true; the input reads as it did. -/
def planBuildsUptoRow : OpenClaim := { program := "ytbhcafginmkaaaagreat", sum := "36d028b49c73f2dc333d19fa6366bc14175582cda010b14ed375c61d98f585fc", func := "sediment/sedimentlaw13.PlanBuilds", spec := "planBuilds", inPlace := ["math/bits.Add64", "slices.overlaps[sediment/table.bucket]", "maps.clone"], unfollowed := true, recurses := true, plainKeys := false, apart := false, narrowed := true }
def PlanBuildsUptoSaid : Prop := planBuildsUptoRow.holds Tryz.pinned (OpenSpec.upto planBuildsSpec)

/-- 'sedimentlaw12.ViewTells', WHERE WHAT IT READS IS OF BULK AT MOST 1048576: true; the input reads as it did. -/
def viewTellsUptoRow : OpenClaim := { program := "ytbhcafginmkaaaagreat", sum := "36d028b49c73f2dc333d19fa6366bc14175582cda010b14ed375c61d98f585fc", func := "sediment/sedimentlaw12.ViewTells", spec := "viewTells", inPlace := ["math/bits.Add64"], unfollowed := true, recurses := true, plainKeys := false, apart := false, narrowed := true }
def ViewTellsUptoSaid : Prop := viewTellsUptoRow.holds Tryz.pinned (OpenSpec.upto viewTellsSpec)

/-- 'sedimentlaw11.TiersPlays', WHERE WHAT IT READS IS OF BULK AT MOST 1048576: true; the input reads as it did. -/
def tiersPlaysUptoRow : OpenClaim := { program := "ytbhcafginmkaaaagreat", sum := "36d028b49c73f2dc333d19fa6366bc14175582cda010b14ed375c61d98f585fc", func := "sediment/sedimentlaw11.TiersPlays", spec := "tiersPlays", inPlace := ["math/bits.Add64", "slices.overlaps[sediment/table.bucket]", "maps.clone"], unfollowed := true, recurses := true, plainKeys := false, apart := false, narrowed := true }
def TiersPlaysUptoSaid : Prop := tiersPlaysUptoRow.holds Tryz.pinned (OpenSpec.upto tiersPlaysSpec)

/-- 'sedimentlaw14.ShadowPlays', WHERE WHAT IT READS IS OF BULK AT MOST 1048576: true; the input reads as it did. -/
def shadowPlaysUptoRow : OpenClaim := { program := "ytbhcafginmkaaaagreat", sum := "36d028b49c73f2dc333d19fa6366bc14175582cda010b14ed375c61d98f585fc", func := "sediment/sedimentlaw14.ShadowPlays", spec := "shadowPlays", inPlace := ["math/bits.Add64", "slices.overlaps[sediment/table.bucket]", "maps.clone"], unfollowed := true, recurses := true, plainKeys := false, apart := false, narrowed := true }
def ShadowPlaysUptoSaid : Prop := shadowPlaysUptoRow.holds Tryz.pinned (OpenSpec.upto shadowPlaysSpec)

/-- 'sedimentlaw14.ShadowNone', WHERE WHAT IT READS IS OF BULK AT MOST 1048576: true; the input reads as it did. -/
def shadowNoneUptoRow : OpenClaim := { program := "ytbhcafginmkaaaagreat", sum := "36d028b49c73f2dc333d19fa6366bc14175582cda010b14ed375c61d98f585fc", func := "sediment/sedimentlaw14.ShadowNone", spec := "shadowNone", inPlace := ["math/bits.Add64", "slices.overlaps[sediment/table.bucket]", "maps.clone"], unfollowed := true, recurses := true, plainKeys := false, apart := false, narrowed := true }
def ShadowNoneUptoSaid : Prop := shadowNoneUptoRow.holds Tryz.pinned (OpenSpec.upto shadowNoneSpec)

/-- 'sedimentlaw14.ShadowRight', WHERE WHAT IT READS IS OF BULK AT MOST 1048576: true; the input reads as it did. -/
def shadowRightUptoRow : OpenClaim := { program := "ytbhcafginmkaaaagreat", sum := "36d028b49c73f2dc333d19fa6366bc14175582cda010b14ed375c61d98f585fc", func := "sediment/sedimentlaw14.ShadowRight", spec := "shadowRight", inPlace := ["math/bits.Add64", "slices.overlaps[sediment/table.bucket]", "maps.clone"], unfollowed := true, recurses := true, plainKeys := false, apart := false, narrowed := true }
def ShadowRightUptoSaid : Prop := shadowRightUptoRow.holds Tryz.pinned (OpenSpec.upto shadowRightSpec)

/-- 'sedimentlaw14.ShadowResumes', WHERE WHAT IT READS IS OF BULK AT MOST 1048576: true; the input reads as it did. -/
def shadowResumesUptoRow : OpenClaim := { program := "ytbhcafginmkaaaagreat", sum := "36d028b49c73f2dc333d19fa6366bc14175582cda010b14ed375c61d98f585fc", func := "sediment/sedimentlaw14.ShadowResumes", spec := "shadowResumes", inPlace := ["math/bits.Add64", "slices.overlaps[sediment/table.bucket]", "maps.clone"], unfollowed := true, recurses := true, plainKeys := false, apart := false, narrowed := true }
def ShadowResumesUptoSaid : Prop := shadowResumesUptoRow.holds Tryz.pinned (OpenSpec.upto shadowResumesSpec)

/-- 'sedimentlaw14.ShadowChecks', WHERE WHAT IT READS IS OF BULK AT MOST 1048576: true; the input reads as it did. -/
def shadowChecksUptoRow : OpenClaim := { program := "ytbhcafginmkaaaagreat", sum := "36d028b49c73f2dc333d19fa6366bc14175582cda010b14ed375c61d98f585fc", func := "sediment/sedimentlaw14.ShadowChecks", spec := "shadowChecks", inPlace := ["math/bits.Add64", "slices.overlaps[sediment/table.bucket]", "maps.clone"], unfollowed := true, recurses := true, plainKeys := false, apart := false, narrowed := true }
def ShadowChecksUptoSaid : Prop := shadowChecksUptoRow.holds Tryz.pinned (OpenSpec.upto shadowChecksSpec)

end Rows
end Go.Proofs.YtbhcafginmkaaaaGreat
