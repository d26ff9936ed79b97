/-
  DERIVED. GIVEN WITH THE SEED: THE CARDS: each row of YtfgfgdchaoekfaaDoorRows.lean that lists a variable, with what it lists TIED to the program's text (the seventh form; the later family's looks); each row that meets fmt, with fmt's text TOLD by the authors' own Lean function (tested against real Go, not proved from fmt's source: count such statements apart). THE CARD IS WHAT COUNTS. Prove the row's statement (the work); the ties are given (YtfgfgdchaoekfaaDoorTie.lean); close each card by the builder's one call (the guide's Derived/Test/ToyasCard.lean, 'card_holds'). Laid BY PROGRAM, IN A SANDBOX (cutbox-door.mjs). By AI agents, Wed Nov 11 2026. No macro, syntax, notation, axiom, sorry.
-/
import Derived.Test.YtfgfgdchaoekfaaDoorRows
import GoSem.ClaimSeven
namespace Go.Proofs.YtfgfgdchaoekfaaDoor
namespace Rows

/-- THE TIED CARD OF 'sedimentlaw16.RecBack'. -/
def recBackCard : Claim7 := { stood := { row := recBackRow, standIns := [], harness := (true, "35b2c5ad9466672f72c8a22a617f9ea42b4eea11fd90c0b9cff233cc4647f8ef"), looks := false }, kinds := [], alts := [], laidByText := true, laidKinds := [.data, .pinned], laidTests := true, laidLooks := .later }
def RecBackCardSaid : Prop := Claim7.holds Tryd.pinned (.plain (OpenSpec.ofChange recBackSpec)) recBackCard

/-- THE TIED CARD OF 'sedimentlaw16.RecParts'. -/
def recPartsCard : Claim7 := { stood := { row := recPartsRow, standIns := [], harness := (true, "35b2c5ad9466672f72c8a22a617f9ea42b4eea11fd90c0b9cff233cc4647f8ef"), looks := false }, kinds := [], alts := [], laidByText := true, laidKinds := [.data, .pinned], laidTests := true, laidLooks := .later }
def RecPartsCardSaid : Prop := Claim7.holds Tryd.pinned (.plain (OpenSpec.ofChange recPartsSpec)) recPartsCard

/-- THE SECOND FORM's CARD OF 'sedimentlaw16.RecBack'. -/
def recBackUptoCard : Claim7 := { stood := { row := recBackUptoRow, standIns := [], harness := (true, "35b2c5ad9466672f72c8a22a617f9ea42b4eea11fd90c0b9cff233cc4647f8ef"), looks := false }, kinds := [], alts := [], laidByText := true, laidKinds := [.data, .pinned], laidTests := true, laidLooks := .later }
def RecBackUptoCardSaid : Prop := Claim7.holds Tryd.pinned (.plain (OpenSpec.upto recBackSpec)) recBackUptoCard

/-- THE SECOND FORM's CARD OF 'sedimentlaw16.RecParts'. -/
def recPartsUptoCard : Claim7 := { stood := { row := recPartsUptoRow, standIns := [], harness := (true, "35b2c5ad9466672f72c8a22a617f9ea42b4eea11fd90c0b9cff233cc4647f8ef"), looks := false }, kinds := [], alts := [], laidByText := true, laidKinds := [.data, .pinned], laidTests := true, laidLooks := .later }
def RecPartsUptoCardSaid : Prop := Claim7.holds Tryd.pinned (.plain (OpenSpec.upto recPartsSpec)) recPartsUptoCard
end Rows
end Go.Proofs.YtfgfgdchaoekfaaDoor
