/-
  DERIVED. GIVEN WITH THE SEED: THE CARDS: each row of YtfgfgdchaoekfaaGreatDoorRows.lean that lists a variable, with what it lists TIED to the program's text (the seventh form; the later family's looks); each row that meets fmt, with fmt's text TOLD by the authors' own Lean function (tested against real Go, not proved from fmt's source: count such statements apart). THE CARD IS WHAT COUNTS. Prove the row's statement (the work); the ties are given (YtfgfgdchaoekfaaGreatDoorTie.lean); close each card by the builder's one call (the guide's Derived/Test/ToyasCard.lean, 'card_holds'). Laid BY PROGRAM, IN A SANDBOX (cutbox-door.mjs). By AI agents, Wed Nov 11 2026. No macro, syntax, notation, axiom, sorry.
-/
import Derived.Test.YtfgfgdchaoekfaaGreatDoorRows
import GoSem.ClaimSeven
namespace Go.Proofs.YtfgfgdchaoekfaaGreatDoor
namespace Rows

/-- THE TIED CARD OF 'sedimentlaw16.RecTells'. -/
def recTellsCard : Claim7 := { stood := { row := recTellsRow, standIns := [], harness := (true, "639f8b6fc4e7e7644574da29559ce8a0433ff91138841904f31bfa082954412d"), looks := false }, kinds := [], alts := [], laidByText := true, laidKinds := [.data, .pinned], laidTests := true, laidLooks := .later }
def RecTellsCardSaid : Prop := Claim7.holds Tryz.pinned (.plain (OpenSpec.ofChange recTellsSpec)) recTellsCard

/-- THE TIED CARD OF 'sedimentlaw16.RecSamples'. -/
def recSamplesCard : Claim7 := { stood := { row := recSamplesRow, standIns := [], harness := (true, "639f8b6fc4e7e7644574da29559ce8a0433ff91138841904f31bfa082954412d"), looks := false }, kinds := [], alts := [], laidByText := true, laidKinds := [.data, .pinned], laidTests := true, laidLooks := .later }
def RecSamplesCardSaid : Prop := Claim7.holds Tryz.pinned (.plain (OpenSpec.ofChange recSamplesSpec)) recSamplesCard

/-- THE SECOND FORM's CARD OF 'sedimentlaw16.RecTells'. -/
def recTellsUptoCard : Claim7 := { stood := { row := recTellsUptoRow, standIns := [], harness := (true, "639f8b6fc4e7e7644574da29559ce8a0433ff91138841904f31bfa082954412d"), looks := false }, kinds := [], alts := [], laidByText := true, laidKinds := [.data, .pinned], laidTests := true, laidLooks := .later }
def RecTellsUptoCardSaid : Prop := Claim7.holds Tryz.pinned (.plain (OpenSpec.upto recTellsSpec)) recTellsUptoCard

/-- THE SECOND FORM's CARD OF 'sedimentlaw16.RecSamples'. -/
def recSamplesUptoCard : Claim7 := { stood := { row := recSamplesUptoRow, standIns := [], harness := (true, "639f8b6fc4e7e7644574da29559ce8a0433ff91138841904f31bfa082954412d"), looks := false }, kinds := [], alts := [], laidByText := true, laidKinds := [.data, .pinned], laidTests := true, laidLooks := .later }
def RecSamplesUptoCardSaid : Prop := Claim7.holds Tryz.pinned (.plain (OpenSpec.upto recSamplesSpec)) recSamplesUptoCard
end Rows
end Go.Proofs.YtfgfgdchaoekfaaGreatDoor
