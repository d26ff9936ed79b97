/-
  DERIVED. GIVEN WITH THE SEED: THE CARDS: each row of YtadepjpmpjipmaaDoorRows.lean that lists a variable, with what it lists TIED to the program's text (the seventh form; the later family's looks); each row that meets fmt, with fmt's text TOLD by the authors' own Lean function (tested against real Go, not proved from fmt's source: count such statements apart). THE CARD IS WHAT COUNTS. Prove the row's statement (the work); the ties are given (YtadepjpmpjipmaaDoorTie.lean); close each card by the builder's one call (the guide's Derived/Test/ToyasCard.lean, 'card_holds'). Laid BY PROGRAM, IN A SANDBOX (cutbox-door.mjs). By AI agents, Wed Nov 11 2026. No macro, syntax, notation, axiom, sorry.
-/
import Derived.Test.YtadepjpmpjipmaaDoorRows
import GoSem.ClaimSeven
namespace Go.Proofs.YtadepjpmpjipmaaDoor
namespace Rows

/-- THE TIED CARD OF 'sedimentlaw8.PolicyBack'. -/
def policyBackCard : Claim7 := { stood := { row := policyBackRow, standIns := [], harness := (true, "6180bf79f8bcaa3acfc22e62a8bed9b1e1beb7979a8cb846854474b5eedbb9d8"), looks := true }, kinds := [], alts := [], laidByText := true, laidKinds := [.data, .data, .data, .sentinel, .sentinel], laidTests := true, laidLooks := .later }
def PolicyBackCardSaid : Prop := Claim7.holds Tryd.pinned (.plain (OpenSpec.ofChange policyBackSpec)) policyBackCard

/-- THE TIED CARD OF 'sedimentlaw8.PolicyRules'. -/
def policyRulesCard : Claim7 := { stood := { row := policyRulesRow, standIns := [], harness := (true, "6180bf79f8bcaa3acfc22e62a8bed9b1e1beb7979a8cb846854474b5eedbb9d8"), looks := true }, kinds := [], alts := [], laidByText := true, laidKinds := [.data, .data, .data, .sentinel, .sentinel], laidTests := true, laidLooks := .later }
def PolicyRulesCardSaid : Prop := Claim7.holds Tryd.pinned (.plain (OpenSpec.ofChange policyRulesSpec)) policyRulesCard

/-- THE TIED CARD OF 'sedimentlaw8.PolicySpaces'. -/
def policySpacesCard : Claim7 := { stood := { row := policySpacesRow, standIns := [], harness := (true, "6180bf79f8bcaa3acfc22e62a8bed9b1e1beb7979a8cb846854474b5eedbb9d8"), looks := true }, kinds := [], alts := [], laidByText := true, laidKinds := [.data, .data, .data, .sentinel, .sentinel], laidTests := true, laidLooks := .later }
def PolicySpacesCardSaid : Prop := Claim7.holds Tryd.pinned (.plain (OpenSpec.ofChange policySpacesSpec)) policySpacesCard

/-- THE TIED CARD OF 'sedimentlaw8.PolicyLines'. -/
def policyLinesCard : Claim7 := { stood := { row := policyLinesRow, standIns := [], harness := (true, "6180bf79f8bcaa3acfc22e62a8bed9b1e1beb7979a8cb846854474b5eedbb9d8"), looks := true }, kinds := [], alts := [], laidByText := true, laidKinds := [.data, .data, .data, .sentinel, .sentinel], laidTests := true, laidLooks := .later }
def PolicyLinesCardSaid : Prop := Claim7.holds Tryd.pinned (.plain (OpenSpec.ofChange policyLinesSpec)) policyLinesCard

/-- THE TIED CARD OF 'sedimentlaw8.PolicySame'. -/
def policySameCard : Claim7 := { stood := { row := policySameRow, standIns := [], harness := (true, "6180bf79f8bcaa3acfc22e62a8bed9b1e1beb7979a8cb846854474b5eedbb9d8"), looks := true }, kinds := [], alts := [], laidByText := true, laidKinds := [.data, .data, .data, .sentinel, .sentinel], laidTests := true, laidLooks := .later }
def PolicySameCardSaid : Prop := Claim7.holds Tryd.pinned (.plain (OpenSpec.ofChange policySameSpec)) policySameCard

/-- THE SECOND FORM's CARD OF 'sedimentlaw8.PolicyBack'. -/
def policyBackUptoCard : Claim7 := { stood := { row := policyBackUptoRow, standIns := [], harness := (true, "6180bf79f8bcaa3acfc22e62a8bed9b1e1beb7979a8cb846854474b5eedbb9d8"), looks := true }, kinds := [], alts := [], laidByText := true, laidKinds := [.data, .data, .data, .sentinel, .sentinel], laidTests := true, laidLooks := .later }
def PolicyBackUptoCardSaid : Prop := Claim7.holds Tryd.pinned (.plain (OpenSpec.upto policyBackSpec)) policyBackUptoCard

/-- THE SECOND FORM's CARD OF 'sedimentlaw8.PolicyRules'. -/
def policyRulesUptoCard : Claim7 := { stood := { row := policyRulesUptoRow, standIns := [], harness := (true, "6180bf79f8bcaa3acfc22e62a8bed9b1e1beb7979a8cb846854474b5eedbb9d8"), looks := true }, kinds := [], alts := [], laidByText := true, laidKinds := [.data, .data, .data, .sentinel, .sentinel], laidTests := true, laidLooks := .later }
def PolicyRulesUptoCardSaid : Prop := Claim7.holds Tryd.pinned (.plain (OpenSpec.upto policyRulesSpec)) policyRulesUptoCard

/-- THE SECOND FORM's CARD OF 'sedimentlaw8.PolicySpaces'. -/
def policySpacesUptoCard : Claim7 := { stood := { row := policySpacesUptoRow, standIns := [], harness := (true, "6180bf79f8bcaa3acfc22e62a8bed9b1e1beb7979a8cb846854474b5eedbb9d8"), looks := true }, kinds := [], alts := [], laidByText := true, laidKinds := [.data, .data, .data, .sentinel, .sentinel], laidTests := true, laidLooks := .later }
def PolicySpacesUptoCardSaid : Prop := Claim7.holds Tryd.pinned (.plain (OpenSpec.upto policySpacesSpec)) policySpacesUptoCard

/-- THE SECOND FORM's CARD OF 'sedimentlaw8.PolicyLines'. -/
def policyLinesUptoCard : Claim7 := { stood := { row := policyLinesUptoRow, standIns := [], harness := (true, "6180bf79f8bcaa3acfc22e62a8bed9b1e1beb7979a8cb846854474b5eedbb9d8"), looks := true }, kinds := [], alts := [], laidByText := true, laidKinds := [.data, .data, .data, .sentinel, .sentinel], laidTests := true, laidLooks := .later }
def PolicyLinesUptoCardSaid : Prop := Claim7.holds Tryd.pinned (.plain (OpenSpec.upto policyLinesSpec)) policyLinesUptoCard

/-- THE SECOND FORM's CARD OF 'sedimentlaw8.PolicySame'. -/
def policySameUptoCard : Claim7 := { stood := { row := policySameUptoRow, standIns := [], harness := (true, "6180bf79f8bcaa3acfc22e62a8bed9b1e1beb7979a8cb846854474b5eedbb9d8"), looks := true }, kinds := [], alts := [], laidByText := true, laidKinds := [.data, .data, .data, .sentinel, .sentinel], laidTests := true, laidLooks := .later }
def PolicySameUptoCardSaid : Prop := Claim7.holds Tryd.pinned (.plain (OpenSpec.upto policySameSpec)) policySameUptoCard
end Rows
end Go.Proofs.YtadepjpmpjipmaaDoor
