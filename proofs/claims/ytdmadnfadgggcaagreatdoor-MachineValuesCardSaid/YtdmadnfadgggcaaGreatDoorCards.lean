/-
  DERIVED. GIVEN WITH THE SEED: THE CARDS: each row of YtdmadnfadgggcaaGreatDoorRows.lean that lists a variable, with what it lists TIED to the program's text (the seventh form; the later family's looks); each row that meets fmt, with fmt's text TOLD by the authors' own Lean function (tested against real Go, not proved from fmt's source: count such statements apart). THE CARD IS WHAT COUNTS. Prove the row's statement (the work); the ties are given (YtdmadnfadgggcaaGreatDoorTie.lean); close each card by the builder's one call (the guide's Derived/Test/ToyasCard.lean, 'card_holds'). Laid BY PROGRAM, IN A SANDBOX (cutbox-door.mjs). By AI agents, Wed Nov 11 2026. No macro, syntax, notation, axiom, sorry.
-/
import Derived.Test.YtdmadnfadgggcaaGreatDoorRows
import GoSem.ClaimSeven
namespace Go.Proofs.YtdmadnfadgggcaaGreatDoor
namespace Rows

/-- THE TIED CARD OF 'retargetlaw08.MachineParts'. -/
def machinePartsCard : Claim7 := { stood := { row := machinePartsRow, standIns := [], harness := (true, "428b77eb20aa0638eae00d7aa426ba553b2fc7587b0f013a4ff61f62926774c5"), looks := false }, kinds := [], alts := [], laidByText := true, laidKinds := [.data], laidTests := true, laidLooks := .later }
def MachinePartsCardSaid : Prop := Claim7.holds Tryz.pinned (.plain (OpenSpec.ofChange machinePartsSpec)) machinePartsCard

/-- THE TIED CARD OF 'retargetlaw08.MachineValues'. -/
def machineValuesCard : Claim7 := { stood := { row := machineValuesRow, standIns := [], harness := (true, "428b77eb20aa0638eae00d7aa426ba553b2fc7587b0f013a4ff61f62926774c5"), looks := false }, kinds := [], alts := [], laidByText := true, laidKinds := [.data], laidTests := true, laidLooks := .later }
def MachineValuesCardSaid : Prop := Claim7.holds Tryz.pinned (.plain (OpenSpec.ofChange machineValuesSpec)) machineValuesCard

/-- THE TIED CARD OF 'retargetlaw08.MachineOps'. -/
def machineOpsCard : Claim7 := { stood := { row := machineOpsRow, standIns := [], harness := (true, "428b77eb20aa0638eae00d7aa426ba553b2fc7587b0f013a4ff61f62926774c5"), looks := false }, kinds := [], alts := [], laidByText := true, laidKinds := [.data], laidTests := true, laidLooks := .later }
def MachineOpsCardSaid : Prop := Claim7.holds Tryz.pinned (.plain (OpenSpec.ofChange machineOpsSpec)) machineOpsCard

/-- THE TIED CARD OF 'retargetlaw11.AmbiguousTells'. -/
def ambiguousTellsCard : Claim7 := { stood := { row := ambiguousTellsRow, standIns := [], harness := (true, "428b77eb20aa0638eae00d7aa426ba553b2fc7587b0f013a4ff61f62926774c5"), looks := false }, kinds := [], alts := [], laidByText := true, laidKinds := [.data], laidTests := true, laidLooks := .later }
def AmbiguousTellsCardSaid : Prop := Claim7.holds Tryz.pinned (.plain (OpenSpec.ofChange ambiguousTellsSpec)) ambiguousTellsCard

/-- THE SECOND FORM's CARD OF 'retargetlaw08.MachineParts'. -/
def machinePartsUptoCard : Claim7 := { stood := { row := machinePartsUptoRow, standIns := [], harness := (true, "428b77eb20aa0638eae00d7aa426ba553b2fc7587b0f013a4ff61f62926774c5"), looks := false }, kinds := [], alts := [], laidByText := true, laidKinds := [.data], laidTests := true, laidLooks := .later }
def MachinePartsUptoCardSaid : Prop := Claim7.holds Tryz.pinned (.plain (OpenSpec.upto machinePartsSpec)) machinePartsUptoCard

/-- THE SECOND FORM's CARD OF 'retargetlaw08.MachineValues'. -/
def machineValuesUptoCard : Claim7 := { stood := { row := machineValuesUptoRow, standIns := [], harness := (true, "428b77eb20aa0638eae00d7aa426ba553b2fc7587b0f013a4ff61f62926774c5"), looks := false }, kinds := [], alts := [], laidByText := true, laidKinds := [.data], laidTests := true, laidLooks := .later }
def MachineValuesUptoCardSaid : Prop := Claim7.holds Tryz.pinned (.plain (OpenSpec.upto machineValuesSpec)) machineValuesUptoCard

/-- THE SECOND FORM's CARD OF 'retargetlaw08.MachineOps'. -/
def machineOpsUptoCard : Claim7 := { stood := { row := machineOpsUptoRow, standIns := [], harness := (true, "428b77eb20aa0638eae00d7aa426ba553b2fc7587b0f013a4ff61f62926774c5"), looks := false }, kinds := [], alts := [], laidByText := true, laidKinds := [.data], laidTests := true, laidLooks := .later }
def MachineOpsUptoCardSaid : Prop := Claim7.holds Tryz.pinned (.plain (OpenSpec.upto machineOpsSpec)) machineOpsUptoCard

/-- THE SECOND FORM's CARD OF 'retargetlaw11.AmbiguousTells'. -/
def ambiguousTellsUptoCard : Claim7 := { stood := { row := ambiguousTellsUptoRow, standIns := [], harness := (true, "428b77eb20aa0638eae00d7aa426ba553b2fc7587b0f013a4ff61f62926774c5"), looks := false }, kinds := [], alts := [], laidByText := true, laidKinds := [.data], laidTests := true, laidLooks := .later }
def AmbiguousTellsUptoCardSaid : Prop := Claim7.holds Tryz.pinned (.plain (OpenSpec.upto ambiguousTellsSpec)) ambiguousTellsUptoCard
end Rows
end Go.Proofs.YtdmadnfadgggcaaGreatDoor
