/-
  DERIVED. GIVEN WITH THE SEED: THE CARDS: each row of YtnjpdlfilfekoaaGreatDoorRows.lean that lists a variable, with what it lists TIED to the program's text (the seventh form; the later family's looks); each row that meets fmt, with fmt's text TOLD by the authors' own Lean function (tested against real Go, not proved from fmt's source: count such statements apart). THE CARD IS WHAT COUNTS. Prove the row's statement (the work); the ties are given (YtnjpdlfilfekoaaGreatDoorTie.lean); close each card by the builder's one call (the guide's Derived/Test/ToyasCard.lean, 'card_holds'). Laid BY PROGRAM, IN A SANDBOX (cutbox-door.mjs). By AI agents, Wed Nov 11 2026. No macro, syntax, notation, axiom, sorry.
-/
import Derived.Test.YtnjpdlfilfekoaaGreatDoorRows
import GoSem.ClaimSeven
namespace Go.Proofs.YtnjpdlfilfekoaaGreatDoor
namespace Rows

/-- THE TIED CARD OF 'retargetlaw08.MachineTwice'. -/
def machineTwiceCard : Claim7 := { stood := { row := machineTwiceRow, standIns := [], harness := (true, "3d1133560e3c7b1b0856a2f86f2033fc664113fc8301c447ac123907aa7f7993"), looks := false }, kinds := [], alts := [], laidByText := true, laidKinds := [.data], laidTests := true, laidLooks := .later }
def MachineTwiceCardSaid : Prop := Claim7.holds Tryz.pinned (.plain (OpenSpec.ofChange machineTwiceSpec)) machineTwiceCard

/-- THE TIED CARD OF 'retargetlaw08.MachineKeeps'. -/
def machineKeepsCard : Claim7 := { stood := { row := machineKeepsRow, standIns := [], harness := (true, "3d1133560e3c7b1b0856a2f86f2033fc664113fc8301c447ac123907aa7f7993"), looks := false }, kinds := [], alts := [], laidByText := true, laidKinds := [.data], laidTests := true, laidLooks := .later }
def MachineKeepsCardSaid : Prop := Claim7.holds Tryz.pinned (.plain (OpenSpec.ofChange machineKeepsSpec)) machineKeepsCard

/-- THE TIED CARD OF 'retargetlaw08.MachineOverlaps'. -/
def machineOverlapsCard : Claim7 := { stood := { row := machineOverlapsRow, standIns := [], harness := (true, "3d1133560e3c7b1b0856a2f86f2033fc664113fc8301c447ac123907aa7f7993"), looks := false }, kinds := [], alts := [], laidByText := true, laidKinds := [.data], laidTests := true, laidLooks := .later }
def MachineOverlapsCardSaid : Prop := Claim7.holds Tryz.pinned (.plain (OpenSpec.ofChange machineOverlapsSpec)) machineOverlapsCard

/-- THE TIED CARD OF 'retargetlaw08.MachineFields'. -/
def machineFieldsCard : Claim7 := { stood := { row := machineFieldsRow, standIns := [], harness := (true, "3d1133560e3c7b1b0856a2f86f2033fc664113fc8301c447ac123907aa7f7993"), looks := false }, kinds := [], alts := [], laidByText := true, laidKinds := [.data], laidTests := true, laidLooks := .later }
def MachineFieldsCardSaid : Prop := Claim7.holds Tryz.pinned (.plain (OpenSpec.ofChange machineFieldsSpec)) machineFieldsCard

/-- THE TIED CARD OF 'retargetlaw08.MachineNames'. -/
def machineNamesCard : Claim7 := { stood := { row := machineNamesRow, standIns := [], harness := (true, "3d1133560e3c7b1b0856a2f86f2033fc664113fc8301c447ac123907aa7f7993"), looks := false }, kinds := [], alts := [], laidByText := true, laidKinds := [.data], laidTests := true, laidLooks := .later }
def MachineNamesCardSaid : Prop := Claim7.holds Tryz.pinned (.plain (OpenSpec.ofChange machineNamesSpec)) machineNamesCard

/-- THE TIED CARD OF 'retargetlaw11.AmbiguousNames'. -/
def ambiguousNamesCard : Claim7 := { stood := { row := ambiguousNamesRow, standIns := [], harness := (true, "3d1133560e3c7b1b0856a2f86f2033fc664113fc8301c447ac123907aa7f7993"), looks := false }, kinds := [], alts := [], laidByText := true, laidKinds := [.data], laidTests := true, laidLooks := .later }
def AmbiguousNamesCardSaid : Prop := Claim7.holds Tryz.pinned (.plain (OpenSpec.ofChange ambiguousNamesSpec)) ambiguousNamesCard

/-- THE TIED CARD OF 'retargetlaw12.EncodeNames'. -/
def encodeNamesCard : Claim7 := { stood := { row := encodeNamesRow, standIns := [], harness := (true, "3d1133560e3c7b1b0856a2f86f2033fc664113fc8301c447ac123907aa7f7993"), looks := false }, kinds := [], alts := [], laidByText := true, laidKinds := [.data], laidTests := true, laidLooks := .later }
def EncodeNamesCardSaid : Prop := Claim7.holds Tryz.pinned (.plain (OpenSpec.ofChange encodeNamesSpec)) encodeNamesCard

/-- THE TIED CARD OF 'retargetlaw12.EncodeBack'. -/
def encodeBackCard : Claim7 := { stood := { row := encodeBackRow, standIns := [], harness := (true, "3d1133560e3c7b1b0856a2f86f2033fc664113fc8301c447ac123907aa7f7993"), looks := false }, kinds := [], alts := [], laidByText := true, laidKinds := [.data], laidTests := true, laidLooks := .later }
def EncodeBackCardSaid : Prop := Claim7.holds Tryz.pinned (.plain (OpenSpec.ofChange encodeBackSpec)) encodeBackCard

/-- THE TIED CARD OF 'retargetlaw12.EncodeDiffers'. -/
def encodeDiffersCard : Claim7 := { stood := { row := encodeDiffersRow, standIns := [], harness := (true, "3d1133560e3c7b1b0856a2f86f2033fc664113fc8301c447ac123907aa7f7993"), looks := false }, kinds := [], alts := [], laidByText := true, laidKinds := [.data], laidTests := true, laidLooks := .later }
def EncodeDiffersCardSaid : Prop := Claim7.holds Tryz.pinned (.plain (OpenSpec.ofChange encodeDiffersSpec)) encodeDiffersCard

/-- THE TIED CARD OF 'retargetlaw12.EncodeRefuses'. -/
def encodeRefusesCard : Claim7 := { stood := { row := encodeRefusesRow, standIns := [], harness := (true, "3d1133560e3c7b1b0856a2f86f2033fc664113fc8301c447ac123907aa7f7993"), looks := false }, kinds := [], alts := [], laidByText := true, laidKinds := [.data], laidTests := true, laidLooks := .later }
def EncodeRefusesCardSaid : Prop := Claim7.holds Tryz.pinned (.plain (OpenSpec.ofChange encodeRefusesSpec)) encodeRefusesCard

/-- THE TIED CARD OF 'retargetlaw12.EncodeWords'. -/
def encodeWordsCard : Claim7 := { stood := { row := encodeWordsRow, standIns := [], harness := (true, "3d1133560e3c7b1b0856a2f86f2033fc664113fc8301c447ac123907aa7f7993"), looks := false }, kinds := [], alts := [], laidByText := true, laidKinds := [.data], laidTests := true, laidLooks := .later }
def EncodeWordsCardSaid : Prop := Claim7.holds Tryz.pinned (.plain (OpenSpec.ofChange encodeWordsSpec)) encodeWordsCard

/-- THE TIED CARD OF 'retargetlaw12.EncodeProgram'. -/
def encodeProgramCard : Claim7 := { stood := { row := encodeProgramRow, standIns := [], harness := (true, "3d1133560e3c7b1b0856a2f86f2033fc664113fc8301c447ac123907aa7f7993"), looks := false }, kinds := [], alts := [], laidByText := true, laidKinds := [.data], laidTests := true, laidLooks := .later }
def EncodeProgramCardSaid : Prop := Claim7.holds Tryz.pinned (.plain (OpenSpec.ofChange encodeProgramSpec)) encodeProgramCard

/-- THE SECOND FORM's CARD OF 'retargetlaw08.MachineTwice'. -/
def machineTwiceUptoCard : Claim7 := { stood := { row := machineTwiceUptoRow, standIns := [], harness := (true, "3d1133560e3c7b1b0856a2f86f2033fc664113fc8301c447ac123907aa7f7993"), looks := false }, kinds := [], alts := [], laidByText := true, laidKinds := [.data], laidTests := true, laidLooks := .later }
def MachineTwiceUptoCardSaid : Prop := Claim7.holds Tryz.pinned (.plain (OpenSpec.upto machineTwiceSpec)) machineTwiceUptoCard

/-- THE SECOND FORM's CARD OF 'retargetlaw08.MachineKeeps'. -/
def machineKeepsUptoCard : Claim7 := { stood := { row := machineKeepsUptoRow, standIns := [], harness := (true, "3d1133560e3c7b1b0856a2f86f2033fc664113fc8301c447ac123907aa7f7993"), looks := false }, kinds := [], alts := [], laidByText := true, laidKinds := [.data], laidTests := true, laidLooks := .later }
def MachineKeepsUptoCardSaid : Prop := Claim7.holds Tryz.pinned (.plain (OpenSpec.upto machineKeepsSpec)) machineKeepsUptoCard

/-- THE SECOND FORM's CARD OF 'retargetlaw08.MachineOverlaps'. -/
def machineOverlapsUptoCard : Claim7 := { stood := { row := machineOverlapsUptoRow, standIns := [], harness := (true, "3d1133560e3c7b1b0856a2f86f2033fc664113fc8301c447ac123907aa7f7993"), looks := false }, kinds := [], alts := [], laidByText := true, laidKinds := [.data], laidTests := true, laidLooks := .later }
def MachineOverlapsUptoCardSaid : Prop := Claim7.holds Tryz.pinned (.plain (OpenSpec.upto machineOverlapsSpec)) machineOverlapsUptoCard

/-- THE SECOND FORM's CARD OF 'retargetlaw08.MachineFields'. -/
def machineFieldsUptoCard : Claim7 := { stood := { row := machineFieldsUptoRow, standIns := [], harness := (true, "3d1133560e3c7b1b0856a2f86f2033fc664113fc8301c447ac123907aa7f7993"), looks := false }, kinds := [], alts := [], laidByText := true, laidKinds := [.data], laidTests := true, laidLooks := .later }
def MachineFieldsUptoCardSaid : Prop := Claim7.holds Tryz.pinned (.plain (OpenSpec.upto machineFieldsSpec)) machineFieldsUptoCard

/-- THE SECOND FORM's CARD OF 'retargetlaw08.MachineNames'. -/
def machineNamesUptoCard : Claim7 := { stood := { row := machineNamesUptoRow, standIns := [], harness := (true, "3d1133560e3c7b1b0856a2f86f2033fc664113fc8301c447ac123907aa7f7993"), looks := false }, kinds := [], alts := [], laidByText := true, laidKinds := [.data], laidTests := true, laidLooks := .later }
def MachineNamesUptoCardSaid : Prop := Claim7.holds Tryz.pinned (.plain (OpenSpec.upto machineNamesSpec)) machineNamesUptoCard

/-- THE SECOND FORM's CARD OF 'retargetlaw11.AmbiguousNames'. -/
def ambiguousNamesUptoCard : Claim7 := { stood := { row := ambiguousNamesUptoRow, standIns := [], harness := (true, "3d1133560e3c7b1b0856a2f86f2033fc664113fc8301c447ac123907aa7f7993"), looks := false }, kinds := [], alts := [], laidByText := true, laidKinds := [.data], laidTests := true, laidLooks := .later }
def AmbiguousNamesUptoCardSaid : Prop := Claim7.holds Tryz.pinned (.plain (OpenSpec.upto ambiguousNamesSpec)) ambiguousNamesUptoCard

/-- THE SECOND FORM's CARD OF 'retargetlaw12.EncodeNames'. -/
def encodeNamesUptoCard : Claim7 := { stood := { row := encodeNamesUptoRow, standIns := [], harness := (true, "3d1133560e3c7b1b0856a2f86f2033fc664113fc8301c447ac123907aa7f7993"), looks := false }, kinds := [], alts := [], laidByText := true, laidKinds := [.data], laidTests := true, laidLooks := .later }
def EncodeNamesUptoCardSaid : Prop := Claim7.holds Tryz.pinned (.plain (OpenSpec.upto encodeNamesSpec)) encodeNamesUptoCard

/-- THE SECOND FORM's CARD OF 'retargetlaw12.EncodeBack'. -/
def encodeBackUptoCard : Claim7 := { stood := { row := encodeBackUptoRow, standIns := [], harness := (true, "3d1133560e3c7b1b0856a2f86f2033fc664113fc8301c447ac123907aa7f7993"), looks := false }, kinds := [], alts := [], laidByText := true, laidKinds := [.data], laidTests := true, laidLooks := .later }
def EncodeBackUptoCardSaid : Prop := Claim7.holds Tryz.pinned (.plain (OpenSpec.upto encodeBackSpec)) encodeBackUptoCard

/-- THE SECOND FORM's CARD OF 'retargetlaw12.EncodeDiffers'. -/
def encodeDiffersUptoCard : Claim7 := { stood := { row := encodeDiffersUptoRow, standIns := [], harness := (true, "3d1133560e3c7b1b0856a2f86f2033fc664113fc8301c447ac123907aa7f7993"), looks := false }, kinds := [], alts := [], laidByText := true, laidKinds := [.data], laidTests := true, laidLooks := .later }
def EncodeDiffersUptoCardSaid : Prop := Claim7.holds Tryz.pinned (.plain (OpenSpec.upto encodeDiffersSpec)) encodeDiffersUptoCard

/-- THE SECOND FORM's CARD OF 'retargetlaw12.EncodeRefuses'. -/
def encodeRefusesUptoCard : Claim7 := { stood := { row := encodeRefusesUptoRow, standIns := [], harness := (true, "3d1133560e3c7b1b0856a2f86f2033fc664113fc8301c447ac123907aa7f7993"), looks := false }, kinds := [], alts := [], laidByText := true, laidKinds := [.data], laidTests := true, laidLooks := .later }
def EncodeRefusesUptoCardSaid : Prop := Claim7.holds Tryz.pinned (.plain (OpenSpec.upto encodeRefusesSpec)) encodeRefusesUptoCard

/-- THE SECOND FORM's CARD OF 'retargetlaw12.EncodeWords'. -/
def encodeWordsUptoCard : Claim7 := { stood := { row := encodeWordsUptoRow, standIns := [], harness := (true, "3d1133560e3c7b1b0856a2f86f2033fc664113fc8301c447ac123907aa7f7993"), looks := false }, kinds := [], alts := [], laidByText := true, laidKinds := [.data], laidTests := true, laidLooks := .later }
def EncodeWordsUptoCardSaid : Prop := Claim7.holds Tryz.pinned (.plain (OpenSpec.upto encodeWordsSpec)) encodeWordsUptoCard

/-- THE SECOND FORM's CARD OF 'retargetlaw12.EncodeProgram'. -/
def encodeProgramUptoCard : Claim7 := { stood := { row := encodeProgramUptoRow, standIns := [], harness := (true, "3d1133560e3c7b1b0856a2f86f2033fc664113fc8301c447ac123907aa7f7993"), looks := false }, kinds := [], alts := [], laidByText := true, laidKinds := [.data], laidTests := true, laidLooks := .later }
def EncodeProgramUptoCardSaid : Prop := Claim7.holds Tryz.pinned (.plain (OpenSpec.upto encodeProgramSpec)) encodeProgramUptoCard
end Rows
end Go.Proofs.YtnjpdlfilfekoaaGreatDoor
