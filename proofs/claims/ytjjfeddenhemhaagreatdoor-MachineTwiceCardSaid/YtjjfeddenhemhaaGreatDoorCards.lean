/-
  DERIVED. GIVEN WITH THE SEED: THE CARDS: each row of YtjjfeddenhemhaaGreatDoorRows.lean that lists a variable, with what it lists TIED to the program's text (the seventh form; the later family's looks); each row that meets fmt, with fmt's text TOLD by the authors' own Lean function (tested against real Go, not proved from fmt's source: count such statements apart). THE CARD IS WHAT COUNTS. Prove the row's statement (the work); the ties are given (YtjjfeddenhemhaaGreatDoorTie.lean); close each card by the builder's one call (the guide's Derived/Test/ToyasCard.lean, 'card_holds'). Laid BY PROGRAM, IN A SANDBOX (cutbox-door.mjs). By AI agents, Wed Nov 11 2026. No macro, syntax, notation, axiom, sorry.
-/
import Derived.Test.YtjjfeddenhemhaaGreatDoorRows
import GoSem.ClaimSeven
namespace Go.Proofs.YtjjfeddenhemhaaGreatDoor
namespace Rows

/-- THE TIED CARD OF 'retargetlaw08.MachineOverlaps'. -/
def machineOverlapsCard : Claim7 := { stood := { row := machineOverlapsRow, standIns := [], harness := (true, "99d53fd9eb257832938e2054a2cf1bdd5fda947490870a50fe734b3675beb1a0"), looks := false }, kinds := [], alts := [], laidByText := true, laidKinds := [.data], laidTests := true, laidLooks := .later }
def MachineOverlapsCardSaid : Prop := Claim7.holds Tryz.pinned (.plain (OpenSpec.ofChange machineOverlapsSpec)) machineOverlapsCard

/-- THE TIED CARD OF 'retargetlaw08.MachineKeeps'. -/
def machineKeepsCard : Claim7 := { stood := { row := machineKeepsRow, standIns := [], harness := (true, "99d53fd9eb257832938e2054a2cf1bdd5fda947490870a50fe734b3675beb1a0"), looks := false }, kinds := [], alts := [], laidByText := true, laidKinds := [.data], laidTests := true, laidLooks := .later }
def MachineKeepsCardSaid : Prop := Claim7.holds Tryz.pinned (.plain (OpenSpec.ofChange machineKeepsSpec)) machineKeepsCard

/-- THE TIED CARD OF 'retargetlaw08.MachineTwice'. -/
def machineTwiceCard : Claim7 := { stood := { row := machineTwiceRow, standIns := [], harness := (true, "99d53fd9eb257832938e2054a2cf1bdd5fda947490870a50fe734b3675beb1a0"), looks := false }, kinds := [], alts := [], laidByText := true, laidKinds := [.data], laidTests := true, laidLooks := .later }
def MachineTwiceCardSaid : Prop := Claim7.holds Tryz.pinned (.plain (OpenSpec.ofChange machineTwiceSpec)) machineTwiceCard

/-- THE TIED CARD OF 'retargetlaw08.MachineFields'. -/
def machineFieldsCard : Claim7 := { stood := { row := machineFieldsRow, standIns := [], harness := (true, "99d53fd9eb257832938e2054a2cf1bdd5fda947490870a50fe734b3675beb1a0"), looks := false }, kinds := [], alts := [], laidByText := true, laidKinds := [.data], laidTests := true, laidLooks := .later }
def MachineFieldsCardSaid : Prop := Claim7.holds Tryz.pinned (.plain (OpenSpec.ofChange machineFieldsSpec)) machineFieldsCard

/-- THE SECOND FORM's CARD OF 'retargetlaw08.MachineOverlaps'. -/
def machineOverlapsUptoCard : Claim7 := { stood := { row := machineOverlapsUptoRow, standIns := [], harness := (true, "99d53fd9eb257832938e2054a2cf1bdd5fda947490870a50fe734b3675beb1a0"), looks := false }, kinds := [], alts := [], laidByText := true, laidKinds := [.data], laidTests := true, laidLooks := .later }
def MachineOverlapsUptoCardSaid : Prop := Claim7.holds Tryz.pinned (.plain (OpenSpec.upto machineOverlapsSpec)) machineOverlapsUptoCard

/-- THE SECOND FORM's CARD OF 'retargetlaw08.MachineKeeps'. -/
def machineKeepsUptoCard : Claim7 := { stood := { row := machineKeepsUptoRow, standIns := [], harness := (true, "99d53fd9eb257832938e2054a2cf1bdd5fda947490870a50fe734b3675beb1a0"), looks := false }, kinds := [], alts := [], laidByText := true, laidKinds := [.data], laidTests := true, laidLooks := .later }
def MachineKeepsUptoCardSaid : Prop := Claim7.holds Tryz.pinned (.plain (OpenSpec.upto machineKeepsSpec)) machineKeepsUptoCard

/-- THE SECOND FORM's CARD OF 'retargetlaw08.MachineTwice'. -/
def machineTwiceUptoCard : Claim7 := { stood := { row := machineTwiceUptoRow, standIns := [], harness := (true, "99d53fd9eb257832938e2054a2cf1bdd5fda947490870a50fe734b3675beb1a0"), looks := false }, kinds := [], alts := [], laidByText := true, laidKinds := [.data], laidTests := true, laidLooks := .later }
def MachineTwiceUptoCardSaid : Prop := Claim7.holds Tryz.pinned (.plain (OpenSpec.upto machineTwiceSpec)) machineTwiceUptoCard

/-- THE SECOND FORM's CARD OF 'retargetlaw08.MachineFields'. -/
def machineFieldsUptoCard : Claim7 := { stood := { row := machineFieldsUptoRow, standIns := [], harness := (true, "99d53fd9eb257832938e2054a2cf1bdd5fda947490870a50fe734b3675beb1a0"), looks := false }, kinds := [], alts := [], laidByText := true, laidKinds := [.data], laidTests := true, laidLooks := .later }
def MachineFieldsUptoCardSaid : Prop := Claim7.holds Tryz.pinned (.plain (OpenSpec.upto machineFieldsSpec)) machineFieldsUptoCard
end Rows
end Go.Proofs.YtjjfeddenhemhaaGreatDoor
