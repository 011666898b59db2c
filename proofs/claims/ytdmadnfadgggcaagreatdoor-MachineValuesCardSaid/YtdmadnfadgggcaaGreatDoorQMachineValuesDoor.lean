import Derived.Test.YtdmadnfadgggcaaGreatDoorRows
import Derived.LaidMore
import Derived.ProofKit
set_option linter.unusedVariables false
set_option linter.unusedSimpArgs false
set_option warningAsError false
open Go.Proofs.Tryz (prog)
namespace Go.Proofs.YtdmadnfadgggcaaGreatDoor.machineValues
open Go.RowKit
theorem door_shaped (os : Os) (args : Array Value) : ((World.doorLaid prog 38 os).forCall (fun _ _ => 0) ⟨#[], args, []⟩).Shaped prog :=
 World.shaped_of_RefB (by kernel_rfl) (by kernel_rfl)
theorem door_met (os : Os) (args : Array Value) : laidMetH prog Rows.machineValuesRow.laid ((World.doorLaid prog 38 os).forCall (fun _ _ => 0) ⟨#[], args, []⟩).memory :=
 laidMetH_of_parts3 (fuel := 8) (laidMet_of_run' 8 (by kernel_rfl) (by kernel_rfl)) (by kernel_rfl) (by kernel_rfl)
end Go.Proofs.YtdmadnfadgggcaaGreatDoor.machineValues
