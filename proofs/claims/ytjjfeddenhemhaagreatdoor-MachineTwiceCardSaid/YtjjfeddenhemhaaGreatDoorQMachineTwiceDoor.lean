import Derived.Test.YtjjfeddenhemhaaGreatDoorRows
import Derived.LaidMore
import Derived.ProofKit
namespace Go.Proofs.YtjjfeddenhemhaaGreatDoor.machineTwice
open Go.RowKit
theorem door_shaped (os : Os) (args : Array Value) : ((World.doorLaid Tryz.prog 38 os).forCall (fun _ _ => 0) ⟨#[], args, []⟩).Shaped Tryz.prog :=
 World.shaped_of_RefB (by kernel_rfl) (by kernel_rfl)
theorem door_met (os : Os) (args : Array Value) : laidMetH Tryz.prog Rows.machineTwiceRow.laid ((World.doorLaid Tryz.prog 38 os).forCall (fun _ _ => 0) ⟨#[], args, []⟩).memory :=
 laidMetH_of_parts3 (fuel := 8) (laidMet_of_run' 8 (by kernel_rfl) (by kernel_rfl)) (by kernel_rfl) (by kernel_rfl)
end Go.Proofs.YtjjfeddenhemhaaGreatDoor.machineTwice
