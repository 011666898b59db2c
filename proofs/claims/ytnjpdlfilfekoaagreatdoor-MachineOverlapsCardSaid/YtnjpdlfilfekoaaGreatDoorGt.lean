import Derived.Test.YtnjpdlfilfekoaaGreatDoorGs
import Derived.Test.YtnjpdlfilfekoaaGreatDoorGe
namespace Go.Proofs.YtnjpdlfilfekoaaGreatDoor
open Go.RowKit Go.Instr
set_option linter.unusedVariables false
set_option linter.unusedSimpArgs false
set_option maxRecDepth 100000
theorem ztk : (Tryz.prog.info? 29).map (fun i => (i.zero, i.size, i.bytes)) = some (some (.int .u64 0), 1, 8) := by kernel_rfl
end Go.Proofs.YtnjpdlfilfekoaaGreatDoor
