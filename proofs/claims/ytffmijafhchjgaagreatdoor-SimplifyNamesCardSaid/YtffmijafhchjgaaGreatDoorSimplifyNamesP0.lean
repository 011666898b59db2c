/- The run of SimplifyNames, piece 0 of 7, by the kernel. -/
import Derived.Test.YtffmijafhchjgaaGreatDoorSimplifyNamesGl
import Derived.Test.YtffmijafhchjgaaGreatDoorSimplifyNamesS1
import Derived.KernelRfl
namespace Go.Proofs.YtffmijafhchjgaaGreatDoor.simplifyNames
open Go Go.Play
set_option linter.unusedVariables false
set_option maxRecDepth 1000000
theorem piece0 (u3 : TypeId) (y3 : Value) (u4 : TypeId) (y4 : Value) : cutR s1.keep s1.keeps s1.objs (startM Tryz.prog (gl u3 y3 u4 y4) 10000000 120 3 [] (.mk .e .nil)) = .next (s1.f u3 y3 u4 y4) (s1.cs u3 y3 u4 y4) (s1.h u3 y3 u4 y4) := by kernel_rfl
end Go.Proofs.YtffmijafhchjgaaGreatDoor.simplifyNames
