/- The run of SimplifyNames, piece 6 of 7, by the kernel. -/
import Derived.Test.YtffmijafhchjgaaGreatDoorSimplifyNamesGl
import Derived.Test.YtffmijafhchjgaaGreatDoorSimplifyNamesS6
import Derived.KernelRfl
namespace Go.Proofs.YtffmijafhchjgaaGreatDoor.simplifyNames
open Go Go.Play
set_option linter.unusedVariables false
set_option maxRecDepth 1000000
theorem piece6 (u3 : TypeId) (y3 : Value) (u4 : TypeId) (y4 : Value) : isTrue (runM Tryz.prog (gl u3 y3 u4 y4) (runF Tryz.prog (gl u3 y3 u4 y4) 10000000) 2285 (s6.f u3 y3 u4 y4) (s6.cs u3 y3 u4 y4) (s6.h u3 y3 u4 y4)) = true := by kernel_rfl
end Go.Proofs.YtffmijafhchjgaaGreatDoor.simplifyNames
