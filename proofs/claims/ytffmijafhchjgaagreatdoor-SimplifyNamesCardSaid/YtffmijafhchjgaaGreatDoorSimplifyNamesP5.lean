/- The run of SimplifyNames, piece 5 of 7, by the kernel. -/
import Derived.Test.YtffmijafhchjgaaGreatDoorSimplifyNamesGl
import Derived.Test.YtffmijafhchjgaaGreatDoorSimplifyNamesS5
import Derived.Test.YtffmijafhchjgaaGreatDoorSimplifyNamesS6
import Derived.KernelRfl
namespace Go.Proofs.YtffmijafhchjgaaGreatDoor.simplifyNames
open Go Go.Play
set_option linter.unusedVariables false
set_option maxRecDepth 1000000
theorem piece5 (u3 : TypeId) (y3 : Value) (u4 : TypeId) (y4 : Value) : cutR s6.keep s6.keeps s6.objs (runM Tryz.prog (gl u3 y3 u4 y4) (runF Tryz.prog (gl u3 y3 u4 y4) 10000000) 1080 (s5.f u3 y3 u4 y4) (s5.cs u3 y3 u4 y4) (s5.h u3 y3 u4 y4)) = .next (s6.f u3 y3 u4 y4) (s6.cs u3 y3 u4 y4) (s6.h u3 y3 u4 y4) := by kernel_rfl
end Go.Proofs.YtffmijafhchjgaaGreatDoor.simplifyNames
