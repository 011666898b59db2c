/- The run of SimplifyNames, piece 4 of 7, by the kernel. -/
import Derived.Test.YtffmijafhchjgaaGreatDoorSimplifyNamesGl
import Derived.Test.YtffmijafhchjgaaGreatDoorSimplifyNamesS4
import Derived.Test.YtffmijafhchjgaaGreatDoorSimplifyNamesS5
import Derived.KernelRfl
namespace Go.Proofs.YtffmijafhchjgaaGreatDoor.simplifyNames
open Go Go.Play
set_option linter.unusedVariables false
set_option maxRecDepth 1000000
theorem piece4 (u3 : TypeId) (y3 : Value) (u4 : TypeId) (y4 : Value) : cutR s5.keep s5.keeps s5.objs (runM Tryz.prog (gl u3 y3 u4 y4) (runF Tryz.prog (gl u3 y3 u4 y4) 10000000) 304 (s4.f u3 y3 u4 y4) (s4.cs u3 y3 u4 y4) (s4.h u3 y3 u4 y4)) = .next (s5.f u3 y3 u4 y4) (s5.cs u3 y3 u4 y4) (s5.h u3 y3 u4 y4) := by kernel_rfl
end Go.Proofs.YtffmijafhchjgaaGreatDoor.simplifyNames
