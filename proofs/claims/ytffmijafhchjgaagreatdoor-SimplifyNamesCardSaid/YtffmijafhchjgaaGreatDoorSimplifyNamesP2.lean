/- The run of SimplifyNames, piece 2 of 7, by the kernel. -/
import Derived.Test.YtffmijafhchjgaaGreatDoorSimplifyNamesGl
import Derived.Test.YtffmijafhchjgaaGreatDoorSimplifyNamesS2
import Derived.Test.YtffmijafhchjgaaGreatDoorSimplifyNamesS3
import Derived.KernelRfl
namespace Go.Proofs.YtffmijafhchjgaaGreatDoor.simplifyNames
open Go Go.Play
set_option linter.unusedVariables false
set_option maxRecDepth 1000000
theorem piece2 (u3 : TypeId) (y3 : Value) (u4 : TypeId) (y4 : Value) : cutR s3.keep s3.keeps s3.objs (runM Tryz.prog (gl u3 y3 u4 y4) (runF Tryz.prog (gl u3 y3 u4 y4) 10000000) 64 (s2.f u3 y3 u4 y4) (s2.cs u3 y3 u4 y4) (s2.h u3 y3 u4 y4)) = .next (s3.f u3 y3 u4 y4) (s3.cs u3 y3 u4 y4) (s3.h u3 y3 u4 y4) := by kernel_rfl
end Go.Proofs.YtffmijafhchjgaaGreatDoor.simplifyNames
