/- The run of TermNames, piece 8 of 9, by the kernel. -/
import Derived.Test.YteoegpkfdbcklaaGreatDoorTermNamesGl
import Derived.Test.YteoegpkfdbcklaaGreatDoorTermNamesS8
import Derived.KernelRfl
namespace Go.Proofs.YteoegpkfdbcklaaGreatDoor.termNames
open Go Go.Play
set_option linter.unusedVariables false
set_option maxRecDepth 1000000
theorem piece8 (u3 : TypeId) (y3 : Value) (u4 : TypeId) (y4 : Value) : isTrue (runM Tryz.prog (gl u3 y3 u4 y4) (runF Tryz.prog (gl u3 y3 u4 y4) 10000000) 13319 (s8.f u3 y3 u4 y4) (s8.cs u3 y3 u4 y4) (s8.h u3 y3 u4 y4)) = true := by kernel_rfl
end Go.Proofs.YteoegpkfdbcklaaGreatDoor.termNames
