/- The run of TermNames, piece 6 of 9, by the kernel. -/
import Derived.Test.YteoegpkfdbcklaaGreatDoorTermNamesGl
import Derived.Test.YteoegpkfdbcklaaGreatDoorTermNamesS6
import Derived.Test.YteoegpkfdbcklaaGreatDoorTermNamesS7
import Derived.KernelRfl
namespace Go.Proofs.YteoegpkfdbcklaaGreatDoor.termNames
open Go Go.Play
set_option linter.unusedVariables false
set_option maxRecDepth 1000000
theorem piece6 (u3 : TypeId) (y3 : Value) (u4 : TypeId) (y4 : Value) : cutR s7.keep s7.keeps s7.objs (runM Tryz.prog (gl u3 y3 u4 y4) (runF Tryz.prog (gl u3 y3 u4 y4) 10000000) 6025 (s6.f u3 y3 u4 y4) (s6.cs u3 y3 u4 y4) (s6.h u3 y3 u4 y4)) = .next (s7.f u3 y3 u4 y4) (s7.cs u3 y3 u4 y4) (s7.h u3 y3 u4 y4) := by kernel_rfl
end Go.Proofs.YteoegpkfdbcklaaGreatDoor.termNames
