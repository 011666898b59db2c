/- The run of TermNames, piece 0 of 9, by the kernel. -/
import Derived.Test.YteoegpkfdbcklaaGreatDoorTermNamesGl
import Derived.Test.YteoegpkfdbcklaaGreatDoorTermNamesS1
import Derived.KernelRfl
namespace Go.Proofs.YteoegpkfdbcklaaGreatDoor.termNames
open Go Go.Play
set_option linter.unusedVariables false
set_option maxRecDepth 1000000
theorem piece0 (u3 : TypeId) (y3 : Value) (u4 : TypeId) (y4 : Value) : cutR s1.keep s1.keeps s1.objs (startM Tryz.prog (gl u3 y3 u4 y4) 10000000 6000 3 [] (.mk .e .nil)) = .next (s1.f u3 y3 u4 y4) (s1.cs u3 y3 u4 y4) (s1.h u3 y3 u4 y4) := by kernel_rfl
end Go.Proofs.YteoegpkfdbcklaaGreatDoor.termNames
