/- The run of SolveNames, piece 0 of 2, by the kernel. -/
import Derived.Test.YtmgoabhffobglaaSolveNamesGl
import Derived.Test.YtmgoabhffobglaaSolveNamesS1
import Derived.KernelRfl
namespace Go.Proofs.Ytmgoabhffobglaa.solveNames
open Go Go.Play
set_option linter.unusedVariables false
set_option maxRecDepth 1000000
theorem piece0  : cutR s1.keep s1.keeps s1.objs (startM Try.prog (gl) 10000000 1500 3 [] (.mk .e .nil)) = .next (s1.f) (s1.cs) (s1.h) := by kernel_rfl
end Go.Proofs.Ytmgoabhffobglaa.solveNames
