/- The run of SolveNames, piece 1 of 2, by the kernel. -/
import Derived.Test.YtmgoabhffobglaaSolveNamesGl
import Derived.Test.YtmgoabhffobglaaSolveNamesS1
import Derived.KernelRfl
namespace Go.Proofs.Ytmgoabhffobglaa.solveNames
open Go Go.Play
set_option linter.unusedVariables false
set_option maxRecDepth 1000000
theorem piece1  : isTrue (runM Try.prog (gl) (runF Try.prog (gl) 10000000) 6000 (s1.f) (s1.cs) (s1.h)) = true := by kernel_rfl
end Go.Proofs.Ytmgoabhffobglaa.solveNames
