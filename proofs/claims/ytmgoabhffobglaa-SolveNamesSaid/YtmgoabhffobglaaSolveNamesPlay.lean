/- The run of SolveNames, by the kernel, over Play's evaluator; with what the listed package variables hold. -/
import Derived.Test.YtmgoabhffobglaaSolveNamesP0
import Derived.Test.YtmgoabhffobglaaSolveNamesP1
import Derived.Test.YtmgoabhffobglaaRows
import Derived.KernelRfl
namespace Go.Proofs.Ytmgoabhffobglaa.solveNames
open Go.Play Go.RowKit
set_option linter.unusedVariables false
set_option maxRecDepth 1000000
theorem good  : Good Try.prog (gl) (s1.f) (s1.cs) (s1.h) := good_last (piece1)
theorem walk (W : World) : Calls Try.prog 3 #[] W fun e w' => e = .returned (.bool true) ∧ Below W.heap.size W w' := play_pieces piece0 good W fun g cs hg => by cases hg
end Go.Proofs.Ytmgoabhffobglaa.solveNames
