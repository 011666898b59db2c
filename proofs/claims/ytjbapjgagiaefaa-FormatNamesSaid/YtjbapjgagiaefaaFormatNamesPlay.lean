/- The run of FormatNames, by the kernel, over Play's evaluator; with what the listed package variables hold. -/
import Derived.Test.YtjbapjgagiaefaaPlayCut
import Derived.Test.YtjbapjgagiaefaaRows
import Derived.KernelRfl
namespace Go.Proofs.Ytjbapjgagiaefaa.formatNames
open Go.Play Go.RowKit
set_option linter.unusedVariables false
set_option maxRecDepth 1000000
def gl  : Glob := []
theorem run  : isTrue (Go.Play.start Try.prog (gl) 10000000 3 [] (.mk .e .nil)) = true := by kernel_rfl
theorem walk (W : World) : Calls Try.prog 3 #[] W fun e w' => e = .returned (.bool true) ∧ Below W.heap.size W w' := play_true run W fun g cs hg => by cases hg
end Go.Proofs.Ytjbapjgagiaefaa.formatNames
