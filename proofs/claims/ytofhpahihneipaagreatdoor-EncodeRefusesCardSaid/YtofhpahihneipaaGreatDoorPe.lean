import Derived.Test.YtofhpahihneipaaGreatDoorGp
import Derived.Test.YtofhpahihneipaaGreatDoorGe
import Derived.WideShapes
set_option linter.unusedVariables false
set_option linter.unusedSimpArgs false
set_option warningAsError false
namespace Go.Proofs.YtofhpahihneipaaGreatDoor
open Go.RowKit Go.Instr
set_option maxRecDepth 100000
theorem Says.later {α:Type} {E:World->List Value->α->Prop} {w w':World} {g:Nat} {lb:Array Value} {p:α->Bool} {L:List α} (h:Says E w g lb p L) (hb:Below w.heap.size w w'):Says E w' g lb p L:=
 fun W hW x hx cs hE=>h W (hb.trans (hW.mono hb.size)) x hx cs hE
end Go.Proofs.YtofhpahihneipaaGreatDoor
namespace Go.Proofs.YtofhpahihneipaaGreatDoor
open Go.RowKit Go.Instr Go.Sort
set_option maxRecDepth 100000
def u64E (w:World) (cs:List Value) (x:Nat):Prop:=cs=[.int .u64 (x:Nat)]/\x<18446744073709551616
theorem u64E.kept {w w':World} {cs:List Value} {x:Nat} (h:u64E w cs x) (hb:Below w.heap.size w w'):u64E w' cs x:=h
end Go.Proofs.YtofhpahihneipaaGreatDoor
namespace Go.Proofs.YtofhpahihneipaaGreatDoor
open Go.RowKit Go.Instr Go.Sort Go.Lib
set_option maxRecDepth 100000
theorem zgv {n:Int} (h:(Lit.int .u64 n).wf=true):∃ x:Nat,n=(x:Int)/\x<18446744073709551616:=by simp [Lit.wf,IntKind.min,IntKind.max,IntKind.bits,IntKind.signed] at h;exact ⟨n.toNat,by omega,by omega⟩
end Go.Proofs.YtofhpahihneipaaGreatDoor
