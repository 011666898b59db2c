import Derived.Test.YtofhpahihneipaaGreatDoorQMachOpenOp
import Derived.Test.YtofhpahihneipaaGreatDoorGr
import Derived.Test.YtofhpahihneipaaGreatDoorPf
set_option linter.unusedVariables false
set_option linter.unusedSimpArgs false
set_option warningAsError false
namespace Go.Proofs.YtofhpahihneipaaGreatDoor
open Go.RowKit Go.Instr Go.Sort
set_option maxRecDepth 100000
def iRow (V:List Int):List Value:=V.map fun (x:Int)=>Value.int .i64 x
theorem zku {w:World} {base:Nat} {v:Value} {l:List Int} (h:w.ownsRow base 3 1 v l.length (iRow l)) (hl:l.length<=maxLen) (hz:∀ x∈l,-9223372036854775808<=x/\x<=9223372036854775807):zd 1 intE w v l:=by
 obtain ⟨_,h|⟨g,cap,cur,hv,_,hh,hc,hm,_,ht⟩⟩:=h
 ·have h0:l=[]:=List.length_eq_zero_iff.1 h.2;subst h0;exact ⟨none,0,h.1,by simp,by simp,by simp,fun i x hx=>by simp at hx⟩
 ·refine ⟨some ⟨g,0,none⟩,cap,hv,hl,hc,hm,fun i x hli=>?_⟩;have hil:=(List.getElem?_eq_some_iff.1 hli).1;refine ⟨g,0,[.int .i64 x],rfl,(Array.getElem?_eq_some_iff.1 hh).1,rfl,fun j u hj=>?_,rfl,hz x (List.mem_of_getElem? hli)⟩
  cases j with
  | succ j=>simp at hj
  | zero=>simp at hj;subst hj;refine zb hh ?_;have e:(cur.toList.take (l.length*1))[i]? =some (.int .i64 x):=(by rw [ht];unfold iRow;rw [List.getElem?_map,hli];rfl);rw [List.getElem?_take] at e;simp only [Nat.mul_one,hil,if_true] at e;simpa using e
end Go.Proofs.YtofhpahihneipaaGreatDoor
