import Derived.Test.YtofhpahihneipaaGreatDoorPe
set_option linter.unusedVariables false
set_option linter.unusedSimpArgs false
set_option warningAsError false
open Go.Proofs.Tryz (prog)
namespace Go.Proofs.YtofhpahihneipaaGreatDoor
open Go.RowKit Go.ChangeShapes Go.WideShapes Go.Deep
set_option maxRecDepth 100000
section
variable {H:Type} {enc:TypeId×Value->H} {W:World}
theorem zd9 {base:Nat} {v0:Value} {d0:DataW H} {p0:List MemPlace} (ok:Value.okWide prog W .any base 30 v0)
 (h:DataW.Trod enc prog W 0 (fun _=>true) true 30 v0 d0 p0):∃ (z:Int) (sa:Value) (av:List Int),v0=.agg #[.int .i64 z,sa]/\(-9223372036854775808<=z/\z<=9223372036854775807)/\zd 1 intE W sa av:=by
 obtain ⟨xs,rfl,hsz⟩:=okWide_struct Tryz.underlying30 ok;obtain ⟨fuel,h⟩:=h;have hc:(Value.agg xs).cells.toList=xs.toList:=rfl;rw [hc] at h;obtain ⟨ys,k,_,_,hcl,hxl,hf⟩:=DataW.trod_struct Tryz.underlying30 h;rw [show prog.cellsOf 30=2 by kernel_rfl] at hcl;have e0:prog.cellsOf 3=1:=by kernel_rfl
 have e1:prog.cellsOf 28=1:=by kernel_rfl
 obtain ⟨cs,hcs⟩:∃ cs,xs.toList=cs:=⟨_,rfl⟩;rw [hcs] at hcl hf;obtain rfl:xs=⟨cs⟩:=by cases xs;simpa using hcs
 match ys,hxl,cs,hcl with
 | [y0,y1],_,[v0,v1],_=>have g0:DataW.trod enc prog W 0 (fun _=>true) true k 3 (List.take (prog.cellsOf 3) [v0,v1])=some y0:=hf 0 _ rfl;rw [e0] at g0;obtain ⟨z0,q0,_,w0⟩:=DataW.trod_int Tryz.underlying3 g0;simp only [List.take_succ_cons,List.take_zero,List.cons.injEq,and_true] at q0;subst q0;have g1:DataW.trod enc prog W 0 (fun _=>true) true k 28 (List.take (prog.cellsOf 28) [v1])=some y1:=hf 1 _ rfl;rw [e1] at g1;simp only [List.take_succ_cons,List.take_zero] at g1;obtain ⟨L1,r1⟩:=z2n (n:=1) (E:=intE) Tryz.underlying28 (by kernel_rfl) (by decide) (fun h=>open_int h) g1;exact ⟨z0,v1,L1,rfl,z2f w0,r1⟩
end
end Go.Proofs.YtofhpahihneipaaGreatDoor
