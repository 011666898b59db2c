import Derived.Test.YtofhpahihneipaaGreatDoorGn
import Derived.OwnWalk
import Derived.Deep.RegionHeld3
set_option linter.unusedVariables false
set_option linter.unusedSimpArgs false
set_option warningAsError false
set_option maxHeartbeats 2000000
open Go.Lib (hid)
open Go.Proofs.Tryz (prog)
namespace Go.Proofs.YtofhpahihneipaaGreatDoor
open Go.RowKit Go.Instr Go.Sort
set_option maxRecDepth 100000
def z7b (l:List Nat):List Value:=l.map fun (z:Nat)=>Value.int .i64 (z:Int)
theorem zkv {w:World} {base:Nat} {v:Value} {l:List Nat} (h:w.ownsRow base 3 1 v l.length (z7b l)) (hl:l.length<=maxLen) (hz:∀ x∈l,(x:Int)<=9223372036854775807):zd 1 intE w v (l.map fun (z:Nat)=>(z:Int)):=by
 obtain ⟨_,h|⟨g,cap,cur,hv,_,hh,hc,hm,_,ht⟩⟩:=h
 ·have h0:l=[]:=List.length_eq_zero_iff.1 h.2;subst h0;exact ⟨none,0,h.1,by simp,by simp,by simp,fun i x hx=>by simp at hx⟩
 ·refine ⟨some ⟨g,0,none⟩,cap,by rw [List.length_map];exact hv,by rw [List.length_map];exact hl,by rw [List.length_map];exact hc,hm,fun i x hx=>?_⟩;rw [List.getElem?_map] at hx
  cases hli:l[i]? with
  | none=>rw [hli] at hx;simp at hx
  | some z=>
    rw [hli] at hx;simp at hx;subst hx;have hil:=(List.getElem?_eq_some_iff.1 hli).1;refine ⟨g,0,[.int .i64 z],rfl,(Array.getElem?_eq_some_iff.1 hh).1,rfl,fun j u hj=>?_,rfl,by omega,hz z (List.mem_of_getElem? hli)⟩
    cases j with
    | succ j=>simp at hj
    | zero=>simp at hj;subst hj;refine zb hh ?_;have e:(cur.toList.take (l.length*1))[i]? =some (.int .i64 (z:Int)):=(by rw [ht];unfold z7b;rw [List.getElem?_map,hli];rfl);rw [List.getElem?_take] at e;simp only [Nat.mul_one,hil,if_true] at e;simpa using e
theorem z1z {w w':World} {base size n:Nat} {e:TypeId} {v:Value} {xs:List Value} (h:w.ownsRow base e size v n xs) (hb:Below w.heap.size w w'):w'.ownsRow base e size v n xs:=by
 refine h.kept (row:=none) ⟨hb.os,hb.tape,hb.output,hb.size,fun k hk _=>hb.block k hk⟩ ?_
 cases v.ownBlock with
 | none=>exact .inl rfl
 | some a=>exact .inr (by simp)
theorem zk8 (l:List Nat) (z:Nat):z7b (l++[z])=z7b l++[.int .i64 (z:Int)]:=by unfold z7b;rw [List.map_append];rfl
theorem z4i (W:World) (v:Value) (t:TypeId):∀ B,W.heap.size=B->∀ (j:Nat) (u:Value),([v]:List Value)[j]? =some u->(W.alloc (.cells #[v] t)).cell? ((⟨B,0,none⟩:Addr).add j)=some u:=by
 rintro _ rfl j u hu
 cases j with
 | succ j=>simp at hu
 | zero=>simp at hu;subst hu;exact zj rfl rfl
theorem zlt:(prog.info? 3).map (fun i=>(i.zero,i.size,i.bytes))=some (some (.int .i64 0),1,8):=by kernel_rfl
theorem zgl (v:Value) (L:List Int) (w:World) (hR:zd 1 intE w v L) (z:Int):
 Calls prog 47 #[v,.int .i64 z] w fun e w'=>e=.returned (.int .i64 (ixF (fun y=>decide (y=z)) L))/\Below w.heap.size w w':=by
 have HR:=hid hR;obtain ⟨A,c,rfl,hn1,_,_,_⟩:=hR;obtain ⟨n,hn⟩:∃ n,L.length=n:=⟨_,rfl⟩;have HN:=hid hn;have hmx:maxLen<=9223372036854775807:=by decide
 rw [hn] at hn1 ⊢;have hn2:n<=9223372036854775807:=Nat.le_trans hn1 hmx;clear hn1 hmx hn;go_enter Tryz.func47,Tryz.ntmps47
 go_wp2
 go_loopw [8] (fun v wr=>∃ i:Nat,v=.int .i64 i/\i<=n/\Hid (Below w.heap.size w wr/\∀ j y,j<i->L[j]? =some y->decide (y=z)=false)) (fun v _=>n-(intOf v).toNat)
 case atStart=>exact ⟨0,rfl,Nat.zero_le _,hid ⟨Below.refl _ _,fun j y hj=>absurd hj (Nat.not_lt_zero _)⟩⟩
 case round=>
  obtain ⟨i,rfl,hi,HI⟩:=hrel;by_cases hlt:i<n
  ·obtain ⟨x,hx⟩:∃ x,L[i]? =some x:=⟨_,List.getElem?_eq_getElem (by rw [HN.out];exact hlt)⟩;obtain ⟨A',c',e1,_,_,_,hall⟩:=HR.out.kept (fun cs x hx=>intE.kept hx HI.out.1) HI.out.1;obtain ⟨b,o,cs,e2,hb,hcl,hcell,hE⟩:=hall i x hx;obtain ⟨rfl,rfl⟩:A=A'/\c=c':=by cases e1;exact ⟨rfl,rfl⟩
   subst e2;obtain ⟨rfl,_⟩:=hE;have c0:wr.cell? ⟨b,o+i,none⟩=some (.int .i64 x):=by simpa using hcell 0 _ rfl
   have HX:=hid hx;have HLT:=hid hlt;have hin:(i:Int)<(n:Int):=by omega
   clear hall hcell hx e1 hcl;by_cases hq:x=z
   ·have HQ:=hid hq;have g:(z==x)=true:=(by simp [hq]);clear hq;go_wp2
    go_ret
    exact ⟨by rw [z87 (p:=fun y=>decide (y=z)) HX.out (by simp [HQ.out]) HI.out.2];rfl,HI.out.1⟩
   ·have HQ:=hid hq;have g:(z==x)=false:=(by simp [Ne.symm hq]);clear hq;go_wp2
    go_roundw
    case rel=>
     refine ⟨i+1,by first|rfl|go_num|(congr 1),by have:=HLT.out;omega,hid ⟨HI.out.1,fun j y hj hy=>?_⟩⟩;by_cases e:j=i
     ·subst e;rw [HX.out] at hy;obtain rfl:=Option.some.inj hy;simp [HQ.out]
     ·exact HI.out.2 j y (by omega) hy
    case measure=>simp only [intOf];have:=HLT.out;omega
  ·obtain rfl:i=n:=by omega
   go_wp2
   go_ret
   exact ⟨by rw [z5w (p:=fun y=>decide (y=z)) (by rw [HN.out];exact HI.out.2)];rfl,HI.out.1⟩
end Go.Proofs.YtofhpahihneipaaGreatDoor
namespace Go.Proofs.YtofhpahihneipaaGreatDoor
open Go.RowKit Go.Instr
set_option maxRecDepth 100000
theorem znd (m:Mach):chkR m=0∨chkR m=4∨chkR m=8:=by
 unfold chkR
 cases limM m with
 | false=>exact .inr (.inl rfl)
 | true=>cases z26 m with
   | false=>exact .inr (.inr rfl)
   | true=>exact .inl rfl
theorem z30 {m:Mach} (h:chkR m=0):limM m=true/\z63 m=true/\z8k m.regs=true/\z41 m.regs m.banks=true/\z5l m.units=true/\z49 m=true:=by
 unfold chkR at h
 cases hl:limM m with
 | false=>rw [hl] at h;simp at h
 | true=>
   rw [hl] at h
   cases hv:z26 m with
   | false=>rw [hv] at h;simp at h
   | true=>unfold z26 at hv;simp only [Bool.and_eq_true] at hv;exact ⟨rfl,hv.1,hv.2.1,hv.2.2.1,hv.2.2.2.1,hv.2.2.2.2⟩
theorem zvs {m:Mach} (h:chkR m=0):m.regs.length<=64:=(z3l (z30 h).1).1
end Go.Proofs.YtofhpahihneipaaGreatDoor
