import Derived.Test.YtofhpahihneipaaGreatDoorPf
import Derived.Test.YtofhpahihneipaaGreatDoorGs
set_option linter.unusedVariables false
set_option linter.unusedSimpArgs false
set_option warningAsError false
set_option maxHeartbeats 4000000
open Go.Lib (hid)
open Go.Proofs.Tryz (prog)
namespace Go.Proofs.YtofhpahihneipaaGreatDoor
open Go.RowKit Go.Instr Go.Sort
set_option maxRecDepth 100000
def byW (size x:Nat):List Nat:=(List.range size).map fun i=>x / 2^(8*i)%256
def z2r (size:Nat) (V:List Nat):List Nat:=(V.map (byW size)).flatten
def z4o (L:List Nat):List Value:=L.map fun (x:Nat)=>Value.int .u8 (x:Int)
theorem zn9 (L:List Nat) (x:Nat):z4o (L++[x])=z4o L++[.int .u8 (x:Int)]:=by unfold z4o;simp
theorem zic (size:Nat) {V:List Nat} {i x:Nat} (hx:V[i]? =some x):z2r size (V.take (i+1))=z2r size (V.take i)++byW size x:=by unfold z2r;rw [List.take_add_one,hx];simp
theorem zu8:(prog.info? 5).map (fun i=>(i.zero,i.size,i.bytes))=some (some (.int .u8 0),1,1):=by kernel_rfl
theorem zol (K:Nat) (hK:K<=100000) (w:World):Sem.run prog (makeSlice 48 (.int .i64 0) (.int .i64 (K:Int))) w=.ok (.slice (some ⟨w.heap.size,0,none⟩) 0 K) (w.alloc (.cells (madeCells #[.int .u8 0] K) 5)):=by obtain ⟨i0,hi0,hz0,hz1,hz2⟩:=info_parts zu8;have h:=run_make (P:=prog) w 48 5 i0 (.int .u8 0) Tryz.underlying48 hi0 hz0 .i64 .i64 0 (K:Int) (Int.le_refl _) (by omega) (by rw [hz2];omega) (by omega);simp only [hz1,Int.toNat_natCast,Nat.mul_one,Int.toNat_zero] at h;exact h
theorem zvv {K:Nat} (hK:K<=100000) (w:World):(w.alloc (.cells (madeCells #[.int .u8 0] K) 5)).ownsRow w.heap.size 5 1 (.slice (some ⟨w.heap.size,0,none⟩) 0 K) 0 (z4o []):=
 ⟨rfl,.inr ⟨w.heap.size,K,_,rfl,Nat.le_refl _,heap_alloc_new _ _,Nat.zero_le _,by unfold maxLen;omega,by rw [size_madeCells];simp,by simp [z4o]⟩⟩
theorem zid (w:World) (A:Option Addr) (n c size:Nat) (V:List Nat) (hV:zd 1 u64E w (.slice A n c) V) (hn:V.length=n) (h1:1<=size/\size<=4) (hlen:n<=5000):
 Calls prog 36 #[.slice A n c,.int .i64 (size:Int)] w fun e w'=>∃ v',e=.returned v'/\w'.ownsRow w.heap.size 5 1 v' (size*n) (z4o (z2r size V))/\Below w.heap.size w w':=by
 obtain ⟨K,hK⟩:∃ K,size*n=K:=⟨_,rfl⟩;have hKb:K<=20000:=by rw [<- hK];exact Nat.le_trans (Nat.mul_le_mul_right n h1.2) (by omega)
 have hKi:(size:Int)*(n:Int)=(K:Int):=by rw [<- hK];simp
 have hmk:=zol K (by omega);have HOW:=hid (zvv (show K<=100000 by omega) w);have HV:=hid hV;have HN:=hid hn;have HKK:=hid hK;have hs1:(1:Int)<=(size:Int):=by omega
 have hs4:(size:Int)<=4:=by omega
 have hn5:(n:Int)<=5000:=by omega
 have hk2:(K:Int)<=20000:=by omega
 have HFIN:=hid (show ∀ v X,X.ownsRow w.heap.size 5 1 v K (z4o (z2r size V))->Below w.heap.size w X->∃ v',Ending.returned v=.returned v'/\X.ownsRow w.heap.size 5 1 v' (size*n) (z4o (z2r size V))/\Below w.heap.size w X from fun v X a b=>⟨v,rfl,by rw [hK];exact a,b⟩);obtain ⟨PP,hPP⟩:∃ PP:Ending->World->Prop,PP=fun e w'=>∃ v',e=.returned v'/\w'.ownsRow w.heap.size 5 1 v' (size*n) (z4o (z2r size V))/\Below w.heap.size w w':=⟨_,rfl⟩;rw [<- hPP];have HPP:=hid (show ∀ v X,X.ownsRow w.heap.size 5 1 v K (z4o (z2r size V))->Below w.heap.size w X->PP (.returned v) X from fun v X a b=>by rw [hPP];exact HFIN.out v X a b);have HSZ:=hid (show ∀ i j:Nat,i<n->j<size->size*i+j+1<=K from fun i j h1 h2=>by have:=Nat.mul_le_mul_left size (show i+1<=n from h1);rw [Nat.mul_add,hK] at this;omega)
 obtain ⟨i0,hi0,hz0,hz1,hz2⟩:=info_parts zu8;have HI0:=hid hi0;have HZ0:=hid hz0;have HZ1:=hid hz1;have HZ2:=hid hz2;clear hV hn hK hPP HFIN hi0 hz0 hz1 hz2;go_enter Tryz.func36,Tryz.ntmps36
 go_wp2
 go_loopw [5,16] (fun vb vi wr=>∃ i:Nat,vi=.int .i64 i/\i<=n/\Hid (wr.ownsRow w.heap.size 5 1 vb (size*i) (z4o (z2r size (V.take i)))/\Below w.heap.size w wr)) (fun _ vi _=>n-(intOf vi).toNat)
 case atStart=>exact ⟨0,rfl,Nat.zero_le _,hid ⟨HOW.out,(Below.refl _ _).alloc (Nat.le_refl _) _⟩⟩
 case round=>
  obtain ⟨i,rfl,hi,HJ⟩:=hrel;by_cases hlt:i<n
  ·obtain ⟨x,hx⟩:∃ x,V[i]? =some x:=⟨_,List.getElem?_eq_getElem (by rw [HN.out];exact hlt)⟩;have hR:=HV.out.kept (fun cs x hx=>u64E.kept hx HJ.out.2) HJ.out.2;obtain ⟨A',c',e1,_,_,_,hall⟩:=hR;obtain ⟨b,o,cs,e2,hb,_,hcell,hE⟩:=hall i x hx;obtain ⟨rfl,hx64⟩:=hE;obtain ⟨rfl,rfl⟩:A=A'/\c=c':=by cases e1;exact ⟨rfl,rfl⟩
   clear e1;subst e2;have p0:wr.cell? ⟨b,o+i,none⟩=some (.int .u64 (x:Nat)):=by simpa using hcell 0 _ rfl
   have hin:(i:Int)<(n:Int):=by omega
   have hi0:(0:Int)<=(i:Int):=by omega
   have HLT:=hid hlt;have HX:=hid (And.intro hx hx64);clear hall hcell hb hlt hx;go_wp2
   go_loopw [5,21] (fun vb vj wq=>∃ j:Nat,vj=.int .i64 j/\j<=size/\Hid (wq.ownsRow w.heap.size 5 1 vb (size*i+j) (z4o (z2r size (V.take i)++(byW size x).take j))/\Below w.heap.size w wq)) (fun _ vj _=>size-(intOf vj).toNat)
   case atStart=>exact ⟨0,rfl,Nat.zero_le _,hid ⟨by simpa using HJ.out.1,HJ.out.2⟩⟩
   case round=>
    obtain ⟨j,rfl,hj,HB⟩:=hrel;by_cases hjs:j<size
    ·have hj1:(j:Int)<(size:Int):=(by omega);have hj0:(0:Int)<=(j:Int):=(by omega);have HJS:=hid hjs;clear hjs hj;go_wp2_with (at_builtin;refine Hid.out ?_)
     refine hid ?_;refine wpList_append_own _ rfl _ _ 48 rfl w.heap.size 5 i0 (.int .u8 0) 1 1 Tryz.underlying48 HI0.out HZ0.out HZ1.out HZ2.out rfl (by decide) _ (size*i+j) (z4o (z2r size (V.take i)++(byW size x).take j)) rfl (HB.out.1.alloc _) ⟨_,0,none⟩ 1 1 [.int .u8 ((x:Int) / 2^(8*j)%256)] rfl rfl (z4i _ _ _ _ rfl) (by intro u hu;simp at hu;subst hu;rfl) (by have:=HSZ.out i j HLT.out HJS.out;unfold maxLen;omega) (by have:=HSZ.out i j HLT.out HJS.out;omega) (by have:=HB.out.2.size;simp;omega) ?_;intro v' w6 hown' hgrow _;have hb6:Below w.heap.size w w6:=by
      have h1:=HB.out.2.alloc HB.out.2.size (.cells #[.int .u8 ((x:Int) / 2^(8*j)%256)] 5);exact h1.grown hgrow (by have:=HB.out.2.size;simp;omega) (fun r hr=>by have:=HB.out.1.lt r hr;omega)
     have HO6:=hid (show w6.ownsRow w.heap.size 5 1 v' (size*i+(j+1)) (z4o (z2r size (V.take i)++(byW size x).take (j+1)))/\Below w.heap.size w w6 by
      refine ⟨?_,hb6⟩;have e:(byW size x).take (j+1)=(byW size x).take j++[x / 2^(8*j)%256]:=by
       rw [List.take_add_one]
       congr 1
       unfold byW;rw [List.getElem?_map,List.getElem?_range HJS.out];rfl
      rw [e,<-List.append_assoc,zn9];have e2:(((x / 2^(8*j)%256:Nat)):Int)=(x:Int) / 2^(8*j)%256:=(by simp);rw [e2,<-Nat.add_assoc];exact hown')
     clear hown' hgrow hb6;go_wp2
     go_roundw
     case rel=>exact ⟨j+1,by first|rfl|go_num,by have:=HJS.out;omega,HO6⟩
     case measure=>simp only [intOf];have:=HJS.out;omega
    ·obtain rfl:j=size:=by omega
     have HE:=hid (show wr.ownsRow w.heap.size 5 1 u5 (j*(i+1)) (z4o (z2r j (V.take (i+1))))/\Below w.heap.size w wr from by rw [zic j HX.out.1,Nat.mul_add,Nat.mul_one];have h:=HB.out;rw [List.take_of_length_le (l:=byW j x) (by unfold byW;simp)] at h;exact h)
     have hj1:¬ (j:Int)<(j:Int):=(by omega);clear hjs;go_wp2
     go_roundw
     case rel=>exact ⟨i+1,by first|rfl|go_num,by have:=HLT.out;omega,HE⟩
     case measure=>simp only [intOf];have:=HLT.out;omega
  ·obtain rfl:i=n:=by omega
   have h1:=HJ.out;rw [List.take_of_length_le (by rw [HN.out];exact Nat.le_refl _),HKK.out] at h1;have HE:=hid (HPP.out _ _ h1.1 h1.2);have hin:¬ (i:Int)<(i:Int):=by omega
   clear h1 hlt;go_wp2
   exact HE.out
end Go.Proofs.YtofhpahihneipaaGreatDoor
