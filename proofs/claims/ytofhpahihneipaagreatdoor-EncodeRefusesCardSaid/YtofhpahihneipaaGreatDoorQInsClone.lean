import Derived.Test.YtofhpahihneipaaGreatDoorPf
set_option linter.unusedVariables false
set_option linter.unusedSimpArgs false
set_option warningAsError false
set_option maxHeartbeats 2000000
open Go.Lib (hid)
open Go.Proofs.Tryz (prog)
namespace Go.Proofs.YtofhpahihneipaaGreatDoor
open Go.RowKit Go.Instr Go.Sort
set_option maxRecDepth 100000
def rawF (w:World) (A:Option Addr) (k j:Nat):Value:=match A with|some ⟨b,o,none⟩=>if j<k then (w.cell? ⟨b,o+j,none⟩).getD (.bool false) else .bool false|_=>.bool false
theorem zxq {α:Type} {k:Nat} {E:World->List Value->α->Prop} {w:World} {A:Option Addr} {c n:Nat} {L:List α} (h:zd k E w (.slice A n c) L) (hk:0<k) {i:Nat} {x:α} (hx:L[i]? =some x):
 ∃ cs,cs.length=k/\E w cs x/\∀ j u,cs[j]? =some u->rawF w A (n*k) (i*k+j)=u:=by
 obtain ⟨A',c',e1,_,_,_,hall⟩:=h;cases e1;obtain ⟨b,o,cs,rfl,hb,hl,hc,hE⟩:=hall i x hx;refine ⟨cs,hl,hE,fun j u hj=>?_⟩;have hil:=(List.getElem?_eq_some_iff.1 hx).1;have hjl:j<k:=by rw [<- hl];exact (List.getElem?_eq_some_iff.1 hj).1
 unfold rawF;have hlt:i*k+j<L.length*k:=by have:=Nat.mul_le_mul_right k (show i+1<=L.length from hil);rw [Nat.add_mul] at this;omega
 simp only [hlt,if_true];have:=hc j u hj;rw [Nat.add_assoc] at this;rw [this];rfl
theorem zxd {n k j:Nat} (hk:0<k) (h:j<n*k):j / k<n:=(Nat.div_lt_iff_lt_mul hk).2 h
theorem zzb {α:Type} {k:Nat} {E:World->List Value->α->Prop} {w:World} {A:Option Addr} {c n:Nat} {L:List α} (h:zd k E w (.slice A n c) L) (hk:0<k):zmu w A n k (rawF w A (n*k)):=fun h0=>by have h':=h;obtain ⟨A',c',e1,_,_,_,hall⟩:=h';cases e1;obtain ⟨b,o,cs,e2,hb,_,_,_⟩:=hall 0 _ (List.getElem?_eq_getElem h0);refine ⟨b,o,e2,hb,fun j hj=>?_⟩;have hjk:=zxd hk hj;obtain ⟨b',o',cs',e3,_,hl,hcell,_⟩:=hall (j / k) _ (List.getElem?_eq_getElem hjk);rw [e2] at e3;cases e3;have hm:=Nat.mod_lt j hk;have hc:=hcell (j%k) _ (List.getElem?_eq_getElem (by omega));rw [show o+j / k*k+j%k=o+j by rw [Nat.add_assoc,Nat.mul_comm];rw [Nat.div_add_mod]] at hc;rw [e2];simp only [rawF,hj,if_true];rw [hc];rfl
theorem zza {w:World} {A:Option Addr} {c n:Nat} {L:List MIns} (h:zd 9 insE w (.slice A n c) L):∀ j,(rawF w A (n*9) j).oneCell'=true:=fun j=>by
 have h':=h;obtain ⟨A',c',e1,_⟩:=h';cases e1;by_cases hj:j<L.length*9
 ·have hjk:=zxd (by decide) hj;obtain ⟨cs,hl,hE,hr⟩:=zxq h (by decide) (List.getElem?_eq_getElem hjk);have hm:=Nat.mod_lt j (show 0<9 by decide);obtain ⟨u,hu⟩:∃ u,cs[j%9]? =some u:=⟨_,List.getElem?_eq_getElem (by omega)⟩;have e:=hr _ u hu;rw [show j / 9*9+j%9=j by omega] at e;rw [e];obtain ⟨so,se,rfl,_,_,_,⟨Ao,co,rfl,_⟩,⟨Ae,ce,rfl,_⟩,_⟩:=hE;have:∀ r,r<9->∀ u,([.string (L[j / 9]).name,.int .u64 ((L[j / 9]).mask:Nat),.int .u64 ((L[j / 9]).mtch:Nat),.slice Ao (L[j / 9]).opers.length co,.slice Ae (L[j / 9]).effs.length ce,.int .i64 (L[j / 9]).unit,.int .i64 (L[j / 9]).busy,.int .i64 (L[j / 9]).lat,.int .i64 (L[j / 9]).slots]:List Value)[r]? =some u->u.oneCell'=true:=by
   intro r hr u hu
   match r,hr with
   | 0,_|1,_|2,_|3,_|4,_|5,_|6,_|7,_|8,_=>simp at hu;subst hu;rfl
  exact this _ hm u hu
 ·unfold rawF
  cases A with
  | none=>rfl
  | some ad=>
    obtain ⟨b,o,r⟩:=ad
    cases r with
    | none=>simp only [hj,if_false];rfl
    | some r=>rfl
theorem zvo:(prog.info? 60).map (fun i=>(i.zero,i.size,i.bytes))=some (some (.agg #[.string ⟨#[]⟩,.int .u64 0,.int .u64 0,.slice none 0 0,.slice none 0 0,.int .i64 0,.int .i64 0,.int .i64 0,.int .i64 0]),9,112):=by kernel_rfl
theorem zv4 (n c:Nat) (w:World):Sem.run prog (binOp BinOp.eql 25 (.slice none n c) (.slice none 0 0)) w=.ok (.bool true) w:=by kernel_rfl
theorem zra (ad:Addr) (n c:Nat) (w:World):Sem.run prog (binOp BinOp.eql 25 (.slice (some ad) n c) (.slice none 0 0)) w=.ok (.bool false) w:=by kernel_rfl
theorem zne (w:World) (A:Option Addr) (n c:Nat) (L:List MIns) (hV:zd 9 insE w (.slice A n c) L) (hlen:n<=100000):
 Calls prog 56 #[.slice A n c] w fun e w'=>∃ v',e=.returned v'/\w'.ownsRow w.heap.size 60 9 v' n ((List.range (n*9)).map (rawF w A (n*9)))/\Below w.heap.size w w':=by
 have hsrc:=zzb hV (by decide);have hf1:=zza hV;obtain ⟨f,hf⟩:∃ f,rawF w A (n*9)=f:=⟨_,rfl⟩;rw [hf] at hsrc hf1 ⊢;rcases A with _|ad
 ·have h0:n=0:=by
   rcases Nat.eq_zero_or_pos n with h|h
   ·exact h
   ·obtain ⟨b,o,e,_⟩:=hsrc h;cases e
  subst h0;have HB:=hid (Below.refl w.heap.size w);have hq:=zv4 0 c;clear hV hsrc hf hf1;go_enter Tryz.func56,Tryz.ntmps56
  go_wp2
  go_ret
  exact ⟨_,rfl,⟨rfl,.inl ⟨rfl,rfl⟩⟩,HB.out⟩
 ·obtain ⟨i0,hi0,hz0,hz1,hz2⟩:=info_parts zvo;have HI0:=hid hi0;have HZ0:=hid hz0;have HZ1:=hid hz1;have HZ2:=hid hz2;have hb1:Below w.heap.size w (w.alloc (.cells #[] 60)):=(Below.refl _ _).alloc (Nat.le_refl _) _
  have hown0:(w.alloc (.cells #[] 60)).ownsRow w.heap.size 60 9 (.slice (some ⟨w.heap.size,0,none⟩) 0 0) 0 []:=
   ⟨rfl,.inr ⟨w.heap.size,0,#[],rfl,Nat.le_refl _,heap_alloc_new _ _,Nat.le_refl _,by simp,rfl,rfl⟩⟩
  have HOWN:=hid hown0;have HSRC:=hid (hsrc.below hb1);have HF1:=hid hf1;have HB1:=hid hb1;have hq:=zra ad n c;clear hV hsrc hf hf1 hi0 hz0 hz1 hz2 hb1 hown0;go_enter Tryz.func56,Tryz.ntmps56
  go_wp2_with (at_builtin;refine Hid.out ?_)
  refine hid ?_;refine z8p rfl _ _ 25 rfl w.heap.size 60 i0 (.agg #[.string ⟨#[]⟩,.int .u64 0,.int .u64 0,.slice none 0 0,.slice none 0 0,.int .i64 0,.int .i64 0,.int .i64 0,.int .i64 0]) 9 112 Tryz.underlying25 HI0.out HZ0.out HZ1.out HZ2.out rfl (by decide) _ 0 [] rfl HOWN.out (some ad) n c f rfl HSRC.out HF1.out (by unfold maxLen;omega) (by omega) (by simp) ?_;intro v' w7 hown' hgrow;have hb7:Below w.heap.size w w7:=HB1.out.grown hgrow (by simp) (fun r hr=>by have:=HOWN.out.lt r hr;omega);have HO7:=hid (show w7.ownsRow w.heap.size 60 9 v' n ((List.range (n*9)).map f) by simpa using hown');have HB7:=hid hb7;clear hown' hgrow hb7;go_wp2
  go_ret
  exact ⟨_,rfl,HO7.out,HB7.out⟩
end Go.Proofs.YtofhpahihneipaaGreatDoor
