import Derived.Test.YtofhpahihneipaaGreatDoorGe
import Derived.Test.YtofhpahihneipaaGreatDoorPb
set_option linter.unusedVariables false
set_option linter.unusedSimpArgs false
set_option warningAsError false
noncomputable section
namespace Go.Proofs.YtofhpahihneipaaGreatDoor
open Go.RowKit
set_option maxRecDepth 100000
def dI:Play.SV->Option Int
 | .lit (.int .i64 z)=>if -9223372036854775808<=z/\z<=9223372036854775807 then some z else none
 | _=>none
def d8:Play.SV->Option Nat
 | .lit (.int .u8 (.ofNat n))=>if n<256 then some n else none
 | _=>none
def d64:Play.SV->Option Nat
 | .lit (.int .u64 (.ofNat n))=>if n<18446744073709551616 then some n else none
 | _=>none
def dS:Play.SV->Option ByteArray
 | .lit (.string s)=>if s.size<=1000 then some s else none
 | _=>none
def zuw {α:Type} (n:Nat) (d:List Play.SV->Option α):Nat->List Play.SV->Option (List α)
 | 0,_=>some []
 | k+1,vs=>match d (vs.take n),zuw n d k (vs.drop n) with|some a,some l=>some (a::l)|_,_=>none
def z005 {α:Type} (n:Nat) (d:List Play.SV->Option α) (off len:Nat):Play.SO->Option (List α)
 | .cells vs _ _=>zuw n d len (vs.drop off)
 | _=>none
def z3q {α:Type} (n:Nat) (d:List Play.SV->Option α) (h:Play.H):Play.SV->Option (List α)
 | .lit (.slice none 0 0)=>some []
 | .slc o off len cap ex=>if len<=cap/\cap<=1000000 then z005 n d off len (Play.hget h o) else none
 | _=>none
section
variable {P:Program} {G:Play.Glob} {M:Nat->Prop} {ρ:Play.Env} {h:Play.H} {w:World}
theorem z4e {v:Play.SV} {x:Value} {z:Int} (hd:dI v=some z) (hv:Play.VR ρ v x):x=.int .i64 z/\ -9223372036854775808<=z/\z<=9223372036854775807:=by
 unfold dI at hd;split at hd
 ·cases hv;split at hd
  ·cases hd;exact ⟨rfl,by assumption⟩
  ·cases hd
 ·cases hd
theorem zy5 {v:Play.SV} {x:Value} {z:Nat} (hd:d8 v=some z) (hv:Play.VR ρ v x):x=.int .u8 (z:Nat)/\z<256:=by
 unfold d8 at hd;split at hd
 ·cases hv;split at hd
  ·cases hd;exact ⟨rfl,by assumption⟩
  ·cases hd
 ·cases hd
theorem zqn {v:Play.SV} {x:Value} {z:Nat} (hd:d64 v=some z) (hv:Play.VR ρ v x):x=.int .u64 (z:Nat)/\z<18446744073709551616:=by
 unfold d64 at hd;split at hd
 ·cases hv;split at hd
  ·cases hd;exact ⟨rfl,by assumption⟩
  ·cases hd
 ·cases hd
theorem zii {v:Play.SV} {x:Value} {z:ByteArray} (hd:dS v=some z) (hv:Play.VR ρ v x):x=.string z/\z.size<=maxLen:=by
 unfold dS at hd;split at hd
 ·cases hv;split at hd
  ·cases hd;exact ⟨rfl,by unfold maxLen;omega⟩
  ·cases hd
 ·cases hd
theorem znj {α:Type} {n:Nat} {d:List Play.SV->Option α}:∀ (k:Nat) {vs:List Play.SV} {L:List α},zuw n d k vs=some L->L.length=k/\∀ (i:Nat) (x:α),L[i]? =some x->d ((vs.drop (i*n)).take n)=some x:=by
 intro k
 induction k with
 | zero=>intro vs L hL;cases hL;exact ⟨rfl,fun i x hx=>by simp at hx⟩
 | succ k ih=>
   intro vs L hL;unfold zuw at hL;split at hL
   ·rename_i a l ha hl;cases hL;obtain ⟨h1,h2⟩:=ih hl;refine ⟨by simp [h1],fun i x hx=>?_⟩
    cases i with
    | zero=>simp at hx;subst hx;simpa using ha
    | succ i=>have:=h2 i x (by simpa using hx);rw [List.drop_drop] at this;rw [show (i+1)*n=n+i*n by rw [Nat.add_mul];omega];exact this
   ·cases hL
theorem z27 {α:Type} {n:Nat} {d:List Play.SV->Option α} {E:World->List Value->α->Prop} (s:Play.Sim P G M ρ h w)
 (hd:∀ (cs:List Play.SV) (x:α) (vals:List Value),d cs=some x->Play.VRL ρ cs vals->cs.length=n/\E w vals x) {v:Play.SV} {val:Value} {L:List α} (hv:Play.VR ρ v val) (hL:z3q n d h v=some L):zd n E w val L:=by
 unfold z3q at hL;split at hL
 ·cases hv;cases hL;exact ⟨none,0,rfl,by simp,by simp,by simp,fun i x hx=>by simp at hx⟩
 ·rename_i o off len cap ex;split at hL
  ·rename_i hlc
   cases hv with
   | @slc _ b _ _ _ _ cap' hb hc he hr=>
     have hlive:=s.live o b hb;have hsz:=s.size o b hb;unfold z005 at hL;split at hL
     ·rename_i vs e own hob;rw [hob] at hlive;generalize hk:w.heap[b.block]? =ob at hlive
      cases hlive with
      | @cells _ _ _ _ c fr hs hm hf hroom hlen hvs=>
        obtain ⟨hl1,hl2⟩:=znj len hL;have hcm:cap'<=maxLen:=by
         cases ex with
         | true=>rw [he rfl];unfold maxLen;omega
         | false=>exact (hr rfl).2
        have hcell:∀ q:Nat,w.cell? ⟨b.block,q,none⟩=c[q]? :=fun q=>by simp [World.cell?,hk]
        refine ⟨some ⟨b.block,b.off+off,none⟩,cap',by rw [hl1],by rw [hl1];unfold maxLen at *;omega,by rw [hl1];omega,hcm,fun i x hx=>?_⟩;have hdx:=hl2 i x hx;rw [List.drop_drop] at hdx;have hget:∀ (j:Nat) (v:Play.SV),((vs.drop (off+i*n)).take n)[j]? =some v->∃ y,c[b.off+off+i*n+j]? =some y/\Play.VR ρ v y:=by
         intro j v hj;rw [List.getElem?_take] at hj;split at hj
         ·rw [List.getElem?_drop] at hj;obtain ⟨y,h1,h2⟩:=hvs _ _ hj;exact ⟨y,by rw [<- h1];congr 1;omega,h2⟩
         ·cases hj
        have hrel:Play.VRL ρ ((vs.drop (off+i*n)).take n) ((List.range ((vs.drop (off+i*n)).take n).length).map fun j=>(c[b.off+off+i*n+j]?).getD (.int .i64 0)):=by
         refine Play.VRL.of_get (by simp) fun j v hj=>?_;obtain ⟨y,h1,h2⟩:=hget j v hj;have hlt:j<((vs.drop (off+i*n)).take n).length:=by
          rcases Nat.lt_or_ge j ((vs.drop (off+i*n)).take n).length with h3|h3
          ·exact h3
          ·rw [List.getElem?_eq_none h3] at hj;cases hj
         refine ⟨y,?_,h2⟩;rw [List.getElem?_map,List.getElem?_range hlt,Option.map_some,h1,Option.getD_some]
        obtain ⟨hn,hE⟩:=hd _ x _ hdx hrel;refine ⟨b.block,b.off+off,_,rfl,hsz,by simp only [List.length_map,List.length_range];exact hn,fun j u hj=>?_,hE⟩;rw [List.getElem?_map] at hj;have hlt:j<((vs.drop (off+i*n)).take n).length:=by
         rcases Nat.lt_or_ge j ((vs.drop (off+i*n)).take n).length with h3|h3
         ·exact h3
         ·rw [List.getElem?_eq_none (by simpa using h3)] at hj;cases hj
        rw [List.getElem?_range hlt,Option.map_some] at hj;obtain ⟨y,h1,_⟩:=hget j _ (List.getElem?_eq_getElem hlt);rw [hcell,h1];rw [h1] at hj;exact hj
     ·cases hL
  ·cases hL
 ·cases hL
theorem zwm {v:Value} {L:List Tm} (hR:zd 6 zl3 w v L):SubAt w w.heap.size v L:=by
 obtain ⟨A,c,rfl,h2,h3,h4,h5⟩:=hR;have hq:∀ (i:Nat) (t:Tm),L[i]? =some t->∃ b o sv,A=some ⟨b,o,none⟩/\b<w.heap.size/\(∀ (j:Nat) (u:Value),(Tm.cells t sv)[j]? =some u->w.cell? ⟨b,o+i*6+j,none⟩=some u)/\t.fit/\SubAt w w.heap.size sv t.sub:=by intro i t hi;obtain ⟨b,o,cs,q1,q2,q3,q4,sv,q5,q6,q7⟩:=h5 i t hi;subst q5;exact ⟨b,o,sv,q1,q2,q4,q6,q7⟩
 refine .mk A L.length c L (fun i=>(A.bind fun a=>w.cell? ⟨a.block,a.off+i*6+5,none⟩).getD (.int .i64 0)) rfl h2 (fun i t hi=>?_) (fun i t hi=>?_) (fun i t hi=>?_)
 ·obtain ⟨_,_,_,_,_,_,h,_⟩:=hq i t hi;exact h
 ·obtain ⟨b,o,sv,q1,q2,q4,q6,q7⟩:=hq i t hi;refine ⟨b,o,q1,q2,by simpa using q4 0 _ rfl,q4 1 _ rfl,q4 2 _ rfl,q4 3 _ rfl,q4 4 _ rfl,?_⟩;have hc5:=q4 5 _ rfl;subst q1;show _=some ((w.cell? ⟨b,o+i*6+5,none⟩).getD (.int .i64 0));rw [hc5];rfl
 ·obtain ⟨b,o,sv,q1,q2,q4,q6,q7⟩:=hq i t hi;have hc5:=q4 5 _ rfl;subst q1;show SubAt _ _ ((w.cell? ⟨b,o+i*6+5,none⟩).getD (.int .i64 0)) _;rw [hc5];exact q7
def zin:Nat->Play.H->List Play.SV->Option Tm
 | 0,_,_=>none
 | k+1,h,[a,b,c,d,e,f]=>(d8 a).bind fun a=>(dI b).bind fun b=>(d64 c).bind fun c=>(dS d).bind fun d=>(dI e).bind fun e=>(z3q 6 (zin k h) h f).bind fun f=>some (.mk a b c d e f)
 | _+1,_,_=>none
theorem vrl6 {cs:List Play.SV} {vals:List Value} {a b c d e f:Play.SV} (hv:Play.VRL ρ [a,b,c,d,e,f] vals):∃ a' b' c' d' e' f',vals=[a',b',c',d',e',f']/\Play.VR ρ a a'/\Play.VR ρ b b'/\Play.VR ρ c c'/\Play.VR ρ d d'/\Play.VR ρ e e'/\Play.VR ρ f f':=by cases hv with|cons h0 hv=>cases hv with|cons h1 hv=>cases hv with|cons h2 hv=>cases hv with|cons h3 hv=>cases hv with|cons h4 hv=>cases hv with|cons h5 hv=>cases hv with|nil=>exact ⟨_,_,_,_,_,_,rfl,h0,h1,h2,h3,h4,h5⟩
theorem zcj (s:Play.Sim P G M ρ h w):∀ (k:Nat) (cs:List Play.SV) (t:Tm) (vals:List Value),zin k h cs=some t->Play.VRL ρ cs vals->cs.length=6/\zl3 w vals t:=by
 intro k
 induction k with
 | zero=>intro cs t vals hd;unfold zin at hd;cases hd
 | succ k ih=>
   intro cs t vals hd hv;unfold zin at hd;split at hd
   ·cases ‹_+1=0›
   ·rename_i kk a b c d e f hk;cases hk;simp only [Option.bind_eq_some_iff] at hd;obtain ⟨a',ha,b',hb,c',hc,d',hd',e',he,f',hf,hd⟩:=hd;cases hd;obtain ⟨xa,xb,xc,xd,xe,xf,rfl,va,vb,vc,vd,ve,vf⟩:=vrl6 (cs:=[]) hv;obtain ⟨rfl,a1⟩:=zy5 ha va;obtain ⟨rfl,b1⟩:=z4e hb vb;obtain ⟨rfl,c1⟩:=zqn hc vc;obtain ⟨rfl,d1⟩:=zii hd' vd;obtain ⟨rfl,e1⟩:=z4e he ve;exact ⟨rfl,xf,rfl,⟨a1,b1,c1,d1,e1⟩,zwm (z27 s ih vf hf)⟩
   ·cases hd
end
section
variable {P:Program} {G:Play.Glob} {M:Nat->Prop} {ρ:Play.Env} {h:Play.H} {w:World}
theorem vrl1' {vals:List Value} {a0:Play.SV} (hv:Play.VRL ρ [a0] vals):∃ a0',vals=[a0']/\Play.VR ρ a0 a0':=by cases hv with|cons h0 hv=>cases hv with|nil=>exact ⟨_,rfl,h0⟩
theorem vrl2' {vals:List Value} {a0 a1:Play.SV} (hv:Play.VRL ρ [a0,a1] vals):∃ a0' a1',vals=[a0',a1']/\Play.VR ρ a0 a0'/\Play.VR ρ a1 a1':=by cases hv with|cons h0 hv=>cases hv with|cons h1 hv=>cases hv with|nil=>exact ⟨_,_,rfl,h0,h1⟩
theorem vrl4' {vals:List Value} {a0 a1 a2 a3:Play.SV} (hv:Play.VRL ρ [a0,a1,a2,a3] vals):∃ a0' a1' a2' a3',vals=[a0',a1',a2',a3']/\Play.VR ρ a0 a0'/\Play.VR ρ a1 a1'/\Play.VR ρ a2 a2'/\Play.VR ρ a3 a3':=by cases hv with|cons h0 hv=>cases hv with|cons h1 hv=>cases hv with|cons h2 hv=>cases hv with|cons h3 hv=>cases hv with|nil=>exact ⟨_,_,_,_,rfl,h0,h1,h2,h3⟩
theorem vrl7' {vals:List Value} {a0 a1 a2 a3 a4 a5 a6:Play.SV} (hv:Play.VRL ρ [a0,a1,a2,a3,a4,a5,a6] vals):∃ a0' a1' a2' a3' a4' a5' a6',vals=[a0',a1',a2',a3',a4',a5',a6']/\Play.VR ρ a0 a0'/\Play.VR ρ a1 a1'/\Play.VR ρ a2 a2'/\Play.VR ρ a3 a3'/\Play.VR ρ a4 a4'/\Play.VR ρ a5 a5'/\Play.VR ρ a6 a6':=by cases hv with|cons h0 hv=>cases hv with|cons h1 hv=>cases hv with|cons h2 hv=>cases hv with|cons h3 hv=>cases hv with|cons h4 hv=>cases hv with|cons h5 hv=>cases hv with|cons h6 hv=>cases hv with|nil=>exact ⟨_,_,_,_,_,_,_,rfl,h0,h1,h2,h3,h4,h5,h6⟩
theorem vrl9' {vals:List Value} {a0 a1 a2 a3 a4 a5 a6 a7 a8:Play.SV} (hv:Play.VRL ρ [a0,a1,a2,a3,a4,a5,a6,a7,a8] vals):∃ a0' a1' a2' a3' a4' a5' a6' a7' a8',vals=[a0',a1',a2',a3',a4',a5',a6',a7',a8']/\Play.VR ρ a0 a0'/\Play.VR ρ a1 a1'/\Play.VR ρ a2 a2'/\Play.VR ρ a3 a3'/\Play.VR ρ a4 a4'/\Play.VR ρ a5 a5'/\Play.VR ρ a6 a6'/\Play.VR ρ a7 a7'/\Play.VR ρ a8 a8':=by cases hv with|cons h0 hv=>cases hv with|cons h1 hv=>cases hv with|cons h2 hv=>cases hv with|cons h3 hv=>cases hv with|cons h4 hv=>cases hv with|cons h5 hv=>cases hv with|cons h6 hv=>cases hv with|cons h7 hv=>cases hv with|cons h8 hv=>cases hv with|nil=>exact ⟨_,_,_,_,_,_,_,_,_,rfl,h0,h1,h2,h3,h4,h5,h6,h7,h8⟩
theorem vrl6' {vals:List Value} {a0 a1 a2 a3 a4 a5:Play.SV} (hv:Play.VRL ρ [a0,a1,a2,a3,a4,a5] vals):∃ a0' a1' a2' a3' a4' a5',vals=[a0',a1',a2',a3',a4',a5']/\Play.VR ρ a0 a0'/\Play.VR ρ a1 a1'/\Play.VR ρ a2 a2'/\Play.VR ρ a3 a3'/\Play.VR ρ a4 a4'/\Play.VR ρ a5 a5':=vrl6 (cs:=[]) hv
def zqs:List Play.SV->Option Int
 | [a]=>dI a
 | _=>none
theorem zqt (cs:List Play.SV) (x:Int) (vals:List Value) (hd:zqs cs=some x) (hv:Play.VRL ρ cs vals):cs.length=1/\intE w vals x:=by
 unfold zqs at hd;split at hd
 ·obtain ⟨x0,rfl,h0⟩:=vrl1' hv;obtain ⟨rfl,b0⟩:=z4e hd h0;exact ⟨rfl,rfl,b0⟩
 ·cases hd
def zqu:List Play.SV->Option MReg
 | [c0,c1,c2,c3]=>(dS c0).bind fun x0=>(dI c1).bind fun x1=>(dI c2).bind fun x2=>(dI c3).bind fun x3=>some ⟨x0,x1,x2,x3⟩
 | _=>none
theorem zqv (cs:List Play.SV) (x:MReg) (vals:List Value) (hd:zqu cs=some x) (hv:Play.VRL ρ cs vals):cs.length=4/\regE w vals x:=by
 unfold zqu at hd;split at hd
 ·simp only [Option.bind_eq_some_iff] at hd;obtain ⟨x0,g0,x1,g1,x2,g2,x3,g3,hd⟩:=hd;cases hd;obtain ⟨y0,y1,y2,y3,rfl,h0,h1,h2,h3⟩:=vrl4' hv;obtain ⟨rfl,b0⟩:=zii g0 h0;obtain ⟨rfl,b1⟩:=z4e g1 h1;obtain ⟨rfl,b2⟩:=z4e g2 h2;obtain ⟨rfl,b3⟩:=z4e g3 h3;exact ⟨rfl,rfl,b0,b1,b2,b3⟩
 ·cases hd
def zio:List Play.SV->Option MUnit
 | [c0,c1]=>(dS c0).bind fun x0=>(dI c1).bind fun x1=>some ⟨x0,x1⟩
 | _=>none
theorem znm (cs:List Play.SV) (x:MUnit) (vals:List Value) (hd:zio cs=some x) (hv:Play.VRL ρ cs vals):cs.length=2/\z52 w vals x:=by
 unfold zio at hd;split at hd
 ·simp only [Option.bind_eq_some_iff] at hd;obtain ⟨x0,g0,x1,g1,hd⟩:=hd;cases hd;obtain ⟨y0,y1,rfl,h0,h1⟩:=vrl2' hv;obtain ⟨rfl,b0⟩:=zii g0 h0;obtain ⟨rfl,b1⟩:=z4e g1 h1;exact ⟨rfl,rfl,b0,b1⟩
 ·cases hd
def zci:List Play.SV->Option MPiece
 | [c0,c1]=>(dI c0).bind fun x0=>(dI c1).bind fun x1=>some ⟨x0,x1⟩
 | _=>none
theorem zim (cs:List Play.SV) (x:MPiece) (vals:List Value) (hd:zci cs=some x) (hv:Play.VRL ρ cs vals):cs.length=2/\z2g w vals x:=by
 unfold zci at hd;split at hd
 ·simp only [Option.bind_eq_some_iff] at hd;obtain ⟨x0,g0,x1,g1,hd⟩:=hd;cases hd;obtain ⟨y0,y1,rfl,h0,h1⟩:=vrl2' hv;obtain ⟨rfl,b0⟩:=z4e g0 h0;obtain ⟨rfl,b1⟩:=z4e g1 h1;exact ⟨rfl,rfl,b0,b1⟩
 ·cases hd
def zij (h:Play.H):List Play.SV->Option MBank
 | [c0,c1]=>(dS c0).bind fun x0=>(z3q 1 (zqs) h c1).bind fun x1=>some ⟨x0,x1⟩
 | _=>none
theorem zni (s:Play.Sim P G M ρ h w) (cs:List Play.SV) (x:MBank) (vals:List Value) (hd:zij h cs=some x) (hv:Play.VRL ρ cs vals):cs.length=2/\z1k w vals x:=by
 unfold zij at hd;split at hd
 ·simp only [Option.bind_eq_some_iff] at hd;obtain ⟨x0,g0,x1,g1,hd⟩:=hd;cases hd;obtain ⟨y0,y1,rfl,h0,h1⟩:=vrl2' hv;obtain ⟨rfl,b0⟩:=zii g0 h0;have b1:=z27 s zqt h1 g1;exact ⟨rfl,y1,rfl,b0,b1⟩
 ·cases hd
def zil (h:Play.H):List Play.SV->Option MOper
 | [c0,c1,c2,c3,c4,c5]=>(dS c0).bind fun x0=>(d8 c1).bind fun x1=>(dI c2).bind fun x2=>(dI c3).bind fun x3=>(z3q 2 (zci) h c4).bind fun x4=>(dI c5).bind fun x5=>some ⟨x0,x1,x2,x3,x4,x5⟩
 | _=>none
theorem znl (s:Play.Sim P G M ρ h w) (cs:List Play.SV) (x:MOper) (vals:List Value) (hd:zil h cs=some x) (hv:Play.VRL ρ cs vals):cs.length=6/\zx w vals x:=by
 unfold zil at hd;split at hd
 ·simp only [Option.bind_eq_some_iff] at hd;obtain ⟨x0,g0,x1,g1,x2,g2,x3,g3,x4,g4,x5,g5,hd⟩:=hd;cases hd;obtain ⟨y0,y1,y2,y3,y4,y5,rfl,h0,h1,h2,h3,h4,h5⟩:=vrl6' hv;obtain ⟨rfl,b0⟩:=zii g0 h0;obtain ⟨rfl,b1⟩:=zy5 g1 h1;obtain ⟨rfl,b2⟩:=z4e g2 h2;obtain ⟨rfl,b3⟩:=z4e g3 h3;have b4:=z27 s zim h4 g4;obtain ⟨rfl,b5⟩:=z4e g5 h5;exact ⟨rfl,y4,rfl,b0,b1,b2,b3,b4,b5⟩
 ·cases hd
def zqo (h:Play.H):List Play.SV->Option MEff
 | [c0,c1,c2,a0,a1,a2,a3,a4,a5,v0,v1,v2,v3,v4,v5,e0,e1,e2,e3,e4,e5]=>(d8 c0).bind fun x0=>(dI c1).bind fun x1=>(dI c2).bind fun x2=>(zin 8 h [a0,a1,a2,a3,a4,a5]).bind fun x3=>(zin 8 h [v0,v1,v2,v3,v4,v5]).bind fun x4=>(zin 8 h [e0,e1,e2,e3,e4,e5]).bind fun x5=>some ⟨x0,x1,x2,x3,x4,x5⟩
 | _=>none
theorem zhy (a b:List Play.SV) {vals:List Value} (hv:Play.VRL ρ (a++b) vals):∃ x y,vals=x++y/\Play.VRL ρ a x/\Play.VRL ρ b y:=by
 refine ⟨vals.take a.length,vals.drop a.length,(List.take_append_drop _ _).symm,?_,?_⟩
 ·have:=hv.take a.length;rwa [List.take_left] at this
 ·have:=hv.drop a.length;rwa [List.drop_left] at this
theorem zqp (s:Play.Sim P G M ρ h w) (cs:List Play.SV) (x:MEff) (vals:List Value) (hd:zqo h cs=some x) (hv:Play.VRL ρ cs vals):cs.length=21/\effE w vals x:=by
 unfold zqo at hd;split at hd
 ·rename_i c0 c1 c2 a0 a1 a2 a3 a4 a5 v0 v1 v2 v3 v4 v5 e0 e1 e2 e3 e4 e5;simp only [Option.bind_eq_some_iff] at hd;obtain ⟨x0,g0,x1,g1,x2,g2,x3,g3,x4,g4,x5,g5,hd⟩:=hd;cases hd;cases hv with|cons h0 hv=>cases hv with|cons h1 hv=>cases hv with|cons h2 hv=>obtain ⟨p,q,rfl,hp,hq⟩:=zhy [a0,a1,a2,a3,a4,a5] _ hv;obtain ⟨q1,q2,rfl,hq1,hq2⟩:=zhy [v0,v1,v2,v3,v4,v5] _ hq;obtain ⟨rfl,b0⟩:=zy5 g0 h0;obtain ⟨rfl,b1⟩:=z4e g1 h1;obtain ⟨rfl,b2⟩:=z4e g2 h2;obtain ⟨_,s3,rfl,f3,t3⟩:=zcj s 8 _ _ _ g3 hp;obtain ⟨_,s4,rfl,f4,t4⟩:=zcj s 8 _ _ _ g4 hq1;obtain ⟨_,s5,rfl,f5,t5⟩:=zcj s 8 _ _ _ g5 hq2;exact ⟨rfl,s3,s4,s5,by simp,b0,b1,b2,f3,t3,f4,t4,f5,t5⟩
 ·cases hd
def zqq (h:Play.H):List Play.SV->Option MIns
 | [c0,c1,c2,c3,c4,c5,c6,c7,c8]=>(dS c0).bind fun x0=>(d64 c1).bind fun x1=>(d64 c2).bind fun x2=>(z3q 6 (zil h) h c3).bind fun x3=>(z3q 21 (zqo h) h c4).bind fun x4=>(dI c5).bind fun x5=>(dI c6).bind fun x6=>(dI c7).bind fun x7=>(dI c8).bind fun x8=>some ⟨x0,x1,x2,x3,x4,x5,x6,x7,x8⟩
 | _=>none
theorem zqr (s:Play.Sim P G M ρ h w) (cs:List Play.SV) (x:MIns) (vals:List Value) (hd:zqq h cs=some x) (hv:Play.VRL ρ cs vals):cs.length=9/\insE w vals x:=by
 unfold zqq at hd;split at hd
 ·simp only [Option.bind_eq_some_iff] at hd;obtain ⟨x0,g0,x1,g1,x2,g2,x3,g3,x4,g4,x5,g5,x6,g6,x7,g7,x8,g8,hd⟩:=hd;cases hd;obtain ⟨y0,y1,y2,y3,y4,y5,y6,y7,y8,rfl,h0,h1,h2,h3,h4,h5,h6,h7,h8⟩:=vrl9' hv;obtain ⟨rfl,b0⟩:=zii g0 h0;obtain ⟨rfl,b1⟩:=zqn g1 h1;obtain ⟨rfl,b2⟩:=zqn g2 h2;have b3:=z27 s (znl s) h3 g3;have b4:=z27 s (zqp s) h4 g4;obtain ⟨rfl,b5⟩:=z4e g5 h5;obtain ⟨rfl,b6⟩:=z4e g6 h6;obtain ⟨rfl,b7⟩:=z4e g7 h7;obtain ⟨rfl,b8⟩:=z4e g8 h8;exact ⟨rfl,y3,y4,rfl,b0,b1,b2,b3,b4,b5,b6,b7,b8⟩
 ·cases hd
def zik (h:Play.H):List Play.SV->Option Mach
 | [c0,c1,c2,c3,c4,c5,c6]=>(dS c0).bind fun x0=>(dI c1).bind fun x1=>(dI c2).bind fun x2=>(z3q 4 (zqu) h c3).bind fun x3=>(z3q 2 (zij h) h c4).bind fun x4=>(z3q 2 (zio) h c5).bind fun x5=>(z3q 9 (zqq h) h c6).bind fun x6=>some ⟨x0,x1,x2,x3,x4,x5,x6⟩
 | _=>none
theorem znk (s:Play.Sim P G M ρ h w) (cs:List Play.SV) (x:Mach) (vals:List Value) (hd:zik h cs=some x) (hv:Play.VRL ρ cs vals):cs.length=7/\zk0 w vals x:=by
 unfold zik at hd;split at hd
 ·simp only [Option.bind_eq_some_iff] at hd;obtain ⟨x0,g0,x1,g1,x2,g2,x3,g3,x4,g4,x5,g5,x6,g6,hd⟩:=hd;cases hd;obtain ⟨y0,y1,y2,y3,y4,y5,y6,rfl,h0,h1,h2,h3,h4,h5,h6⟩:=vrl7' hv;obtain ⟨rfl,b0⟩:=zii g0 h0;obtain ⟨rfl,b1⟩:=z4e g1 h1;obtain ⟨rfl,b2⟩:=z4e g2 h2;have b3:=z27 s zqv h3 g3;have b4:=z27 s (zni s) h4 g4;have b5:=z27 s znm h5 g5;have b6:=z27 s (zqr s) h6 g6;exact ⟨rfl,y3,y4,y5,y6,rfl,b0,b1,b2,b3,b4,b5,b6⟩
 ·cases hd
def decV (h:Play.H):Play.SV->Option Mach
 | .agg l=>zik h l
 | _=>none
theorem zy6 (s:Play.Sim P G M ρ h w) {v:Play.SV} {x:Value} {m:Mach} (hd:decV h v=some m) (hv:Play.VR ρ v x):z1j w x m:=by
 unfold decV at hd;split at hd
 ·cases hv with
  | @agg l xs hl=>exact ⟨xs,rfl,(znk s _ _ _ hd hl).2⟩
 ·cases hd
end
def decR:Play.Res->Option Mach
 | .done v h=>decV h v
 | _=>none
theorem zhc {P:Program} {n:Nat} {f:FuncId} {args:List Value} {m:Mach} (hr:decR (Play.start P [] n f (args.map .lit) (.mk .e .nil))=some m) (w:World):
 Calls P f args.toArray w fun e w'=>∃ x:Value,e=.returned x/\z1j w' x m/\Below w.heap.size w w':=by
 generalize hs:Play.start P [] n f (args.map .lit) (.mk .e .nil)=r at hr
 cases r with
 | done v h'=>
   refine (Play.play_done hs w fun g cs hg=>by cases hg).mono ?_;rintro e w' ⟨x,ρ,h1,h2,h3,h4⟩
   exact ⟨x,h1,zy6 h3 hr h2,h4⟩
 | _=>cases hr
end Go.Proofs.YtofhpahihneipaaGreatDoor
namespace Go.Proofs.YtofhpahihneipaaGreatDoor
set_option maxRecDepth 100000
def gT0:Tm:=.mk 0 0 0 ⟨#[]⟩ 0 []
def gT1:Tm:=.mk 2 32 0 ⟨#[97]⟩ 0 []
def gT2:Tm:=.mk 2 16 0 ⟨#[97]⟩ 0 []
def gT3:Tm:=.mk 2 16 0 ⟨#[115]⟩ 0 []
def gT4:Tm:=.mk 2 32 0 ⟨#[98]⟩ 0 []
def gT5:Tm:=.mk 2 32 0 ⟨#[110]⟩ 0 []
def gT6:Tm:=.mk 5 32 0 ⟨#[]⟩ 0 [gT1,gT5]
def gT7:Tm:=.mk 2 16 0 ⟨#[114,46,115,112]⟩ 0 []
def gT8:Tm:=.mk 2 16 0 ⟨#[110]⟩ 0 []
def gT9:Tm:=.mk 2 32 0 ⟨#[116,111]⟩ 0 []
def gT10:Tm:=.mk 2 16 0 ⟨#[116,111]⟩ 0 []
def gT11:Tm:=.mk 1 16 0 ⟨#[]⟩ 0 []
def gT12:Tm:=.mk 1 16 2 ⟨#[]⟩ 0 []
def gT13:Tm:=.mk 2 32 0 ⟨#[100]⟩ 0 []
def gT14:Tm:=.mk 2 16 0 ⟨#[100]⟩ 0 []
def gT15:Tm:=.mk 6 16 0 ⟨#[]⟩ 0 [gT7,gT12]
def gT16:Tm:=.mk 16 1 0 ⟨#[]⟩ 0 [gT1,gT4]
def gT17:Tm:=.mk 5 16 0 ⟨#[]⟩ 0 [gT2,gT3]
def gT18:Tm:=.mk 5 16 0 ⟨#[]⟩ 0 [gT3,gT8]
def gT19:Tm:=.mk 2 1 0 ⟨#[114,46,122,102]⟩ 0 []
def gT20:Tm:=.mk 2 8 0 ⟨#[115]⟩ 0 []
def gT21:Tm:=.mk 7 32 0 ⟨#[]⟩ 0 [gT1,gT4]
def gT22:Tm:=.mk 18 1 0 ⟨#[]⟩ 0 [gT1,gT4]
def gT23:Tm:=.mk 24 8 0 ⟨#[]⟩ 0 [gT6]
def gT25:Tm:=.mk 1 1 1 ⟨#[]⟩ 0 []
def gT26:Tm:=.mk 2 1 0 ⟨#[114,46,115,102]⟩ 0 []
def gT27:Tm:=.mk 2 1 0 ⟨#[114,46,99,102]⟩ 0 []
def gT28:Tm:=.mk 20 33 0 ⟨#[]⟩ 0 [gT25,gT1]
def gT29:Tm:=.mk 10 32 0 ⟨#[]⟩ 0 [gT1,gT4]
def gT30:Tm:=.mk 11 32 0 ⟨#[]⟩ 0 [gT1,gT4]
def gT31:Tm:=.mk 12 32 0 ⟨#[]⟩ 0 [gT1,gT4]
def gT32:Tm:=.mk 13 32 0 ⟨#[]⟩ 0 [gT1,gT4]
def gT33:Tm:=.mk 14 32 0 ⟨#[]⟩ 0 [gT1,gT4]
def gT34:Tm:=.mk 15 32 0 ⟨#[]⟩ 0 [gT1,gT4]
def gT35:Tm:=.mk 10 16 0 ⟨#[]⟩ 0 [gT2,gT3]
def gT36:Tm:=.mk 5 16 0 ⟨#[]⟩ 0 [gT7,gT12]
def gT38:Tm:=.mk 5 32 0 ⟨#[]⟩ 0 [gT1,gT4]
def gT39:Tm:=.mk 6 32 0 ⟨#[]⟩ 0 [gT1,gT4]
def gT40:Tm:=.mk 8 32 0 ⟨#[]⟩ 0 [gT1,gT4]
def gT41:Tm:=.mk 9 32 0 ⟨#[]⟩ 0 [gT1,gT4]
def gT42:Tm:=.mk 17 1 0 ⟨#[]⟩ 0 [gT1,gT4]
def gT43:Tm:=.mk 16 1 0 ⟨#[]⟩ 0 [gT2,gT3]
def gT44:Tm:=.mk 17 1 0 ⟨#[]⟩ 0 [gT2,gT3]
def gT45:Tm:=.mk 18 1 0 ⟨#[]⟩ 0 [gT2,gT3]
def gT46:Tm:=.mk 8 16 0 ⟨#[]⟩ 0 [gT2,gT3]
def gT47:Tm:=.mk 9 16 0 ⟨#[]⟩ 0 [gT2,gT3]
def gT48:Tm:=.mk 5 16 0 ⟨#[]⟩ 0 [gT2,gT8]
def gT49:Tm:=.mk 2 32 0 ⟨#[112,99]⟩ 0 []
def gT50:Tm:=.mk 22 32 0 ⟨#[]⟩ 0 [gT23]
def gT51:Tm:=.mk 21 16 0 ⟨#[]⟩ 0 [gT13]
def gT52:Tm:=.mk 22 32 0 ⟨#[]⟩ 0 [gT16]
def gT53:Tm:=.mk 22 32 0 ⟨#[]⟩ 0 [gT42]
def gT54:Tm:=.mk 22 32 0 ⟨#[]⟩ 0 [gT22]
def gT55:Tm:=.mk 24 32 0 ⟨#[]⟩ 0 [gT6]
def gT56:Tm:=.mk 24 16 0 ⟨#[]⟩ 0 [gT6]
def gT57:Tm:=.mk 21 8 0 ⟨#[]⟩ 0 [gT13]
def gT58:Tm:=.mk 24 16 0 ⟨#[]⟩ 0 [gT7]
def gO0:MOper:=⟨⟨#[97]⟩,1,0,0,[⟨18,4⟩],(-1)⟩
def gO1:MOper:=⟨⟨#[100]⟩,1,0,0,[⟨7,3⟩],(-1)⟩
def gO2:MOper:=⟨⟨#[100]⟩,1,0,0,[⟨22,4⟩],(-1)⟩
def gO5:MOper:=⟨⟨#[115]⟩,1,0,0,[⟨4,3⟩],(-1)⟩
def gO6:MOper:=⟨⟨#[98]⟩,1,0,0,[⟨14,4⟩],(-1)⟩
def gO8:MOper:=⟨⟨#[97]⟩,1,0,0,[],0⟩
def gO9:MOper:=⟨⟨#[110]⟩,2,0,0,[⟨0,16⟩],(-1)⟩
def gO10:MOper:=⟨⟨#[116,111]⟩,4,0,0,[⟨0,10⟩],(-1)⟩
def gO11:MOper:=⟨⟨#[110]⟩,3,0,0,[⟨0,16⟩],(-1)⟩
def gO13:MOper:=⟨⟨#[110]⟩,3,0,0,[⟨0,4⟩],(-1)⟩
def gO16:MOper:=⟨⟨#[100]⟩,1,1,0,[⟨7,3⟩],(-1)⟩
def gO17:MOper:=⟨⟨#[115]⟩,1,1,0,[⟨4,3⟩],(-1)⟩
def gO18:MOper:=⟨⟨#[116,111]⟩,4,0,0,[⟨0,14⟩],(-1)⟩
def gO20:MOper:=⟨⟨#[110]⟩,3,0,0,[⟨0,5⟩],(-1)⟩
def gO21:MOper:=⟨⟨#[110]⟩,2,0,0,[⟨0,7⟩],(-1)⟩
def gO23:MOper:=⟨⟨#[116,111]⟩,4,0,0,[⟨0,26⟩],(-1)⟩
def gO26:MOper:=⟨⟨#[110]⟩,3,0,1,[⟨0,4⟩],(-1)⟩
def znz:List MReg:=[⟨⟨#[114,48]⟩,32,(-1),0⟩,⟨⟨#[114,49]⟩,32,(-1),0⟩,⟨⟨#[114,50]⟩,32,(-1),0⟩,⟨⟨#[114,51]⟩,32,(-1),0⟩,⟨⟨#[114,52]⟩,32,(-1),0⟩,⟨⟨#[114,53]⟩,32,(-1),0⟩,⟨⟨#[114,54]⟩,32,(-1),0⟩,⟨⟨#[114,55]⟩,32,(-1),0⟩,⟨⟨#[114,56]⟩,32,(-1),0⟩,⟨⟨#[114,57]⟩,32,(-1),0⟩,⟨⟨#[114,49,48]⟩,32,(-1),0⟩,⟨⟨#[114,49,49]⟩,32,(-1),0⟩,⟨⟨#[114,49,50]⟩,32,(-1),0⟩,⟨⟨#[114,49,51]⟩,32,(-1),0⟩,⟨⟨#[115,112]⟩,32,(-1),0⟩,⟨⟨#[108,114]⟩,32,(-1),0⟩]
def zj1:List MBank:=[⟨⟨#[103,112,114]⟩,[0,1,2,3,4,5,6,7,8,9,10,11,12,13,14,15]⟩]
def zjn:List MUnit:=[⟨⟨#[97,108,117]⟩,1⟩,⟨⟨#[109,101,109]⟩,1⟩,⟨⟨#[109,117,108]⟩,1⟩]
def zj3:MIns:=⟨⟨#[97,100,100]⟩,4227858432,0,[gO2,gO0,gO6],[⟨1,0,0,gT0,gT38,gT0⟩],0,1,1,0⟩
def zj4:MIns:=⟨⟨#[115,117,98]⟩,4227858432,67108864,[gO2,gO0,gO6],[⟨1,0,0,gT0,gT39,gT0⟩],0,1,1,0⟩
def zj5:MIns:=⟨⟨#[97,110,100]⟩,4227858432,134217728,[gO2,gO0,gO6],[⟨1,0,0,gT0,gT40,gT0⟩],0,1,1,0⟩
def zj6:MIns:=⟨⟨#[111,114]⟩,4227858432,201326592,[gO2,gO0,gO6],[⟨1,0,0,gT0,gT41,gT0⟩],0,1,1,0⟩
def zj7:MIns:=⟨⟨#[120,111,114]⟩,4227858432,268435456,[gO2,gO0,gO6],[⟨1,0,0,gT0,gT29,gT0⟩],0,1,1,0⟩
def zj8:MIns:=⟨⟨#[115,104,108]⟩,4227858432,335544320,[gO2,gO0,gO6],[⟨1,0,0,gT0,gT30,gT0⟩],0,1,1,0⟩
def zj9:MIns:=⟨⟨#[115,104,114]⟩,4227858432,402653184,[gO2,gO0,gO6],[⟨1,0,0,gT0,gT31,gT0⟩],0,1,1,0⟩
def zja:MIns:=⟨⟨#[115,97,114]⟩,4227858432,469762048,[gO2,gO0,gO6],[⟨1,0,0,gT0,gT32,gT0⟩],0,1,1,0⟩
def zjb:MIns:=⟨⟨#[109,117,108]⟩,4227858432,536870912,[gO2,gO0,gO6],[⟨1,0,0,gT0,gT21,gT0⟩],2,1,4,0⟩
def zjc:MIns:=⟨⟨#[117,100,105,118]⟩,4227858432,603979776,[gO2,gO0,gO6],[⟨1,0,0,gT0,gT33,gT0⟩],2,8,8,0⟩
def zel:MIns:=⟨⟨#[117,114,101,109]⟩,4227858432,671088640,[gO2,gO0,gO6],[⟨1,0,0,gT0,gT34,gT0⟩],2,8,8,0⟩
def zem:MIns:=⟨⟨#[97,100,100,105]⟩,4227858432,738197504,[gO2,gO0,gO9],[⟨1,0,0,gT0,gT6,gT0⟩],0,1,1,0⟩
def zen:MIns:=⟨⟨#[97,110,100,105]⟩,4227858432,805306368,[gO2,gO0,gO11],[⟨1,0,0,gT0,(.mk 8 32 0 ⟨#[]⟩ 0 [gT1,gT5]),gT0⟩],0,1,1,0⟩
def zeo:MIns:=⟨⟨#[111,114,105]⟩,4227858432,872415232,[gO2,gO0,gO11],[⟨1,0,0,gT0,(.mk 9 32 0 ⟨#[]⟩ 0 [gT1,gT5]),gT0⟩],0,1,1,0⟩
def zep:MIns:=⟨⟨#[120,111,114,105]⟩,4227858432,939524096,[gO2,gO0,gO11],[⟨1,0,0,gT0,(.mk 10 32 0 ⟨#[]⟩ 0 [gT1,gT5]),gT0⟩],0,1,1,0⟩
def zeq:MIns:=⟨⟨#[115,104,108,105]⟩,4227858432,1006632960,[gO2,gO0,gO20],[⟨1,0,0,gT0,(.mk 11 32 0 ⟨#[]⟩ 0 [gT1,gT5]),gT0⟩],0,1,1,0⟩
def zer:MIns:=⟨⟨#[115,104,114,105]⟩,4227858432,1073741824,[gO2,gO0,gO20],[⟨1,0,0,gT0,(.mk 12 32 0 ⟨#[]⟩ 0 [gT1,gT5]),gT0⟩],0,1,1,0⟩
def zes:MIns:=⟨⟨#[115,97,114,105]⟩,4227858432,1140850688,[gO2,gO0,gO20],[⟨1,0,0,gT0,(.mk 13 32 0 ⟨#[]⟩ 0 [gT1,gT5]),gT0⟩],0,1,1,0⟩
def zet:MIns:=⟨⟨#[108,117,105]⟩,4227858432,1207959552,[gO2,gO11],[⟨1,0,0,gT0,(.mk 11 32 0 ⟨#[]⟩ 0 [gT5,(.mk 1 32 16 ⟨#[]⟩ 0 [])]),gT0⟩],0,1,1,0⟩
def zeu:MIns:=⟨⟨#[108,119]⟩,4227858432,1275068416,[gO2,gO0,gO9],[⟨1,0,0,gT0,gT55,gT0⟩],1,1,2,0⟩
def zev:MIns:=⟨⟨#[108,98]⟩,4227858432,1342177280,[gO2,gO0,gO9],[⟨1,0,0,gT0,(.mk 23 32 0 ⟨#[]⟩ 0 [gT23]),gT0⟩],1,1,2,0⟩
def zew:MIns:=⟨⟨#[108,98,117]⟩,4227858432,1409286144,[gO2,gO0,gO9],[⟨1,0,0,gT0,gT50,gT0⟩],1,1,2,0⟩
def zex:MIns:=⟨⟨#[108,104,117]⟩,4227858432,1476395008,[gO2,gO0,gO9],[⟨1,0,0,gT0,(.mk 22 32 0 ⟨#[]⟩ 0 [gT56]),gT0⟩],1,1,2,0⟩
def zey:MIns:=⟨⟨#[115,119]⟩,4227858432,1543503872,[gO2,gO0,gO9],[⟨2,0,0,gT6,gT13,gT0⟩],1,1,1,0⟩
def zez:MIns:=⟨⟨#[115,104]⟩,4227858432,1610612736,[gO2,gO0,gO9],[⟨2,0,0,gT6,gT51,gT0⟩],1,1,1,0⟩
def zf0:MIns:=⟨⟨#[115,98]⟩,4227858432,1677721600,[gO2,gO0,gO9],[⟨2,0,0,gT6,gT57,gT0⟩],1,1,1,0⟩
def zf1:MIns:=⟨⟨#[101,113]⟩,4227858432,1744830464,[gO2,gO0,gO6],[⟨1,0,0,gT0,gT52,gT0⟩],0,1,1,0⟩
def zf2:MIns:=⟨⟨#[117,108,116]⟩,4227858432,1811939328,[gO2,gO0,gO6],[⟨1,0,0,gT0,gT53,gT0⟩],0,1,1,0⟩
def zf3:MIns:=⟨⟨#[115,108,116]⟩,4227858432,1879048192,[gO2,gO0,gO6],[⟨1,0,0,gT0,gT54,gT0⟩],0,1,1,0⟩
def zf4:MIns:=⟨⟨#[98,101,113]⟩,4227858432,1946157056,[gO0,gO6,gO18],[⟨3,0,0,gT0,gT9,gT16⟩],0,1,1,1⟩
def zf5:MIns:=⟨⟨#[98,110,101]⟩,4227858432,2013265920,[gO0,gO6,gO18],[⟨3,0,0,gT0,gT9,(.mk 3 1 0 ⟨#[]⟩ 0 [gT16])⟩],0,1,1,1⟩
def zf6:MIns:=⟨⟨#[98,108,116]⟩,4227858432,2080374784,[gO0,gO6,gO18],[⟨3,0,0,gT0,gT9,gT22⟩],0,1,1,1⟩
def zf7:MIns:=⟨⟨#[106,117,109,112]⟩,4227858432,2147483648,[gO23],[⟨3,0,0,gT0,gT9,gT0⟩],0,1,1,1⟩
def zf8:MIns:=⟨⟨#[99,97,108,108]⟩,4227858432,2214592512,[gO23],[⟨1,(-1),15,gT0,(.mk 5 32 0 ⟨#[]⟩ 0 [gT49,(.mk 1 32 8 ⟨#[]⟩ 0 [])]),gT0⟩,⟨3,0,0,gT0,gT9,gT0⟩],0,1,1,1⟩
def zf9:MIns:=⟨⟨#[106,114]⟩,4227858432,2281701376,[gO0],[⟨3,0,0,gT0,gT1,gT0⟩],0,1,1,1⟩
def zfa:MIns:=⟨⟨#[116,114,97,112]⟩,4227858432,2348810240,[gO11],[⟨4,0,0,gT0,gT5,gT0⟩],0,1,1,0⟩
def zfb:MIns:=⟨⟨#[116,101,108,108]⟩,4227858432,2415919104,[gO0],[⟨4,0,0,gT0,gT28,gT0⟩],0,1,1,0⟩
def zfc:MIns:=⟨⟨#[104,97,108,116]⟩,4227858432,2483027968,[gO0],[⟨4,0,0,gT0,gT1,gT0⟩],0,1,1,0⟩
def zfd:MIns:=⟨⟨#[110,111,112]⟩,4227858432,2550136832,[],[],0,1,1,0⟩
def zfe:MIns:=⟨⟨#[108,105]⟩,4227858432,2617245696,[gO2,gO9],[⟨1,0,0,gT0,gT5,gT0⟩],0,1,1,0⟩
def zrx:List MIns:=[zj3,zj4,zj5,zj6,zj7,zj8,zj9,zja,zjb,zjc,zel,zem,zen,zeo,zep,zeq,zer,zes,zet,zeu,zev,zew,zex,zey,zez,zf0,zf1,zf2,zf3,zf4,zf5,zf6,zf7,zf8,zf9,zfa,zfb,zfc,zfd,zfe]
def given0:Mach:=⟨⟨#[114,105,115,99]⟩,4,32,znz,zj1,zjn,zrx⟩
def zo0:List MReg:=[⟨⟨#[97,120]⟩,16,(-1),0⟩,⟨⟨#[98,120]⟩,16,(-1),0⟩,⟨⟨#[99,120]⟩,16,(-1),0⟩,⟨⟨#[100,120]⟩,16,(-1),0⟩,⟨⟨#[115,105]⟩,16,(-1),0⟩,⟨⟨#[100,105]⟩,16,(-1),0⟩,⟨⟨#[98,112]⟩,16,(-1),0⟩,⟨⟨#[115,112]⟩,16,(-1),0⟩,⟨⟨#[97,108]⟩,8,0,0⟩,⟨⟨#[98,108]⟩,8,1,0⟩,⟨⟨#[99,108]⟩,8,2,0⟩,⟨⟨#[100,108]⟩,8,3,0⟩,⟨⟨#[97,104]⟩,8,0,8⟩,⟨⟨#[98,104]⟩,8,1,8⟩,⟨⟨#[99,104]⟩,8,2,8⟩,⟨⟨#[100,104]⟩,8,3,8⟩,⟨⟨#[122,102]⟩,1,(-1),0⟩,⟨⟨#[99,102]⟩,1,(-1),0⟩,⟨⟨#[115,102]⟩,1,(-1),0⟩]
def zj2:List MBank:=[⟨⟨#[119]⟩,[0,1,2,3,4,5,6,7]⟩,⟨⟨#[98]⟩,[8,9,10,11,12,13,14,15]⟩]
def zjo:List MUnit:=[⟨⟨#[99,111,114,101]⟩,1⟩]
def zjd:MIns:=⟨⟨#[109,111,118]⟩,64512,0,[gO1,gO5],[⟨1,0,0,gT0,gT3,gT0⟩],0,1,1,0⟩
def zje:MIns:=⟨⟨#[109,111,118,105]⟩,64512,1024,[gO1,gO21],[⟨1,0,0,gT0,gT8,gT0⟩],0,1,1,0⟩
def zjf:MIns:=⟨⟨#[109,111,118,104]⟩,64512,2048,[gO1,gO8,gO21],[⟨1,0,0,gT0,(.mk 9 16 0 ⟨#[]⟩ 0 [(.mk 11 16 0 ⟨#[]⟩ 0 [gT8,(.mk 1 16 9 ⟨#[]⟩ 0 [])]),(.mk 8 16 0 ⟨#[]⟩ 0 [gT2,(.mk 1 16 511 ⟨#[]⟩ 0 [])])]),gT0⟩],0,1,1,0⟩
def zjg:MIns:=⟨⟨#[97,100,100]⟩,64512,3072,[gO1,gO8,gO5],[⟨1,0,0,gT0,gT17,gT0⟩,⟨1,(-1),16,gT0,(.mk 16 1 0 ⟨#[]⟩ 0 [gT17,gT11]),gT0⟩,⟨1,(-1),17,gT0,(.mk 17 1 0 ⟨#[]⟩ 0 [gT17,gT2]),gT0⟩,⟨1,(-1),18,gT0,(.mk 18 1 0 ⟨#[]⟩ 0 [gT17,gT11]),gT0⟩],0,1,1,0⟩
def zjh:MIns:=⟨⟨#[115,117,98]⟩,64512,4096,[gO1,gO8,gO5],[⟨1,0,0,gT0,(.mk 6 16 0 ⟨#[]⟩ 0 [gT2,gT3]),gT0⟩,⟨1,(-1),16,gT0,gT43,gT0⟩,⟨1,(-1),17,gT0,gT44,gT0⟩,⟨1,(-1),18,gT0,gT45,gT0⟩],0,1,1,0⟩
def zji:MIns:=⟨⟨#[97,110,100]⟩,64512,5120,[gO1,gO8,gO5],[⟨1,0,0,gT0,gT46,gT0⟩,⟨1,(-1),16,gT0,(.mk 16 1 0 ⟨#[]⟩ 0 [gT46,gT11]),gT0⟩],0,1,1,0⟩
def zjj:MIns:=⟨⟨#[111,114]⟩,64512,6144,[gO1,gO8,gO5],[⟨1,0,0,gT0,gT47,gT0⟩,⟨1,(-1),16,gT0,(.mk 16 1 0 ⟨#[]⟩ 0 [gT47,gT11]),gT0⟩],0,1,1,0⟩
def zjk:MIns:=⟨⟨#[120,111,114]⟩,64512,7168,[gO1,gO8,gO5],[⟨1,0,0,gT0,gT35,gT0⟩,⟨1,(-1),16,gT0,(.mk 16 1 0 ⟨#[]⟩ 0 [gT35,gT11]),gT0⟩],0,1,1,0⟩
def zjl:MIns:=⟨⟨#[97,100,100,105]⟩,64512,8192,[gO1,gO8,gO21],[⟨1,0,0,gT0,gT48,gT0⟩,⟨1,(-1),16,gT0,(.mk 16 1 0 ⟨#[]⟩ 0 [gT48,gT11]),gT0⟩],0,1,1,0⟩
def zjm:MIns:=⟨⟨#[115,104,108]⟩,64512,9216,[gO1,gO8,gO5],[⟨1,0,0,gT0,(.mk 11 16 0 ⟨#[]⟩ 0 [gT2,gT3]),gT0⟩],0,1,1,0⟩
def zff:MIns:=⟨⟨#[115,104,114]⟩,64512,10240,[gO1,gO8,gO5],[⟨1,0,0,gT0,(.mk 12 16 0 ⟨#[]⟩ 0 [gT2,gT3]),gT0⟩],0,1,1,0⟩
def zfg:MIns:=⟨⟨#[115,97,114]⟩,64512,11264,[gO1,gO8,gO5],[⟨1,0,0,gT0,(.mk 13 16 0 ⟨#[]⟩ 0 [gT2,gT3]),gT0⟩],0,1,1,0⟩
def zfh:MIns:=⟨⟨#[115,104,108,105]⟩,64512,12288,[gO1,gO8,gO13],[⟨1,0,0,gT0,(.mk 11 16 0 ⟨#[]⟩ 0 [gT2,gT8]),gT0⟩],0,1,1,0⟩
def zfi:MIns:=⟨⟨#[115,104,114,105]⟩,64512,13312,[gO1,gO8,gO13],[⟨1,0,0,gT0,(.mk 12 16 0 ⟨#[]⟩ 0 [gT2,gT8]),gT0⟩],0,1,1,0⟩
def zfj:MIns:=⟨⟨#[110,101,103]⟩,64512,14336,[gO1,gO8],[⟨1,0,0,gT0,(.mk 4 16 0 ⟨#[]⟩ 0 [gT2]),gT0⟩],0,1,1,0⟩
def zfk:MIns:=⟨⟨#[110,111,116]⟩,64512,15360,[gO1,gO8],[⟨1,0,0,gT0,(.mk 3 16 0 ⟨#[]⟩ 0 [gT2]),gT0⟩],0,1,1,0⟩
def zfl:MIns:=⟨⟨#[109,117,108]⟩,64512,16384,[gO1,gO8,gO5],[⟨1,0,0,gT0,(.mk 7 16 0 ⟨#[]⟩ 0 [gT2,gT3]),gT0⟩],0,1,6,0⟩
def zfm:MIns:=⟨⟨#[117,100,105,118]⟩,64512,17408,[gO1,gO8,gO5],[⟨1,0,0,gT0,(.mk 14 16 0 ⟨#[]⟩ 0 [gT2,gT3]),gT0⟩],0,1,12,0⟩
def zfn:MIns:=⟨⟨#[117,114,101,109]⟩,64512,18432,[gO1,gO8,gO5],[⟨1,0,0,gT0,(.mk 15 16 0 ⟨#[]⟩ 0 [gT2,gT3]),gT0⟩],0,1,12,0⟩
def zfo:MIns:=⟨⟨#[99,109,112]⟩,64512,19456,[gO1,gO5],[⟨1,(-1),16,gT0,(.mk 16 1 0 ⟨#[]⟩ 0 [gT14,gT3]),gT0⟩,⟨1,(-1),17,gT0,(.mk 17 1 0 ⟨#[]⟩ 0 [gT14,gT3]),gT0⟩,⟨1,(-1),18,gT0,(.mk 18 1 0 ⟨#[]⟩ 0 [gT14,gT3]),gT0⟩],0,1,1,0⟩
def zfp:MIns:=⟨⟨#[108,100]⟩,64512,20480,[gO1,gO5,gO26],[⟨1,0,0,gT0,(.mk 24 16 0 ⟨#[]⟩ 0 [gT18]),gT0⟩],0,1,2,0⟩
def zfq:MIns:=⟨⟨#[115,116]⟩,64512,21504,[gO1,gO5,gO26],[⟨2,0,0,gT18,gT14,gT0⟩],0,1,1,0⟩
def zfr:MIns:=⟨⟨#[108,100,98]⟩,64512,22528,[gO16,gO5,gO13],[⟨1,0,0,gT0,(.mk 24 8 0 ⟨#[]⟩ 0 [gT18]),gT0⟩],0,1,2,0⟩
def zfs:MIns:=⟨⟨#[115,116,98]⟩,64512,23552,[gO16,gO5,gO13],[⟨2,0,0,gT18,(.mk 2 8 0 ⟨#[100]⟩ 0 []),gT0⟩],0,1,1,0⟩
def zft:MIns:=⟨⟨#[109,111,118,98]⟩,64512,24576,[gO16,gO17],[⟨1,0,0,gT0,gT20,gT0⟩],0,1,1,0⟩
def zfu:MIns:=⟨⟨#[97,100,100,98]⟩,64512,25600,[gO16,⟨⟨#[97]⟩,1,1,0,[],0⟩,gO17],[⟨1,0,0,gT0,(.mk 5 8 0 ⟨#[]⟩ 0 [(.mk 2 8 0 ⟨#[97]⟩ 0 []),gT20]),gT0⟩],0,1,1,0⟩
def zfv:MIns:=⟨⟨#[122,101,120,116]⟩,64512,26624,[gO1,gO17],[⟨1,0,0,gT0,(.mk 22 16 0 ⟨#[]⟩ 0 [gT20]),gT0⟩],0,1,1,0⟩
def zfw:MIns:=⟨⟨#[115,101,120,116]⟩,64512,27648,[gO1,gO17],[⟨1,0,0,gT0,(.mk 23 16 0 ⟨#[]⟩ 0 [gT20]),gT0⟩],0,1,1,0⟩
def zfx:MIns:=⟨⟨#[115,101,116,122]⟩,64512,28672,[gO1],[⟨1,0,0,gT0,(.mk 22 16 0 ⟨#[]⟩ 0 [gT19]),gT0⟩],0,1,1,0⟩
def zfy:MIns:=⟨⟨#[115,101,116,99]⟩,64512,29696,[gO1],[⟨1,0,0,gT0,(.mk 22 16 0 ⟨#[]⟩ 0 [gT27]),gT0⟩],0,1,1,0⟩
def zfz:MIns:=⟨⟨#[115,101,116,115]⟩,64512,30720,[gO1],[⟨1,0,0,gT0,(.mk 22 16 0 ⟨#[]⟩ 0 [gT26]),gT0⟩],0,1,1,0⟩
def zg0:MIns:=⟨⟨#[106,122]⟩,64512,31744,[gO10],[⟨3,0,0,gT0,gT10,gT19⟩],0,1,1,0⟩
def zg1:MIns:=⟨⟨#[106,99]⟩,64512,32768,[gO10],[⟨3,0,0,gT0,gT10,gT27⟩],0,1,1,0⟩
def zg2:MIns:=⟨⟨#[106,115]⟩,64512,33792,[gO10],[⟨3,0,0,gT0,gT10,gT26⟩],0,1,1,0⟩
def zg3:MIns:=⟨⟨#[106,110,122]⟩,64512,34816,[gO10],[⟨3,0,0,gT0,gT10,(.mk 3 1 0 ⟨#[]⟩ 0 [gT19])⟩],0,1,1,0⟩
def zg4:MIns:=⟨⟨#[106,109,112]⟩,64512,35840,[gO10],[⟨3,0,0,gT0,gT10,gT0⟩],0,1,1,0⟩
def zg5:MIns:=⟨⟨#[106,114]⟩,64512,36864,[gO5],[⟨3,0,0,gT0,gT3,gT0⟩],0,1,1,0⟩
def zg6:MIns:=⟨⟨#[99,97,108,108]⟩,64512,37888,[gO10],[⟨2,0,0,gT15,(.mk 5 16 0 ⟨#[]⟩ 0 [(.mk 2 16 0 ⟨#[112,99]⟩ 0 []),gT12]),gT0⟩,⟨1,(-1),7,gT0,gT15,gT0⟩,⟨3,0,0,gT0,gT10,gT0⟩],0,1,1,0⟩
def zg7:MIns:=⟨⟨#[114,101,116]⟩,64512,38912,[],[⟨1,(-1),7,gT0,gT36,gT0⟩,⟨3,0,0,gT0,gT58,gT0⟩],0,1,2,0⟩
def zg8:MIns:=⟨⟨#[112,117,115,104]⟩,64512,39936,[gO5],[⟨2,0,0,gT15,gT3,gT0⟩,⟨1,(-1),7,gT0,gT15,gT0⟩],0,1,1,0⟩
def zg9:MIns:=⟨⟨#[112,111,112]⟩,64512,40960,[gO1],[⟨1,0,0,gT0,gT58,gT0⟩,⟨1,(-1),7,gT0,gT36,gT0⟩],0,1,2,0⟩
def zga:MIns:=⟨⟨#[116,114,97,112]⟩,64512,41984,[gO13],[⟨4,0,0,gT0,gT8,gT0⟩],0,1,1,0⟩
def zgb:MIns:=⟨⟨#[116,101,108,108]⟩,64512,43008,[gO5],[⟨4,0,0,gT0,(.mk 20 17 0 ⟨#[]⟩ 0 [gT25,gT3]),gT0⟩],0,1,1,0⟩
def zgc:MIns:=⟨⟨#[104,97,108,116]⟩,64512,44032,[gO5],[⟨4,0,0,gT0,gT3,gT0⟩],0,1,1,0⟩
def zgd:MIns:=⟨⟨#[110,111,112]⟩,64512,45056,[],[],0,1,1,0⟩
def zge:MIns:=⟨⟨#[101,113]⟩,64512,46080,[gO1,gO8,gO5],[⟨1,0,0,gT0,(.mk 22 16 0 ⟨#[]⟩ 0 [gT43]),gT0⟩],0,1,1,0⟩
def zgf:MIns:=⟨⟨#[117,108,116]⟩,64512,47104,[gO1,gO8,gO5],[⟨1,0,0,gT0,(.mk 22 16 0 ⟨#[]⟩ 0 [gT44]),gT0⟩],0,1,1,0⟩
def zgg:MIns:=⟨⟨#[115,108,116]⟩,64512,48128,[gO1,gO8,gO5],[⟨1,0,0,gT0,(.mk 22 16 0 ⟨#[]⟩ 0 [gT45]),gT0⟩],0,1,1,0⟩
def zgh:MIns:=⟨⟨#[98,114,110,122]⟩,64512,49152,[gO1,⟨⟨#[116,111]⟩,4,0,0,[⟨0,7⟩],(-1)⟩],[⟨3,0,0,gT0,gT10,(.mk 3 1 0 ⟨#[]⟩ 0 [(.mk 16 1 0 ⟨#[]⟩ 0 [gT14,gT11])])⟩],0,1,1,0⟩
def zry:List MIns:=[zjd,zje,zjf,zjg,zjh,zji,zjj,zjk,zjl,zjm,zff,zfg,zfh,zfi,zfj,zfk,zfl,zfm,zfn,zfo,zfp,zfq,zfr,zfs,zft,zfu,zfv,zfw,zfx,zfy,zfz,zg0,zg1,zg2,zg3,zg4,zg5,zg6,zg7,zg8,zg9,zga,zgb,zgc,zgd,zge,zgf,zgg,zgh]
def given1:Mach:=⟨⟨#[102,108,97,103,115]⟩,2,16,zo0,zj2,zjo,zry⟩
end Go.Proofs.YtofhpahihneipaaGreatDoor
