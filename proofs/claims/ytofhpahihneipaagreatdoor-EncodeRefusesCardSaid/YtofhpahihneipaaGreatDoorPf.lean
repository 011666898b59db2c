import Derived.Test.YtofhpahihneipaaGreatDoorGr
import Derived.Test.YtofhpahihneipaaGreatDoorPe
import Derived.Test.YtofhpahihneipaaGreatDoorGp
import Derived.Laws.AppendOwn
import Derived.Test.YtofhpahihneipaaGreatDoorGa
import Derived.Laws.BitsAllLaws
import Derived.Laws.Bits64b
import Derived.Test.YtofhpahihneipaaGreatDoorGg
import Derived.Test.YtofhpahihneipaaGreatDoorGq
import Derived.Deep.RegionHeld3
import Derived.Test.YtofhpahihneipaaGreatDoorGh
import Derived.RangeFuncBox
import Derived.Test.YtofhpahihneipaaGreatDoorGk
import Derived.BigQuiet
set_option linter.unusedVariables false
set_option linter.unusedSimpArgs false
set_option warningAsError false
set_option maxHeartbeats 8000000
open Go.Lib (hid)
open Go.Proofs.Tryz (prog)
noncomputable section
namespace Go.Proofs.YtofhpahihneipaaGreatDoor
open Go.RowKit Go.Instr Go.Sort
set_option maxRecDepth 100000
def uRow (V:List Nat):List Value:=V.map fun (x:Nat)=>Value.int .u64 (x:Int)
end Go.Proofs.YtofhpahihneipaaGreatDoor
namespace Go.Proofs.YtofhpahihneipaaGreatDoor
open Go.RowKit Go.Instr Go.Sort Go.Lib
set_option maxRecDepth 100000
theorem zkw {w:World} {base:Nat} {v:Value} {l:List Nat} (h:w.ownsRow base 31 1 v l.length (uRow l)) (hl:l.length<=maxLen) (hz:∀ x∈l,x<18446744073709551616):zd 1 u64E w v l:=by
 obtain ⟨_,h|⟨g,cap,cur,hv,_,hh,hc,hm,_,ht⟩⟩:=h
 ·have h0:l=[]:=List.length_eq_zero_iff.1 h.2;subst h0;exact ⟨none,0,h.1,by simp,by simp,by simp,fun i x hx=>by simp at hx⟩
 ·refine ⟨some ⟨g,0,none⟩,cap,hv,hl,hc,hm,fun i x hli=>?_⟩;have hil:=(List.getElem?_eq_some_iff.1 hli).1;refine ⟨g,0,[.int .u64 (x:Nat)],rfl,(Array.getElem?_eq_some_iff.1 hh).1,rfl,fun j u hj=>?_,rfl,hz x (List.mem_of_getElem? hli)⟩
  cases j with
  | succ j=>simp at hj
  | zero=>simp at hj;subst hj;refine zb hh ?_;have e:(cur.toList.take (l.length*1))[i]? =some (.int .u64 (x:Nat)):=(by rw [ht];unfold uRow;rw [List.getElem?_map,hli];rfl);rw [List.getElem?_take] at e;simp only [Nat.mul_one,hil,if_true] at e;simpa using e
end Go.Proofs.YtofhpahihneipaaGreatDoor
namespace Go.Proofs.YtofhpahihneipaaGreatDoor
open Go.RowKit Go.Shelf Go.Deep Go.Instr Go.Sort
attribute [local go_sem] Oper.semAt_some
theorem zmv (a b:Nat) (ha:a<18446744073709551616) (hb:b<18446744073709551616):bits .andNot .u64 (a:Int) (b:Int)=((a-(a&&&b):Nat):Int):=by
 rw [u64_andNot _ _ (by omega) (by omega) (by omega) (by omega)]
 congr 1
 apply Nat.eq_of_testBit_eq;intro j;rw [zan,Nat.testBit_and,Int.toNat_natCast,Int.toNat_natCast];rw [show 18446744073709551615-b=2^64-(b+1) by omega,Nat.testBit_two_pow_sub_succ (by omega)];by_cases hj:j<64
 ·simp [hj]
 ·have:a.testBit j=false:=Nat.testBit_lt_two_pow (Nat.lt_of_lt_of_le ha (Nat.pow_le_pow_right (n:=2) (by omega) (show 64<=j by omega)));simp [this]
def pst (field w:Nat) (x:Nat×MPiece):Nat:=pstep w (field / 2^x.1) x.2
theorem zmb (field:Nat):∀ (L:List MPiece) (p w:Nat),(z25 p L).foldl (pst field) w=putN w (field / 2^p) L
 | [],p,w=>rfl
 | x::L,p,w=>by simp only [z25,List.foldl_cons,putN];rw [zmb field L (p+x.l),Nat.div_div_eq_div_mul,<-Nat.pow_add];rfl
theorem z013 (field w:Nat) (x:Nat×MPiece) (hw:w<18446744073709551616) (h:x.2.p+x.2.l<=64):pst field w x<18446744073709551616/\field / 2^x.1%2^x.2.l*2^x.2.p<18446744073709551616/\pcM x.2<18446744073709551616:=by
 have hm:=Nat.mod_lt (field / 2^x.1) (Nat.two_pow_pos x.2.l);have h1:field / 2^x.1%2^x.2.l*2^x.2.p<2^x.2.l*2^x.2.p:=Nat.mul_lt_mul_of_pos_right hm (Nat.two_pow_pos _);rw [<- Nat.pow_add] at h1;have h2:=zhe (x.2.l+x.2.p) (by omega);have h3:pcM x.2<2^x.2.l*2^x.2.p:=by rw [ztj];exact Nat.mul_lt_mul_of_pos_right (by have:=Nat.two_pow_pos x.2.l;omega) (Nat.two_pow_pos _)
 rw [<- Nat.pow_add] at h3;refine ⟨?_,by omega,by omega⟩;unfold pst pstep;exact Nat.or_lt_two_pow (n:=64) (Nat.lt_of_le_of_lt (Nat.sub_le _ _) hw) (by omega)
theorem zz6 (word field p k q:Nat) (hw:word<18446744073709551616) (hf:field<18446744073709551616) (hk:k<=64) (hp:p<=64) (s2:field / 2^q%2^k*2^p<18446744073709551616) (s3:mk k*2^p<18446744073709551616):
 bits .or .u64 (bits .andNot .u64 (word:Int) (IntKind.u64.wrap (((mk k:Nat):Int)*2^p))) (IntKind.u64.wrap (bits .and .u64 ((field:Int) / 2^q) ((mk k:Nat):Int)*2^p))=(((word-(word&&&(mk k*2^p)))|||(field / 2^q%2^k*2^p):Nat):Int):=by
 have e:((field:Int) / 2^q)=((field / 2^q:Nat):Int):=by simp
 rw [e,zcc _ k (Nat.lt_of_le_of_lt (Nat.div_le_self _ _) hf) hk,z9e _ p _ rfl s2,z9e _ p _ rfl s3,zmv word _ hw s3];exact bits_or_u64_nat _ _ (Nat.lt_of_le_of_lt (Nat.sub_le _ _) hw) s2
structure QInv (n₀ Bs field:Nat) (w:World) (word:Nat) (pre:List PEl) (W:World):Prop where
 below:Below n₀ w W
 size:Bs+2<=W.heap.size
 b0:Boxed W n₀ 31 (.int .u64 ((pre.map (·.1)).foldl (pst field) word:Nat))
 b1:Boxed W (n₀+1) 31 (.int .u64 (field:Nat))
 lt:(pre.map (·.1)).foldl (pst field) word<18446744073709551616
theorem QInv.own_from {n₀ Bs field word B:Nat} {w:World} (hB:Bs+2<=B) (hw:n₀<=w.heap.size) (hs:n₀+2<=Bs):OwnFrom B (fun (pre:List PEl) W=>QInv n₀ Bs field w word pre W):=fun s A B' row hs hg hr=>by
 have hne:∀ k:Nat,k<Bs+2->some k≠row:=fun k hk e=>by have:=(hr k e.symm).1;omega
 exact ⟨hs.below.grown hg (Nat.le_trans hw hs.below.size) (fun k e=>by have:=(hr k e).1;omega),Nat.le_trans hs.size hg.size,hs.b0.kept hg (hne _ (by omega)),hs.b1.kept hg (hne _ (by omega)),hs.lt⟩
def putR (size:Int) (word:Nat) (L:List MPiece) (field:Nat):Nat×Int:=if cwR size word L=0 then (if okB (zl L) field=true then (putN word field L,0) else (0,24)) else (0,cwR size word L)
theorem zop (n:Nat) (h:n<=64) (w:World):Calls prog 77 #[.int .i64 n] w fun e w'=>e=.returned (.int .u64 (mk n:Nat))/\w=w':=by
 by_cases h0:1<=n
 ·exact z2m n w h0 h
 ·obtain rfl:n=0:=by omega
  exact zyw 0 w (by omega)
set_option maxRecDepth 100000 in
theorem zz9 (size:Int) (word:Nat) (A:Option Addr) (c:Nat) (L:List MPiece) (field:Nat) (w:World) (hA:z3y w A L) (hok:zcb L) (hc:L.length<=c) (hcm:c<=maxLen) (hcw:cwR size word L=0) (hG:zmq L) (hword:word<18446744073709551616) (hfield:field<18446744073709551616):
 CallsIn Fence.wide 3 prog 44 #[.int .i64 size,.int .u64 word,.slice A L.length c,.int .u64 field] w fun e w'=>e=.returned (.tuple #[.int .u64 ((putR size word L field).1:Nat),.int .i64 (putR size word L field).2])/\Below w.heap.size w w':=by
 have HCW:=hid (fun W (h:z3y W A L)=>z39 size word A c L W h hok hc hcm);rw [hcw] at HCW;have HA:=hid hA;have HAL:=hid (fun W (h:Below w.heap.size w W)=>hA.later h);have HFW:=hid (fun W (h:z3y W A L)=>zag A c L W h hG hc hcm);have HMW:=hid (fun W=>zop (zl L) hG.2 W);have HP:=hid (fun n W=>zhb Fence.wide n trivial rfl A L.length c W);have HGG:=hid hG;have HC:=hid (And.intro hc hcm);have HOK:=hid (zt7 (zl L) field);have hr:putR size word L field=if okB (zl L) field=true then (putN word field L,0) else (0,24):=by unfold putR;rw [if_pos hcw]
 have HRR:=hid hr;refine callsIn_of_wp_marks Tryz.func44 rfl trivial ?_ rfl;simp only [Tryz.ntmps44,List.size_toArray,List.length_cons,List.length_nil,Nat.reduceAdd,Nat.reduceSub,Array.replicate_succ,Array.replicate_zero,List.push_toArray,List.append_toArray,List.nil_append,List.cons_append];clear hA hok hc hcm hcw hG hr;generalize zl L=wd at *;cases hq:okB wd field
 all_goals
  rw [hq] at HOK HRR;simp only [Bool.false_eq_true,if_false,if_true] at HRR;clear hq;gi_wp2_with (refine ⟨trivial,?_⟩;gi_at_call 75;refine (callsIn_wide.2 (HCW.out _ (HAL.out _ (((Below.refl _ _).alloc (Nat.le_refl _) _).alloc (by simp) _)))).mono ?_;rintro e w2 ⟨rfl,hb2⟩)
  have hw2:w.heap.size+2<=w2.heap.size:=by have:=hb2.size;simp at this;omega
  have hbw2:Below w.heap.size w w2:=((((Below.refl _ w).alloc (Nat.le_refl _) _).alloc (by simp) _)).trans (hb2.mono (by simp;omega));have hx0:Boxed w2 w.heap.size 31 (.int .u64 (word:Nat)):=(hb2.block _ (by simp;omega)).trans ((Boxed.new w _ _).alloc _);have hx1:Boxed w2 (w.heap.size+1) 31 (.int .u64 (field:Nat)):=(hb2.block _ (by simp)).trans (by have:=Boxed.new (w.alloc (.cells #[.int .u64 (word:Nat)] 31)) 31 (.int .u64 (field:Nat));rwa [World.size_alloc] at this);have d7:=hx1.cell;have HSB:=hid (fun (X:World) (h:Below w2.heap.size w2 X)=>(show X.cell? ⟨w.heap.size+1,0,none⟩=some (.int .u64 (field:Nat)) from (h.cell (p:=⟨w.heap.size+1,0,none⟩) (show w.heap.size+1<w2.heap.size by omega)).trans d7));have HAL2:=hid (fun W (h:Below w2.heap.size w2 W)=>HAL.out W (hbw2.trans (h.mono (by omega))));have HBX:=hid (And.intro hbw2 (And.intro hx0 hx1));clear hb2 hbw2 hx0 hx1;have hleq:=HOK.out.symm;refine wpIn_wide.2 ?_
  first|(go_region_held3 (fun w'=>w'.cell? ⟨w.heap.size+1,0,none⟩=some (.int .u64 (field:Nat)))
   (first|assumption|(refine HSB.out _ ?_;(repeat (first|assumption|exact Below.refl _ _|refine Below.drew ?_));done)|go_keep)
   (first
     | (go_at_call 78;go_loud ((with_reducible refine (HFW.out _ (HAL2.out _ (by (repeat (first|assumption|exact Below.refl _ _|refine Below.drew ?_))))).mono ?_);rintro e w3 ⟨rfl,hb3⟩;have hB3:Below w2.heap.size w2 w3:=Below.trans (by (repeat (first|assumption|exact Below.refl _ _|refine Below.drew ?_))) (hb3.mono (by (first|assumption|exact Nat.le_refl _|omega|(simp;done))));clear hb3;have d0:=HSB.out w3 hB3))
     | (go_at_call 77;go_loud ((with_reducible refine (HMW.out _).mono ?_);rintro e w4 ⟨rfl,rfl⟩))
     | (go_at_call 76;go_loud ((with_reducible refine (z7c 24 _ _ _ (by simp)).mono ?_);(first|rw [z3m]|rw [z3w]);rintro e w5 ⟨rfl,rfl⟩))
     | (go_at_call 76;go_loud ((with_reducible refine (z00p 24 _ _ _ (by simp)).mono ?_);(first|rw [z3m]|rw [z3w]);rintro e w5 ⟨rfl,rfl⟩))))|fail "stood"
 ·gi_wp2
  exact ⟨.tuple #[.int .u64 0,.int .i64 24],by simp [results,Tryz.f44,go_sem],by rw [HRR.out];rfl,HBX.out.1.trans ((hB3.mono (by omega)).alloc (by have:=hB3.size;omega) _)⟩
 ·gi_wp2_with (refine ⟨trivial,?_⟩;gi_at_call 79;refine (HP.out _ _).mono ?_;rintro e w' ⟨rfl,rfl⟩)
  obtain ⟨B3,hB3e⟩:∃ B3,w3.heap.size=B3:=⟨_,rfl⟩;obtain ⟨W0,hW0⟩:∃ W0,W0=(w3.alloc (.cells #[.bool true] 4)).alloc (.cells #[.slice A L.length c] 61):=⟨_,rfl⟩;have hsz:W0.heap.size=B3+2:=by rw [hW0];simp [hB3e]
  have h3s:=hB3.size;have hbel:Below w.heap.size w W0:=by rw [hW0];exact ((HBX.out.1.trans (hB3.mono (by omega))).alloc (by omega) _).alloc (by simp;omega) _
  have hbx0:Boxed W0 w.heap.size 31 (.int .u64 (word:Nat)):=by rw [hW0];have h2:Boxed w3 w.heap.size 31 (.int .u64 (word:Nat)):=(hB3.block _ (by omega)).trans HBX.out.2.1;exact (h2.alloc _).alloc _
  have hbx1:Boxed W0 (w.heap.size+1) 31 (.int .u64 (field:Nat)):=by rw [hW0];have h2:Boxed w3 (w.heap.size+1) 31 (.int .u64 (field:Nat)):=(hB3.block _ (by omega)).trans HBX.out.2.2;exact (h2.alloc _).alloc _
  have hlb:W0.heap[B3+1]? =some (.cells #[.slice A L.length c] 61 (0,0)):=by
   rw [hW0,<-hB3e];have:=World.alloc_heap_new (w3.alloc (.cells #[.bool true] 4)) (.cells #[.slice A L.length c] 61)
   rwa [World.size_alloc] at this
  have h3w:w.heap.size+2<=B3:=by omega
  try rw [hB3e]
  rw [<- hW0];clear hW0 hB3e hB3 h3s hw2;have hinv:QInv w.heap.size B3 field w word [] W0:=⟨hbel,by omega,hbx0,hbx1,by simpa using hword⟩
  refine wpIn_rangeFunc_ownH (F:=Fence.wide) rfl (by omega) (gf:=106) (lb:= #[.pointer (some ⟨B3+1,0,none⟩)]) rfl trivial (enters_of Tryz.func106 (by kernel_rfl) rfl)
   (z8y Fence.wide rfl (3-1) trivial rfl w (B3+1) w.heap.size w.heap.size A c L HA.out.in HGG.out HC.out.1 HC.out.2 W0 hbel (by omega) hlb (by omega) (by omega))
   (fun h k=>h.trans k) (PKp.putObj (by omega)) (Below.refl _ _) (fun _=>rfl)
   (fun pre W=>QInv w.heap.size B3 field w word pre W) (fun _ _ _=>False) (QInv.own_from (by omega) (Nat.le_refl _) h3w) (fun _ _ _ _ _ hs _ _=>hs) hinv
   (fun x a' W=>∃ Bx,B3+2<=Bx/\W.heap[Bx]? =some (.cells #[.int .i64 x.1.2.pos,.int .i64 x.1.2.len] 128 (0,0))/\a'={ tmps:= #[.int .i64 size,.int .u64 (word:Nat),.slice A L.length c,.int .u64 (field:Nat),undef,.pointer (some ⟨w.heap.size,0,none⟩),undef,.pointer (some ⟨w.heap.size+1,0,none⟩),.int .u64 0,.int .i64 0,.int .i64 0,.int .i64 0,.int .i64 (x.1.1:Nat),.pointer (some ⟨Bx,0,none⟩),undef,.int .i64 size,.int .u64 (word:Nat),.slice A L.length c,.int .i64 0,.int .i64 0,.bool false,undef,.int .u64 (field:Nat),.slice A L.length c,.int .i64 (wd:Nat),.int .u64 (mk wd:Nat),.bool true,.slice (some ⟨B3,0,none⟩) 1 1,.int .i64 0,.int .i64 0,.bool false,undef,.slice A L.length c,.func (.func 106) #[] #[.pointer (some ⟨B3+1,0,none⟩)],.int .i64 (x.1.1:Nat),.agg #[.int .i64 x.1.2.pos,.int .i64 x.1.2.len],undef,undef,undef,undef,undef,undef,undef,undef,undef,undef,undef,undef,undef,undef,undef,undef,undef,undef,undef],defers:=[] })
   (fun x a' _ X Y row hs hg hr=>by obtain ⟨Bx,h1,h2,h3⟩:=hs;exact ⟨Bx,h1,(grownBy_keeps_cells hg (fun r e=>(hr r e).2) h2 rfl).trans h2,h3⟩)
   ?assign ?body ?done ?stop
  case assign=>
   rintro l pre x W K hi hK;simp only [PEl.encs] at hK ⊢;have hbW:=hi.below.size;gi_wp2
   exact hK _ _ ((KeepsOthers.alloc _ _).from _) (PKp.alloc W hbW _) (QInv.own_from (B:=B3+2) (Nat.le_refl _) (Nat.le_refl _) h3w pre W _ none hi (World.grownBy_alloc W _ none) (fun r e=>by cases e)) ⟨W.heap.size,hi.size,World.alloc_heap_new W _,rfl⟩
  case body=>
   rintro l pre x a' W hl _ hi ⟨Bx,hBx,hcx,rfl⟩ hlt;obtain ⟨e1,e2,l1,l2,l3⟩:=x.nats;obtain ⟨f,hf⟩:∃ f,(pre.map (·.1)).foldl (pst field) word=f:=⟨_,rfl⟩;have hflt:=hi.lt;have hb0:=hi.b0;have hb1:=hi.b1;rw [hf] at hflt hb0;obtain ⟨s1,s2,s3⟩:=z013 field f x.1 hflt l3;have hst:((pre++[x]).map (·.1)).foldl (pst field) word=pst field f x.1:=by rw [List.map_append,List.foldl_append,hf];rfl
   have HST:=hid hst;have c1:=hb0.cell;have f1:=hb0.frozen;have c2:=hb1.cell;obtain ⟨d0,d1⟩:=pcell hcx;have hqk:=x.2.2;rw [e1] at d0;rw [e2] at d1;rw [e1,e2];have hgs:pst field f x.1=(f-(f&&&(mk x.1.2.l*2^x.1.2.p)))|||(field / 2^x.1.1%2^x.1.2.l*2^x.1.2.p):=rfl;rw [ztj] at s3;change mk x.1.2.l*2^x.1.2.p<_ at s3;obtain ⟨p,hp⟩:∃ p,x.1.2.p=p:=⟨_,rfl⟩;obtain ⟨k,hk⟩:∃ k,x.1.2.l=k:=⟨_,rfl⟩;obtain ⟨q,hq⟩:∃ q,x.1.1=q:=⟨_,rfl⟩;rw [hp,hk,hq] at hgs s2;rw [hp,hk] at s3;rw [hp] at d0 l3;rw [hk] at d1 l1 l2 l3 hqk;rw [hq] at hqk;rw [hp,hk,hq];have HM:=hid (fun W=>z2m k W l1 l2);have HV:=hid (zz6 f field p k q hflt hfield l2 (by omega) s2 s3);have HI:=hid (And.intro hi (And.intro hgs (And.intro hf s1)));clear hst hgs hf hi hcx hlt e1 e2 hp hk hq s1 s2 s3;gi_wp2_with (refine ⟨trivial,?_⟩;gi_at_call 77;refine (CallsIn.inRound l (callsIn_wide.2 (HM.out _))).mono ?_;rintro e w' ⟨rfl,rfl⟩)
   refine z59 l _ 15 (by kernel_rfl) (by kernel_rfl) (by kernel_rfl) ?_;change wpStill _ _ (World.drew _) (fun a'=>wpList _ _ _ _ a' (World.drew _)) _ _;simp only [List.take_succ_cons,List.take_zero,List.drop_succ_cons,List.drop_zero];repeat still_step
   refine wpStill_nil ?_;go_wp2
   refine ⟨rfl,?_⟩;rw [HV.out,<-HI.out.2.1];obtain ⟨hi,_,hf,s1⟩:=HI.out;refine ⟨((KeepsOthers.setCell _ _ _).trans (KeepsOthers.drew _)).from _,(PKp.setCell _ (Nat.le_refl _) 0 _).trans (PKp.drew _),?_⟩;refine ⟨hi.below.trans ((PKp.setCell (n₀:=w.heap.size) W (Nat.le_refl _) 0 _).trans (PKp.drew _)).1,by have:=hi.size;simp;omega,?_,hi.b1.other (by omega) _,?_⟩
   ·rw [HST.out];exact hi.b0.set _
   ·rw [HST.out];exact s1
  case done=>
   rintro D xs W hD hxs hi hK;have hres:(xs.map (·.1)).foldl (pst field) word=putN word field L:=by rw [hxs,zmb field L 0 word];simp
   have hbw:=hi.b0;rw [hres] at hbw;have c2:=hbw.cell;have hbl:=hi.below;have HR:=hid (hbl.trans (belowK_b (w:=w) (Nat.le_refl _) W D _ (.deferred none) (by omega) hK rfl rfl));clear hres hi hbw hbl;gi_wp2
   refine ⟨by simp,.inl ⟨_,_,rfl,run_takeDeferred hK,?_⟩⟩;exact ⟨.tuple #[.int .u64 (putN word field L:Nat),.int .i64 0],by simp [results,Tryz.f44,go_sem],by rw [HRR.out],HR.out⟩
  case stop=>rintro D c pre W hD hpre hx;exact hx.elim
set_option maxRecDepth 100000 in
theorem zz8 (size : Int) (word : Nat) (A : Option Addr) (c : Nat) (L : List MPiece) (field : Nat) (w : World) (hA : z3y w A L) (hok : zcb L) (hc : L.length <= c) (hcm : c <= maxLen) (hword : word < 18446744073709551616) (hfield : field < 18446744073709551616) :
 Calls prog 44 #[.int .i64 size, .int .u64 word, .slice A L.length c, .int .u64 field] w fun e w' => e = .returned (.tuple #[.int .u64 ((putR size word L field).1 : Nat), .int .i64 (putR size word L field).2]) /\ Below w.heap.size w w' := by
 by_cases h : cwR size word L = 0
 ·have hm := zd3 (zxc h).1;exact callsIn_wide.1 (zz9 size word A c L field w hA hok hc hcm h (zlr hm.1 hm.2.2.1) hword hfield)
 ·have HCW := hid (fun W (h : z3y W A L) => z39 size word A c L W h hok hc hcm);have HAL := hid (fun W (h : Below w.heap.size w W) => hA.later h);rw [show putR size word L field = (0, cwR size word L) by unfold putR; rw [if_neg h]];have h1 : (cwR size word L != 0) = true := by simpa using h
  generalize cwR size word L = z at *;clear h hA hok hc hcm hword hfield;refine (callsIn_wide (n := 3)).1 ?_;refine callsIn_of_wp_marks Tryz.func44 rfl trivial ?_ rfl;simp only [Tryz.ntmps44, List.size_toArray, List.length_cons, List.length_nil, Nat.reduceAdd, Nat.reduceSub, Array.replicate_succ, Array.replicate_zero, List.push_toArray, List.append_toArray, List.nil_append, List.cons_append];gi_wp2_with (refine ⟨trivial, ?_⟩; gi_at_call 75; refine (callsIn_wide.2 (HCW.out _ (HAL.out _ (((Below.refl _ _).alloc (Nat.le_refl _) _).alloc (by simp) _)))).mono ?_; rintro e w2 ⟨rfl, hb2⟩)
  exact ⟨.tuple #[.int .u64 0, .int .i64 z], by simp [results, Tryz.f44, go_sem], rfl, (((Below.refl _ w).alloc (Nat.le_refl _) _).alloc (by simp) _).trans (hb2.mono (by simp; omega))⟩
end Go.Proofs.YtofhpahihneipaaGreatDoor
namespace Go.Proofs.YtofhpahihneipaaGreatDoor
open Go.RowKit Go.Instr Go.Sort
set_option maxRecDepth 100000
structure ThenW (b:Nat) (W W':World) (x:Nat):Prop where
 os:W'.os=W.os
 tape:W'.tape=W.tape
 output:W'.output=W.output
 size:W.heap.size<=W'.heap.size
 block:∀ i,i<W.heap.size->i≠b->W'.heap[i]? =W.heap[i]?
 box:Boxed W' b 31 (.int .u64 (x:Nat))
theorem ThenW.grown {b:Nat} {W W':World} {x:Nat} (h:Below W.heap.size W W') (hb:Boxed W b 31 (.int .u64 (x:Nat))):ThenW b W W' x:=
 ⟨h.os,h.tape,h.output,h.size,fun i hi _=>h.block i hi,(h.block b hb.lt).trans hb⟩
theorem ThenW.refl {b:Nat} {W:World} {x:Nat} (hb:Boxed W b 31 (.int .u64 (x:Nat))):ThenW b W W x:=.grown (Below.refl _ _) hb
theorem ThenW.trans {b:Nat} {W W' W'':World} {x y:Nat} (h:ThenW b W W' x) (k:ThenW b W' W'' y):ThenW b W W'' y:=
 ⟨k.os.trans h.os,k.tape.trans h.tape,k.output.trans h.output,Nat.le_trans h.size k.size,fun i hi hn=>(k.block i (Nat.lt_of_lt_of_le hi h.size) hn).trans (h.block i hi hn),k.box⟩
theorem ThenW.below {b n:Nat} {W W':World} {x:Nat} (h:ThenW b W W' x) (hn:n<=b) (hs:n<=W.heap.size):Below n W W':=
 ⟨h.os,h.tape,h.output,h.size,fun i hi=>h.block i (by omega) (by omega)⟩
theorem ThenW.set {b:Nat} {W X:World} {x:Nat} (hb:Boxed W b 31 (.int .u64 (x:Nat))) (h:Below W.heap.size W X) (y:Nat):ThenW b W (X.setCell ⟨b,0,none⟩ (.int .u64 (y:Nat))) y:=
 ⟨h.os,h.tape,h.output,by simpa using h.size,fun i hi hn=>(Below.heap_setCell X _ _ i hn).trans (h.block i hi),Boxed.set _ (show Boxed X b _ _ from (h.block b hb.lt).trans hb)⟩
theorem zz7 {size:Int} {L:List MPiece} (hP:z1q size L) {x f:Nat} (hx:x<2^size.toNat) (hf:f<2^zl L):putR size x L f=(putN x f L,0):=by
 have hc:cwR size x L=0:=by unfold cwR;rw [hP.mask];simp [okB,hx]
 unfold putR;rw [if_pos hc,if_pos ((z4b _ _).2 hf)]
theorem zwh (w:World) (mb wb:Nat) (word:Int) (hm:w.cell? ⟨mb,1,none⟩=some (.int .i64 word)) (hmb:mb<w.heap.size) (x:Nat) (hbox:Boxed w wb 31 (.int .u64 (x:Nat))) (o:MOper) (cs:List Value) (hE:zx w cs o)
 (hw:1<=word/\word<=4) (hP:z1q (8*word) o.pieces) (hx:x<2^(8*word).toNat) (f:Nat) (hf:f<2^zl o.pieces):
 Calls prog 43 #[.agg cs.toArray,.int .u64 (f:Nat),.pointer (some ⟨mb,0,none⟩),.pointer (some ⟨wb,0,none⟩)] w fun e w'=>e=.returned (.tuple #[])/\ThenW wb w w' (putN x f o.pieces):=by
 have h32:=z4y (size:=8*word) (by omega);have hx64:x<18446744073709551616:=by omega
 have hf64:f<18446744073709551616:=Nat.lt_of_lt_of_le hf (Nat.le_trans (Nat.pow_le_pow_right (n:=2) (by omega) hP.width) (by decide));have hE':=hE;obtain ⟨sv,rfl,_,_,_,_,hp,_⟩:=hE;obtain ⟨A,c,rfl,hc,hcm,_,hok⟩:=zbz hp;have hput:=fun X (hX:Below w.heap.size w X)=>zz8 (8*word) x A c o.pieces f X (by obtain ⟨A',c',e1,_,_,h4,_⟩:=zbz (hp.kept (fun cs x hx=>z2g.kept hx hX) hX);cases e1;exact h4) hok hc hcm hx64 hf64
 rw [zz7 hP hx hf] at hput;obtain ⟨n,hn⟩:∃ n,o.pieces.length=n:=⟨_,rfl⟩;obtain ⟨y,hy⟩:∃ y,putN x f o.pieces=y:=⟨_,rfl⟩;rw [hn,hy] at hput;rw [hn,hy];have s8:wrap64 (8*word)=8*word:=zg _ (by omega) (by omega);obtain ⟨nm,hnm⟩:∃ z,o.name=z:=⟨_,rfl⟩;obtain ⟨bk,hbk⟩:∃ z,o.bank=z:=⟨_,rfl⟩;obtain ⟨sc,hsc⟩:∃ z,o.scale=z:=⟨_,rfl⟩;obtain ⟨td,htd⟩:∃ z,o.tied=z:=⟨_,rfl⟩;obtain ⟨kd,hkd⟩:∃ z:Nat,o.kind=z:=⟨_,rfl⟩;rw [hnm,hbk,hsc,htd,hkd];obtain ⟨W1,hW1⟩:∃ W1,W1=w.alloc (.cells #[.string nm,.int .u8 (kd:Nat),.int .i64 bk,.int .i64 sc,.slice A n c,.int .i64 td] 63):=⟨_,rfl⟩;have hb1:Below w.heap.size w W1:=by rw [hW1];exact (Below.refl _ _).alloc (Nat.le_refl _) _
 have m1:=(hb1.cell (p:=⟨mb,1,none⟩) hmb).trans hm;have x1:W1.cell? ⟨wb,0,none⟩=some (.int .u64 (x:Nat)):=(hb1.cell (p:=⟨wb,0,none⟩) hbox.lt).trans hbox.cell;have HPU:=hid (hput W1 hb1);rw [hW1] at HPU m1 x1;have HW1:=hid hW1;have HB1:=hid hb1;have HBX:=hid (show ∀ X,Below W1.heap.size W1 X->Below w.heap.size w X/\Boxed X wb 31 (.int .u64 (x:Nat)) from fun X hX=>by have hX':=hb1.trans (hX.mono hb1.size);exact ⟨hX',(hX'.block wb hbox.lt).trans hbox⟩)
 have HBO:=hid hbox;clear hE' hp hput hP hx hf h32 hx64 hf64 hc hcm hok hn hy hnm hbk hsc htd hkd hW1 hb1 hm hmb hbox hw;go_enter Tryz.func43,Tryz.ntmps43
 go_wp2_with (go_at_call 44;(with_reducible refine HPU.out.mono ?_);rintro e w2 ⟨rfl,hb2⟩;rw [<- HW1.out] at hb2;have c0:=(HBX.out _ hb2).2.cell;have fz:=(HBX.out _ hb2).2.frozen)
 exact bodyPost_end (v:=.tuple #[]) (by simp [results,Tryz.results43,go_sem]) rfl (And.intro rfl (ThenW.set HBO.out (HBX.out _ hb2).1 y))
theorem z8u (W:World) (x:MOper) (cs:List Value) (hE:zx W cs x) (h4:x.pieces.length<=1000):
 Calls prog 46 #[.agg cs.toArray] W fun e w'=>e=.returned (.int .i64 (fwR 0 x.pieces))/\Below W.heap.size W w':=by
 obtain ⟨sv,rfl,_,_,_,_,hp,_⟩:=hE;have HP:=hid hp;obtain ⟨A,c,rfl,_⟩:=hp;obtain ⟨L,hL⟩:∃ L,x.pieces=L:=⟨_,rfl⟩;rw [hL] at HP h4 ⊢;obtain ⟨n,hn⟩:∃ n,L.length=n:=⟨_,rfl⟩;have HN:=hid hn;rw [hn] at HP ⊢;have hn4:n<=9223372036854775807:=by omega
 have HB:=hid ((Below.refl W.heap.size W).alloc (Nat.le_refl _) (.cells #[.string x.name,.int .u8 x.kind,.int .i64 x.bank,.int .i64 x.scale,.slice A n c,.int .i64 x.tied] 63));obtain ⟨r,hr⟩:∃ r,fwR 0 L=r:=⟨_,rfl⟩;have HR:=hid hr;rw [hr];clear hL hn hr h4;show Calls prog 46 #[.agg #[.string x.name,.int .u8 x.kind,.int .i64 x.bank,.int .i64 x.scale,.slice A n c,.int .i64 x.tied]] W _;go_enter Tryz.func46,Tryz.ntmps46
 go_wp2
 go_loopw [3,9] (fun va vi wr=>∃ (a:Int) (i:Nat),va=.int .i64 a/\vi=.int .i64 i/\i<=n/\Hid (Below W.heap.size W wr/\fwR a (L.drop i)=r)) (fun _ vi _=>n-(intOf vi).toNat)
 case atStart=>exact ⟨0,0,rfl,rfl,Nat.zero_le _,hid ⟨HB.out,by rw [List.drop_zero];exact HR.out⟩⟩
 case round=>
  obtain ⟨a,i,rfl,rfl,hi,HI⟩:=hrel;obtain ⟨hbw,hg⟩:=HI.out;by_cases hlt:i<n
  ·obtain ⟨p,hp⟩:∃ p,L[i]? =some p:=⟨_,List.getElem?_eq_getElem (by rw [HN.out];exact hlt)⟩;obtain ⟨A',c',e1,_,_,_,hall⟩:=HP.out.kept (fun cs x hx=>z2g.kept hx hbw) hbw;obtain ⟨b,o,cs,e2,hb,hcl,hcell,hE⟩:=hall i p hp;obtain ⟨rfl,rfl⟩:A=A'/\c=c':=by cases e1;exact ⟨rfl,rfl⟩
   subst e2;obtain ⟨rfl,_⟩:=hE;have p0:wr.cell? ⟨b,o+i*2,none⟩=some (.int .i64 p.pos):=by simpa using hcell 0 _ rfl
   have p1:wr.cell? ⟨b,o+i*2+1,none⟩=some (.int .i64 p.len):=hcell 1 _ rfl;have hd:L.drop i=p::L.drop (i+1):=by
    rw [List.drop_eq_getElem_cons (by rw [HN.out];exact hlt)]
    congr 1
    exact Option.some.inj ((List.getElem?_eq_getElem _).symm.trans hp)
   have HG:=hid (show fwR (wrap64 (a+p.len)) (L.drop (i+1))=r by rw [<- hg,hd];rfl);have HB2:=hid (fun o=>hbw.alloc hbw.size o);have HLT:=hid hlt;clear hg hd hcell hcl hall hp e1 hbw HI;go_wp2
   refine ⟨⟨_,i+1,rfl,by first|rfl|go_num|(congr 1),by have:=HLT.out;omega,hid ⟨HB2.out _,HG.out⟩⟩,by simp only [intOf];have:=HLT.out;omega⟩
  ·obtain rfl:i=n:=by omega
   rw [List.drop_eq_nil_of_le (by rw [HN.out];exact Nat.le_refl _)] at hg;obtain rfl:a=r:=hg;go_wp2
   go_ret
   exact ⟨rfl,hbw⟩
end Go.Proofs.YtofhpahihneipaaGreatDoor
namespace Go.Proofs.YtofhpahihneipaaGreatDoor
open Go.RowKit Go.Instr Go.Sort
set_option maxRecDepth 100000
set_option maxHeartbeats 1000000
theorem zlj (v P:Int) (h1 : -P<=v) (h2:v<0):v%P=v+P:=by have:=Int.add_mul_emod_self_left v P 1;rw [Int.mul_one] at this;rw [<- this];exact Int.emod_eq_of_lt (by omega) (by omega)
theorem zm2 {g:Bool} {w s:Nat} {n:Int}:numB g w s n=true↔n / 2^s*2^s=n/\lowN g w<=n / 2^s/\n / 2^s<=z3c g w:=by unfold numB;simp
theorem z9n (w:Nat):((2^w:Nat):Int)=2^w:=by simp
theorem zmc (g:Bool) (w:Nat) (v:Int) (h1:1<=w) (h2:w<=32) (a:lowN g w<=v) (b:v<=z3c g w):
 (v%2^w).toNat<2^w/\(if g=true then sg w (v%2^w).toNat else ((v%2^w).toNat:Int))=v:=by
 have hd:=ztn w h1;have hp:=pow32 w h2;have hH:=z9n (w-1);have hP:=z9n w;cases g
 ·unfold lowN at a;unfold z3c at b;simp only [Bool.false_eq_true,if_false] at a b ⊢;rw [Int.emod_eq_of_lt a (by omega)];omega
 ·unfold lowN at a;unfold z3c at b;simp only [if_true] at a b ⊢;unfold sg;by_cases hv:v<0
  ·rw [zlj v _ (by omega) hv];rw [if_neg (by omega)];omega
  ·rw [Int.emod_eq_of_lt (by omega) (by omega)];rw [if_pos (by omega)];omega
theorem zcp (g:Bool) (w y:Nat) (h1:1<=w) (h2:w<=32) (hy:y<2^w):
 lowN g w<=(if g=true then sg w y else (y:Int))/\(if g=true then sg w y else (y:Int))<=z3c g w/\(((if g=true then sg w y else (y:Int))%2^w).toNat)=y:=by
 have hd:=ztn w h1;have hp:=pow32 w h2;have hH:=z9n (w-1);have hP:=z9n w;cases g
 ·unfold lowN z3c;simp only [Bool.false_eq_true,if_false];rw [Int.emod_eq_of_lt (by omega) (by omega)];omega
 ·unfold lowN z3c;simp only [if_true];unfold sg;split
  ·rw [Int.emod_eq_of_lt (by omega) (by omega)];omega
  ·rw [zlj _ _ (by omega) (by omega)];omega
theorem z76 {k w s n:Int} (h:(z1w k w s n).2=0):chkK k w s=0/\numB (sgK k) w.toNat s.toNat n=true/\(z1w k w s n).1=((n / 2^s.toNat)%2^w.toNat).toNat:=by
 unfold z1w at *;split at h
 ·rename_i h1;rw [if_pos h1];split at h
  ·rename_i h2;rw [if_pos h2];exact ⟨h1,h2,rfl⟩
  ·cases h
 ·rename_i h1;exact absurd h h1
theorem zix {k w s n:Int}:(z1w k w s n).2=0↔chkK k w s=0/\numB (sgK k) w.toNat s.toNat n=true:=by
 constructor
 ·intro h;exact ⟨(z76 h).1,(z76 h).2.1⟩
 ·rintro ⟨h1,h2⟩;unfold z1w;rw [if_pos h1,if_pos h2]
theorem zuk {k w s n:Int} (h:(z1w k w s n).2=0):z1l k w s (z1w k w s n).1=(n,0):=by obtain ⟨h1,h2,h3⟩:=z76 h;obtain ⟨⟨a1,a2⟩,a3,a4,_⟩:=z7x h1;obtain ⟨b1,b2,b3⟩:=zm2.1 h2;obtain ⟨c1,c2⟩:=zmc (sgK k) w.toNat _ (by omega) (by omega) b2 b3;rw [h3];unfold z1l;rw [if_pos h1,if_pos ((z4b _ _).2 c1),c2,b1]
theorem zul {k w s:Int} {y:Nat} (h:(z1l k w s y).2=0):z1w k w s (z1l k w s y).1=(y,0):=by
 have hc:chkK k w s=0/\okB w.toNat y=true:=by
  unfold z1l at h;split at h
  ·rename_i h1;split at h
   ·rename_i h2;exact ⟨h1,h2⟩
   ·cases h
  ·rename_i h1;exact absurd h h1
 obtain ⟨⟨a1,a2⟩,a3,a4,_⟩:=z7x hc.1;have hn:(z1l k w s y).1=(if sgK k=true then sg w.toNat y else (y:Int))*2^s.toNat:=by unfold z1l;rw [if_pos hc.1,if_pos hc.2]
 obtain ⟨b1,b2,b3⟩:=zcp (sgK k) w.toNat y (by omega) (by omega) ((z4b _ _).1 hc.2);rw [hn];generalize (if sgK k=true then sg w.toNat y else (y:Int))=v at *;have e:v*2^s.toNat / 2^s.toNat=v:=Int.mul_ediv_cancel _ (by rcases pow3 s.toNat (by omega) with h|h|h|h<;>rw [h]<;>decide);unfold z1w;rw [if_pos hc.1,if_pos (zm2.2 ⟨by rw [e],by rw [e];exact b1,by rw [e];exact b2⟩),e,b3]
theorem zp2 {k w s:Int} {y:Nat} : -9223372036854775808<=(z1l k w s y).1/\(z1l k w s y).1<=9223372036854775807:=by
 unfold z1l;split
 ·rename_i h1;obtain ⟨⟨a1,a2⟩,a3,a4,_⟩:=z7x h1;split
  ·rename_i h2;obtain ⟨b1,b2,_⟩:=zcp (sgK k) w.toNat y (by omega) (by omega) ((z4b _ _).1 h2);have:=zxj (sgK k) w.toNat (by omega) (by omega);have:=zyp (sgK k) w.toNat (by omega) (by omega);generalize (if sgK k=true then sg w.toNat y else (y:Int))=v at *;rcases pow3 s.toNat (by omega) with h|h|h|h<;>rw [h]<;>omega
  ·simp
 ·simp
end Go.Proofs.YtofhpahihneipaaGreatDoor
namespace Go.Proofs.YtofhpahihneipaaGreatDoor
open Go.RowKit
set_option maxRecDepth 100000
def z1t (o:MOper):Bool:= !(decide (o.kind=1)&& !(decide (o.tied= -1)))
def z2j (m:Mach) (o:MOper):List Int:=match m.banks[o.bank.toNat]? with|some b=>b.regs|none=>[]
def fldV (m:Mach) (o:MOper) (n:Int):Nat:=if o.kind=1 then (ixF (fun y=>decide (y=n)) (z2j m o)).toNat else (z1w o.kind (fwR 0 o.pieces) o.scale n).1
def fldN (m:Mach) (o:MOper) (f:Nat):Int:=if o.kind=1 then ((z2j m o)[f]?).getD 0 else (z1l o.kind (fwR 0 o.pieces) o.scale f).1
def argR (m:Mach) (o:MOper) (av:List Int) (n:Int):Int:=
 if o.kind=1 then (if n∈z2j m o then (if o.tied= -1 then 0 else if n=(av[o.tied.toNat]?).getD 0 then 0 else 40) else 16)
 else if (z1w o.kind (fwR 0 o.pieces) o.scale n).2=0 then 0 else 24
def z3o (m:Mach) (av:List Int):List MOper->List Int->Int
 | o::l,n::ns=>if argR m o av n=0 then z3o m av l ns else argR m o av n
 | _,_=>0
def z32 (m:Mach) (z:Int) (av:List Int):Int:=
 if chkR m=0 then (match (if 0<=z then m.instrs[z.toNat]? else none) with|some i=>if av.length=i.opers.length then z3o m av i.opers av else 2|none=>6) else chkR m
def z22 (m:Mach):Nat->List MOper->List Int->Nat
 | w,o::l,n::ns=>z22 m (if z1t o=true then putN w (fldV m o n) o.pieces else w) l ns
 | w,_,_=>w
def z1c (m:Mach) (x:Nat):List Int->List MOper->List Int
 | done,[]=>done
 | done,o::l=>z1c m x (done++[if z1t o=true then fldN m o (getN x o.pieces) else (done[o.tied.toNat]?).getD 0]) l
theorem z53 (m:Mach) (w:Nat) (o:MOper) (l:List MOper) (n:Int) (ns:List Int):z22 m w (o::l) (n::ns)=z22 m (if z1t o=true then putN w (fldV m o n) o.pieces else w) l ns:=rfl
theorem zmo (m:Mach) (j:Nat):∀ (L:List MOper) (av:List Int) (w:Nat),(∀ o∈L,hasL o.pieces j=false)->(z22 m w L av).testBit j=w.testBit j:=by
 intro L
 induction L with
 | nil=>intro av w _;cases av<;>rfl
 | cons o l ih=>
   intro av w h
   cases av with
   | nil=>rfl
   | cons n ns=>
     rw [z53,ih _ _ fun q hq=>h q (List.mem_cons_of_mem _ hq)];split
     ·rw [z60,h o (List.mem_cons_self ..)];rfl
     ·rfl
theorem zwi (x w:Nat) (P:List MPiece) (j:Nat):(putN w (getN x P) P).testBit j=if hasL P j=true then x.testBit j else w.testBit j:=by
 rw [z60];by_cases h:hasL P j=true
 ·rw [if_pos h,if_pos h];have h1:=z60 P x (getN x P) j;rw [ztu,if_pos h] at h1;exact h1.symm
 ·rw [if_neg h,if_neg h]
theorem zuc (m:Mach) (x j:Nat):∀ (L:List MOper) (av:List Int) (w:Nat),av.length=L.length->(∀ (k:Nat) o n,L[k]? =some o->av[k]? =some n->z1t o=true->fldV m o n=getN x o.pieces)->(∀ o∈L,z1t o=false->o.pieces=[])->
 (z22 m w L av).testBit j=if L.any (fun o=>hasL o.pieces j)=true then x.testBit j else w.testBit j:=by
 intro L
 induction L with
 | nil=>intro av w _ _ _;cases av<;>rfl
 | cons o l ih=>
   intro av w hl hv hp
   cases av with
   | nil=>simp at hl
   | cons n ns=>
     rw [z53,ih ns _ (by simpa using hl) (fun k o' n' h1 h2=>hv (k+1) o' n' (by simpa using h1) (by simpa using h2)) (fun q hq=>hp q (List.mem_cons_of_mem _ hq))];rw [List.any_cons];by_cases hf:z1t o=true
     ·rw [if_pos hf,hv 0 o n rfl rfl hf,zwi];cases hasL o.pieces j<;>cases (l.any fun o=>hasL o.pieces j)<;>simp
     ·rw [if_neg hf,hp o (List.mem_cons_self ..) (by simpa using hf)];show _=if (false||_)=true then _ else _
      rw [Bool.false_or]
theorem zst (P:List MPiece) (t j:Nat) (h:(z3e t P).testBit j=false):hasL P j=false/\t.testBit j=false:=by rw [z7a] at h;cases hb:t.testBit j<;>simp_all
theorem zx1 (m:Mach) {size:Int}:∀ (L:List MOper) (av:List Int) (t w:Nat),z65 size t L->(∀ (k:Nat) o n,L[k]? =some o->av[k]? =some n->z1t o=true->fldV m o n<2^zl o.pieces)->
 ∀ (k:Nat) o n,L[k]? =some o->av[k]? =some n->z1t o=true->getN (z22 m w L av) o.pieces=fldV m o n:=by
 intro L
 induction L with
 | nil=>intro av t w _ _ k o n h;simp at h
 | cons o l ih=>
   intro av t w hL hv k o' n' h1 h2 hf
   cases av with
   | nil=>simp at h2
   | cons a ns=>
     rw [z53]
     cases k with
     | zero=>
       simp only [List.getElem?_cons_zero,Option.some.injEq] at h1 h2;subst h1;subst h2;rw [if_pos hf];have hg:=zrw (size:=size) (m:=t) w (fldV m o a) hL.1 (hv 0 o a rfl rfl hf);refine Eq.trans (zek _ fun j hj=>?_) hg;have hout:=zmo m j l ns (putN w (fldV m o a) o.pieces) fun q hq=>by
        obtain ⟨_,hd⟩:=z65.each hL.2 q hq
        cases hb:hasL q.pieces j with
        | false=>rfl
        | true=>have:=(zst o.pieces t j (hd j hb)).1;rw [this] at hj;cases hj
       exact hout
     | succ k=>exact ih ns _ _ hL.2 (fun k o' n' h1 h2=>hv (k+1) o' n' (by simpa using h1) (by simpa using h2)) k o' n' (by simpa using h1) (by simpa using h2) hf
theorem zzr (m:Mach) {size:Int}:∀ (L:List MOper) (av:List Int) (t w:Nat),z65 size t L->w<2^size.toNat->z22 m w L av<2^size.toNat:=by
 intro L
 induction L with
 | nil=>intro av t w _ h;cases av<;>exact h
 | cons o l ih=>
   intro av t w hL hw
   cases av with
   | nil=>exact hw
   | cons a ns=>
     rw [z53];refine ih ns _ _ hL.2 ?_;split
     ·exact ztq hL.1 hw
     ·exact hw
theorem z77 (l:List MOper) (j:Nat):(z6q l).testBit j=l.any fun o=>hasL o.pieces j:=by
 have key:∀ (l:List MOper) (a:Nat),(l.foldl (fun a o=>a|||z3e 0 o.pieces) a).testBit j=(a.testBit j||l.any fun o=>hasL o.pieces j):=by
  intro l
  induction l with
  | nil=>intro a;simp
  | cons o l ih=>intro a;rw [List.foldl_cons,ih,Nat.testBit_or,z7a,List.any_cons];simp [Bool.or_assoc]
 unfold z6q;rw [key];simp
theorem z7r (m:Mach) (x:Nat):∀ (L:List MOper) (done:List Int),(z1c m x done L).length=done.length+L.length:=by
 intro L
 induction L with
 | nil=>intro done;rfl
 | cons o l ih=>intro done;rw [z1c,ih];simp;omega
theorem zbi (m:Mach) (x:Nat):∀ (L:List MOper) (done:List Int) (k:Nat),k<done.length->(z1c m x done L)[k]? =done[k]? :=by
 intro L
 induction L with
 | nil=>intro done k _;rfl
 | cons o l ih=>intro done k hk;rw [z1c,ih _ k (by simp;omega),List.getElem?_append_left hk]
theorem z9k (m:Mach) (x:Nat):∀ (L:List MOper) (done:List Int) (k:Nat) (o:MOper),L[k]? =some o->o.tied.toNat<done.length+k∨z1t o=true->
 (z1c m x done L)[done.length+k]? =some (if z1t o=true then fldN m o (getN x o.pieces) else ((z1c m x done L)[o.tied.toNat]?).getD 0):=by
 intro L
 induction L with
 | nil=>intro done k o h;simp at h
 | cons p l ih=>
   intro done k o h ht
   cases k with
   | zero=>
     simp only [List.getElem?_cons_zero,Option.some.injEq] at h;subst h;rw [z1c,Nat.add_zero,zbi _ _ _ _ _ (by simp),List.getElem?_append_right (Nat.le_refl _)];simp only [Nat.sub_self,List.getElem?_cons_zero];by_cases hf:z1t p=true
     ·rw [if_pos hf,if_pos hf]
     ·rw [if_neg hf,if_neg hf]
      have hlt:p.tied.toNat<done.length:=by rcases ht with h|h;· omega
                                            ·exact absurd h hf
      rw [zbi _ _ _ _ _ (by simp;omega),List.getElem?_append_left hlt]
   | succ k=>rw [z1c];have:=ih (done++[if z1t p=true then fldN m p (getN x p.pieces) else (done[p.tied.toNat]?).getD 0]) k o (by simpa using h) (ht.imp (fun h=>by simp;omega) id);rw [List.length_append,List.length_cons,List.length_nil] at this;rw [show done.length+(k+1)=done.length+(0+1)+k by omega];exact this
theorem zyl:∀ (L:List MPiece) (a:Int),(∀ p∈L,1<=p.len/\p.len<=64)->0<=a->a+64*L.length<=1000000->fwR a L=a+zl L:=by
 intro L
 induction L with
 | nil=>intro a _ _ _;simp [fwR,zl]
 | cons p l ih=>intro a h h0 h1;have hp:=h p (List.mem_cons_self ..);rw [List.length_cons] at h1;rw [fwR,zg _ (by omega) (by omega),ih _ (fun q hq=>h q (List.mem_cons_of_mem _ hq)) (by omega) (by omega),zl];unfold MPiece.l;omega
theorem z2i.len {size:Int} {L:List MPiece} {t:Nat} (h:z2i size t L) (hs:size<=64):∀ p∈L,1<=p.len/\p.len<=64:=fun p hp=>by have:=z5z.1 (h.mem p hp).1;exact ⟨this.1,by omega⟩
theorem zwc {word address:Int} {B:List MBank}:∀ (l others:List MOper) (t:Nat),z1y word address B others t l=true->∀ (k:Nat) (o:MOper),l[k]? =some o->z4j address B (others++l.take k) o=true:=by
 intro l
 induction l with
 | nil=>intro others t _ k o h;simp at h
 | cons p l ih=>
   intro others t h k o hk;simp only [z1y,Bool.and_eq_true] at h
   cases k with
   | zero=>
     simp only [List.getElem?_cons_zero,Option.some.injEq] at hk;subst hk
     simpa using h.1.2
   | succ k=>have:=ih _ _ h.2.2 k o (by simpa using hk);simpa using this
structure OperGood (m:Mach) (i:MIns) (k:Nat) (o:MOper):Prop where
 pieces:z1q (8*m.word) o.pieces
 fw:fwR 0 o.pieces=zl o.pieces
 kinds:o.kind=1∨o.kind=2∨o.kind=3∨o.kind=4
 bank:o.kind=1->∃ b:Nat,o.bank=b/\∃ q,m.banks[b]? =some q/\z2j m o=q.regs/\q.regs.length<=64
 free:o.kind=1->o.tied= -1->(z2j m o).length<=2^zl o.pieces
 tied:o.kind=1->o.tied≠ -1->o.pieces=[]/\∃ (t:Nat) (q:MOper),o.tied=t/\t<k/\i.opers[t]? =some q/\q.kind=1/\q.bank=o.bank/\q.tied= -1
 num:o.kind≠1->chkK o.kind (fwR 0 o.pieces) o.scale=0
theorem zys {m:Mach} (h:chkR m=0) {i:MIns} (hi:i∈m.instrs):z1y m.word m.address m.banks [] i.mask i.opers=true:=by obtain ⟨_,_,_,_,_,hin⟩:=z30 h;unfold z49 at hin;simp only [Bool.and_eq_true,List.all_eq_true] at hin;have h9:=hin.2 i hi;unfold insR at h9;simp only [Bool.and_eq_true] at h9;have hb:=h9.1.2;unfold z6a at hb;simp only [Bool.and_eq_true] at hb;exact hb.2
theorem z2b {m:Mach} (h:chkR m=0) {i:MIns} (hi:i∈m.instrs) {k:Nat} {o:MOper} (ho:i.opers[k]? =some o):OperGood m i k o:=by
 obtain ⟨hw,_,_,_,hlays,hpcs,_⟩:=z3d h hi;have hmem:=List.mem_of_getElem? ho;have hp:=hpcs o hmem;have hlen:=hp.2.2.len (by omega);have hfw:fwR 0 o.pieces=zl o.pieces:=by rw [zyl o.pieces 0 hlen (by omega) (by have:=hp.2.1;omega)];omega
 have hok:=zwc _ _ _ (zys h hi) k o ho;rw [List.nil_append] at hok;have hbl:∀ b∈m.banks,b.regs.length<=64:=(z3l (z30 h).1).2.2.2.1;unfold z4j at hok;by_cases hk:o.kind=1
 ·rw [if_pos hk] at hok;by_cases hb0:0<=o.bank
  ·rw [if_pos hb0] at hok
   cases hq:m.banks[o.bank.toNat]? with
   | none=>rw [hq] at hok;cases hok
   | some q=>
     rw [hq] at hok;simp only at hok;have hbr:z2j m o=q.regs:=(by unfold z2j;rw [hq]);by_cases hs:o.scale≠0
     ·rw [if_pos hs] at hok;cases hok
     ·rw [if_neg hs] at hok;refine ⟨hp,hfw,.inl hk,fun _=>⟨o.bank.toNat,by omega,q,hq,hbr,hbl q (List.mem_of_getElem? hq)⟩,fun _ ht=>?_,fun _ ht=>?_,fun hn=>absurd hk hn⟩
      ·rw [if_pos ht] at hok;simp only [Bool.and_eq_true] at hok;have h2:=hok.2;unfold z6k at h2;simp only [Bool.and_eq_true,decide_eq_true_eq] at h2;have h3:=(z4b _ _).1 h2.2;rw [hfw,Int.toNat_natCast] at h3;rw [hbr];have:=Nat.two_pow_pos (zl o.pieces);omega
      ·rw [if_neg ht] at hok;simp only [Bool.and_eq_true,decide_eq_true_eq] at hok;refine ⟨List.eq_nil_of_length_eq_zero hok.1,?_⟩;have h2:=hok.2;unfold z7o at h2;by_cases ht0:0<=o.tied
       ·rw [if_pos ht0] at h2
        cases hy:(i.opers.take k)[o.tied.toNat]? with
        | none=>rw [hy] at h2;cases h2
        | some y=>
          rw [hy] at h2;simp only [Bool.and_eq_true,decide_eq_true_eq] at h2;rw [List.getElem?_take] at hy;split at hy
          ·exact ⟨o.tied.toNat,y,by omega,by assumption,hy,by omega,h2.2.1,h2.2.2⟩
          ·cases hy
       ·rw [if_neg ht0] at h2;cases h2
  ·rw [if_neg hb0] at hok;cases hok
 ·rw [if_neg hk] at hok;by_cases hk2:o.kind=2∨o.kind=3∨o.kind=4
  ·rw [if_pos hk2] at hok;simp only [Bool.and_eq_true,decide_eq_true_eq] at hok;obtain ⟨_,_,h3,h4,h5⟩:=hok;refine ⟨hp,hfw,.inr hk2,fun q=>absurd q hk,fun q=>absurd q hk,fun q=>absurd q hk,fun _=>?_⟩;have hpos:1<=zl o.pieces:=by
    match hq:o.pieces,h4 with
    | p::l,_=>have:=hlen p (by rw [hq];exact List.mem_cons_self ..);rw [zl];unfold MPiece.l;omega
   have hle:=hp.width;unfold chkK z4a inB;rw [hfw];have hkk:(sgK (o.kind:Nat)||((o.kind:Nat):Int)==3)=true:=by rcases hk2 with h|h|h<;>rw [h]<;>rfl
   rw [hkk];have e1:decide ((1:Int)<=((zl o.pieces:Nat):Int)/\((zl o.pieces:Nat):Int)<=32)=true:=by simp;omega
   have e2:decide ((0:Int)<=o.scale/\o.scale<=3)=true:=by simp;omega
   simp [e1,e2,hpos,hle,h3]
  ·rw [if_neg hk2] at hok;cases hok
theorem zd0 {L:List Int} {n:Int} (h:n∈L):∃ k:Nat,ixF (fun y=>decide (y=n)) L=k/\L[k]? =some n:=by
 unfold ixF
 cases hf:L.findIdx? (fun y=>decide (y=n)) with
 | none=>
   rw [List.findIdx?_eq_none_iff] at hf;have:=hf n h
   simp at this
 | some k=>obtain ⟨hlt,hk,_⟩:=List.findIdx?_eq_some_iff_getElem.1 hf;exact ⟨k,rfl,by rw [List.getElem?_eq_getElem hlt];simpa using hk⟩
theorem zhd {size:Int} (hs:size<=64):∀ {L:List MPiece} {t:Nat},z2i size t L->pop (z3e t L) 64=pop t 64+zl L
 | [],t,_=>rfl
 | x::L,t,h=>by obtain ⟨c1,c2,c3,c4⟩:=z5z.1 h.1;rw [z3e,zhd hs h.2.2,zxp 64 h.2.1 (by unfold MPiece.p MPiece.l;omega),zl];omega
theorem zkf {size:Int} (hs:size<=64) {L:List MPiece} (h:z2i size 0 L):ocR (z3e 0 L)=zl L:=by
 have h1:=zhd hs h;unfold ocR;rw [zm5];have h0:pop 0 64=0:=by decide
 rw [h0,Nat.zero_add] at h1;exact h1
theorem zkd {k j:Nat} (hk:k<18446744073709551616) (hj:j<64):(18446744073709551615-k).testBit j= !k.testBit j:=by rw [show 18446744073709551615-k=2^64-(k+1) by omega,Nat.testBit_two_pow_sub_succ (by omega)];simp [hj]
theorem zdx {x j:Nat} (hx:x<18446744073709551616) (hb:x.testBit j=true):j<64:=by
 rcases Nat.lt_or_ge j 64 with h|h
 ·exact h
 ·have h1:x<2^j:=Nat.lt_of_lt_of_le hx (Nat.pow_le_pow_right (n:=2) (i:=64) (by omega) h);rw [Nat.testBit_lt_two_pow h1] at hb;cases hb
theorem zk3 {i:MIns} (hm:i.mtch<18446744073709551616) (hk:i.mask<18446744073709551616) (h:i.mtch&&&(18446744073709551615-i.mask)=0) {j:Nat} (hj:i.mtch.testBit j=true):i.mask.testBit j=true:=by
 have h64:=zdx hm hj;have h1:(i.mtch&&&(18446744073709551615-i.mask)).testBit j=false:=by rw [h];simp
 rw [Nat.testBit_and,hj,zkd hk h64] at h1;cases hb:i.mask.testBit j<;>simp_all
theorem zgw {size:Int} {t:Nat} {L:List MOper} (h:z65 size t L) {j:Nat} (hj:(L.any fun o=>hasL o.pieces j)=true):t.testBit j=false:=by obtain ⟨o,ho,h1⟩:=List.any_eq_true.1 hj;exact (h.each o ho).2 j h1
theorem zq1 {i:MIns} {x:Nat} (hx:x<18446744073709551616) (hm:i.mtch<18446744073709551616) (hf:z6q i.opers<18446744073709551616) (hd:∀ j,i.mtch.testBit j=true->(z6q i.opers).testBit j=false):
 (x&&&(18446744073709551615-z6q i.opers)=i.mtch)↔∀ j,(z6q i.opers).testBit j=false->x.testBit j=i.mtch.testBit j:=by
 constructor
 ·intro h j hj;by_cases h64:j<64
  ·rw [<- h,Nat.testBit_and,zkd hf h64,hj];simp
  ·have a:x.testBit j=false:=by
    cases hb:x.testBit j with
    | false=>rfl
    | true=>exact absurd (zdx hx hb) h64
   have b:i.mtch.testBit j=false:=by
    cases hb:i.mtch.testBit j with
    | false=>rfl
    | true=>exact absurd (zdx hm hb) h64
   rw [a,b]
 ·intro h;apply Nat.eq_of_testBit_eq;intro j;rw [Nat.testBit_and];by_cases h64:j<64
  ·rw [zkd hf h64]
   cases hb:(z6q i.opers).testBit j with
   | false=>rw [h j hb];simp
   | true=>
     cases hc:i.mtch.testBit j with
     | false=>simp
     | true=>rw [hd j hc] at hb;cases hb
  ·have a:x.testBit j=false:=by
    cases hb:x.testBit j with
    | false=>rfl
    | true=>exact absurd (zdx hx hb) h64
   have b:i.mtch.testBit j=false:=by
    cases hb:i.mtch.testBit j with
    | false=>rfl
    | true=>exact absurd (zdx hm hb) h64
   rw [a,b];simp
theorem zlq {size:Int} (hs:size<=32):∀ (L:List MOper) (a:Nat),(∀ o∈L,z1q size o.pieces)->a<4294967296->L.foldl (fun a o=>a|||z3e 0 o.pieces) a<4294967296:=by
 intro L
 induction L with
 | nil=>intro a _ h;exact h
 | cons o l ih=>intro a h ha;rw [List.foldl_cons];exact ih _ (fun q hq=>h q (List.mem_cons_of_mem _ hq)) (Nat.or_lt_two_pow (n:=32) ha (h o (List.mem_cons_self ..)).mask_lt)
theorem zi5 (R:List MReg) (f:Int):∀ (L met:List Int),z34 R f met L=true->L.Nodup/\∀ z∈L,z ∉ met/\0<=z/\z<(R.length:Int):=by
 intro L
 induction L with
 | nil=>intro met _;exact ⟨List.nodup_nil,fun z hz=>by simp at hz⟩
 | cons z l ih=>
   intro met h;simp only [z34,Bool.and_eq_true,decide_eq_true_eq,Bool.not_eq_true',decide_eq_false_iff_not] at h;obtain ⟨h1,h2⟩:=ih _ h.2;refine ⟨List.nodup_cons.2 ⟨fun hz=>(h2 z hz).1 (by simp),h1⟩,fun y hy=>?_⟩;rcases List.mem_cons.1 hy with rfl|hy
   ·exact ⟨h.1.2.1,h.1.1.1,h.1.1.2⟩
   ·exact ⟨fun q=>(h2 y hy).1 (by simp [q]),(h2 y hy).2⟩
theorem zn2 {m:Mach} (h:chkR m=0) {b:MBank} (hb:b∈m.banks):b.regs.Nodup/\∀ z∈b.regs,0<=z/\z<(m.regs.length:Int):=by have hk:=(z30 h).2.2.2.1;unfold z41 at hk;simp only [Bool.and_eq_true,List.all_eq_true] at hk;have h2:=hk.2 b hb;unfold z4c zbg at h2;simp only [Bool.and_eq_true] at h2;obtain ⟨h3,h4⟩:=zi5 _ _ _ _ h2.2;exact ⟨h3,fun z hz=>(h4 z hz).2⟩
theorem zdm {m:Mach} {i:MIns} {k:Nat} {o:MOper} (h:OperGood m i k o):valR m o=if o.kind=1/\o.tied= -1 then (z2j m o).length else 2^zl o.pieces:=by
 unfold valR;split
 ·rename_i hk;obtain ⟨b,hb,q,hq,hr,_⟩:=h.bank hk.1;rw [hb,Int.toNat_natCast,hq,hr];rfl
 ·rw [zkf (by have:=h.pieces.1;omega) h.pieces.2.2];refine Nat.mod_eq_of_lt (Nat.lt_of_le_of_lt (Nat.pow_le_pow_right (n:=2) (by omega) h.pieces.width) (by decide))
theorem zlo {o:MOper} (hf:z1t o=true) (hk:o.kind=1):o.tied= -1:=by unfold z1t at hf;rw [hk] at hf;simpa using hf
theorem za8 {o:MOper} (hf:¬ z1t o=true):o.kind=1/\o.tied≠ -1:=by unfold z1t at hf;simpa using hf
theorem z99 {m:Mach} {i:MIns} {k:Nat} {o:MOper} (h:OperGood m i k o) (hf:z1t o=true) {av:List Int} {n:Int} (ha:argR m o av n=0):
 fldV m o n<2^zl o.pieces/\fldV m o n<valR m o/\fldN m o (fldV m o n)=n:=by
 unfold argR at ha;rw [zdm h];unfold fldV fldN;by_cases hk:o.kind=1
 ·rw [if_pos hk] at ha;have ht:=zlo hf hk;simp only [if_pos hk,hk,ht,true_and,if_true];by_cases hm:n∈z2j m o
  ·obtain ⟨q,h1,h2⟩:=zd0 hm;have hlt:q<(z2j m o).length:=by
    rcases Nat.lt_or_ge q (z2j m o).length with h3|h3
    ·exact h3
    ·rw [List.getElem?_eq_none h3] at h2;cases h2
   rw [h1,Int.toNat_natCast,h2];exact ⟨Nat.lt_of_lt_of_le hlt (h.free hk ht),hlt,rfl⟩
  ·rw [if_neg hm] at ha;cases ha
 ·rw [if_neg hk] at ha;simp only [if_neg hk,hk,false_and,if_false];have hz:(z1w o.kind (fwR 0 o.pieces) o.scale n).2=0:=by
   by_cases hz:(z1w o.kind (fwR 0 o.pieces) o.scale n).2=0
   ·exact hz
   ·rw [if_neg hz] at ha;cases ha
  have hlt:(z1w o.kind (fwR 0 o.pieces) o.scale n).1<2^zl o.pieces:=by
   rw [(z76 hz).2.2,h.fw,Int.toNat_natCast];have e:((2:Int)^zl o.pieces)=((2^zl o.pieces:Nat):Int):=by simp
   have hp:=Nat.two_pow_pos (zl o.pieces);rw [e];have h2:=Int.emod_nonneg (n / 2^o.scale.toNat) (show ((2^zl o.pieces:Nat):Int)≠0 by omega);have h3:=Int.emod_lt_of_pos (n / 2^o.scale.toNat) (show (0:Int)<((2^zl o.pieces:Nat):Int) by omega);omega
  exact ⟨hlt,hlt,by rw [zuk hz]⟩
theorem zro {m:Mach} (hv:chkR m=0) {i:MIns} {k:Nat} {o:MOper} (h:OperGood m i k o) (hf:z1t o=true) (av:List Int) {f:Nat} (hlt:f<valR m o):
 argR m o av (fldN m o f)=0/\fldV m o (fldN m o f)=f/\(-9223372036854775808<=fldN m o f/\fldN m o f<=9223372036854775807):=by
 rw [zdm h] at hlt;unfold argR fldV fldN;by_cases hk:o.kind=1
 ·have ht:=zlo hf hk;rw [if_pos ⟨hk,ht⟩] at hlt;simp only [if_pos hk];obtain ⟨b,hb,q,hq,hr,_⟩:=h.bank hk;obtain ⟨hnd,hbd⟩:=zn2 hv (List.mem_of_getElem? hq);obtain ⟨n,hn⟩:∃ n,(z2j m o)[f]? =some n:=⟨_,List.getElem?_eq_getElem hlt⟩;have hmem:=List.mem_of_getElem? hn;rw [hn,Option.getD_some,if_pos hmem,if_pos ht];obtain ⟨k2,h1,h2⟩:=zd0 hmem;have hlr:=zvs hv;have hbn:=hbd n (by rw [<- hr];exact hmem);refine ⟨rfl,?_,by omega⟩;rw [h1,Int.toNat_natCast];have hk2:k2<(z2j m o).length:=by
   rcases Nat.lt_or_ge k2 (z2j m o).length with h3|h3
   ·exact h3
   ·rw [List.getElem?_eq_none h3] at h2;cases h2
  exact (List.getElem?_inj hk2 (by rw [hr];exact hnd)).1 (h2.trans hn.symm)
 ·rw [if_neg (fun q=>hk q.1)] at hlt;simp only [if_neg hk];have hn2:(z1l o.kind (fwR 0 o.pieces) o.scale f).2=0:=by
   unfold z1l;rw [if_pos (h.num hk),if_pos];rw [z4b,h.fw,Int.toNat_natCast];exact hlt
  have hb:=zul hn2;rw [hb];exact ⟨rfl,rfl,zp2⟩
section
variable {m:Mach} {i:MIns}
def Fits (m:Mach) (i:MIns) (av:List Int):Prop:=av.length=i.opers.length/\∀ (k:Nat) o n,i.opers[k]? =some o->av[k]? =some n->argR m o av n=0
theorem zkg (h:chkR m=0) (hi:i∈m.instrs) (hm:i.mtch<18446744073709551616) {av:List Int} (hf:Fits m i av):
 hasR (z1p m i) (z22 m i.mtch i.opers av)=true/\z22 m i.mtch i.opers av<2^(8*m.word).toNat/\z1c m (z22 m i.mtch i.opers av) [] i.opers=av:=by
 obtain ⟨hw,hl4,hmask,hmm,hlays,hpcs,_⟩:=z3d h hi;have h32:(2:Nat)^(8*m.word).toNat<=4294967296:=z4y (by omega);have hin:=fun j=>zk3 (j:=j) hm (by omega) hmm;have hmt:i.mtch<2^(8*m.word).toNat:=by
  apply Nat.lt_pow_two_of_testBit;intro j hj
  cases hb:i.mtch.testBit j with
  | false=>rfl
  | true=>have:=hin j hb;rw [Nat.testBit_lt_two_pow (Nat.lt_of_lt_of_le hmask (Nat.pow_le_pow_right (n:=2) (by omega) hj))] at this;cases this
 have hfr:z6q i.opers<4294967296:=zlq (size:=8*m.word) (by omega) i.opers 0 hpcs (by omega);have hlt:=zzr m i.opers av i.mask i.mtch hlays hmt;have hget:=zx1 m i.opers av i.mask i.mtch hlays fun k o n h1 h2 h3=>(z99 (z2b h hi h1) h3 (hf.2 k o n h1 h2)).1;generalize hx:z22 m i.mtch i.opers av=x at *;refine ⟨?_,hlt,?_⟩
 ·unfold hasR;rw [Bool.and_eq_true,decide_eq_true_eq,List.all_eq_true];constructor
  ·show x&&&(18446744073709551615-z6q i.opers)=i.mtch;rw [zq1 (by omega) hm (by omega)]
   ·intro j hj;rw [z77] at hj;rw [<- hx];refine zmo m j i.opers av i.mtch fun o ho=>?_
    cases hb:hasL o.pieces j with
    | false=>rfl
    | true=>have:(i.opers.any fun o=>hasL o.pieces j)=true:=List.any_eq_true.2 ⟨o,ho,hb⟩;rw [this] at hj;cases hj
   ·intro j hj;rw [z77]
    cases hb:(i.opers.any fun o=>hasL o.pieces j) with
    | false=>rfl
    | true=>have:=zgw hlays hb;rw [hin j hj] at this;cases this
  ·intro f hf';obtain ⟨o,ho,rfl⟩:=List.mem_map.1 hf';simp only [decide_eq_true_eq];obtain ⟨k,hk⟩:=List.getElem?_of_mem ho;have hg:=z2b h hi hk;by_cases hfl:z1t o=true
   ·obtain ⟨n,hn⟩:∃ n,av[k]? =some n:=⟨_,List.getElem?_eq_getElem (by
     rw [hf.1];rcases Nat.lt_or_ge k i.opers.length with h3|h3
     ·exact h3
     ·rw [List.getElem?_eq_none h3] at hk;cases hk)⟩
    rw [hget k o n hk hn hfl];exact (z99 hg hfl (hf.2 k o n hk hn)).2.1
   ·obtain ⟨k1,k2⟩:=za8 hfl;obtain ⟨hp,_⟩:=hg.tied k1 k2;rw [zdm hg,if_neg (fun q=>k2 q.2),hp];show (0:Nat)<2^0;decide
 ·apply List.ext_getElem?;intro k;rcases Nat.lt_or_ge k i.opers.length with hk|hk
  ·
   induction k using Nat.strongRecOn with
   | _ k ih=>
     obtain ⟨o,ho⟩:∃ o,i.opers[k]? =some o:=⟨_,List.getElem?_eq_getElem hk⟩;obtain ⟨n,hn⟩:∃ n,av[k]? =some n:=⟨_,List.getElem?_eq_getElem (by rw [hf.1];exact hk)⟩;have hg:=z2b h hi ho;have ha:=hf.2 k o n ho hn;by_cases hfl:z1t o=true
     ·have:=z9k m x i.opers [] k o ho (.inr hfl);rw [List.length_nil,Nat.zero_add] at this;rw [this,if_pos hfl,hget k o n ho hn hfl,(z99 hg hfl ha).2.2,hn]
     ·obtain ⟨k1,k2⟩:=za8 hfl;obtain ⟨_,t,q,ht,htk,hq,_⟩:=hg.tied k1 k2;have:=z9k m x i.opers [] k o ho (.inl (by rw [ht,Int.toNat_natCast];simpa using htk));rw [List.length_nil,Nat.zero_add] at this;rw [this,if_neg hfl,ht,Int.toNat_natCast,ih t htk (by omega),hn];unfold argR at ha;rw [if_pos k1] at ha;split at ha
      ·first|rw [if_neg k2] at ha|skip
       rw [ht,Int.toNat_natCast] at ha;split at ha
       ·rename_i e;rw [<- e]
       ·cases ha
      ·cases ha
  ·rw [List.getElem?_eq_none (by rw [z7r];simpa using hk),List.getElem?_eq_none (by rw [hf.1];exact hk)]
theorem zue (h:chkR m=0) (hi:i∈m.instrs) (hm:i.mtch<18446744073709551616) {x:Nat} (hx:x<2^(8*m.word).toNat) (hh:hasR (z1p m i) x=true):
 Fits m i (z1c m x [] i.opers)/\z22 m i.mtch i.opers (z1c m x [] i.opers)=x/\∀ z∈z1c m x [] i.opers,-9223372036854775808<=z/\z<=9223372036854775807:=by
 obtain ⟨hw,hl4,hmask,hmm,hlays,hpcs,_⟩:=z3d h hi;have h32:(2:Nat)^(8*m.word).toNat<=4294967296:=z4y (by omega);have hin:=fun j=>zk3 (j:=j) hm (by omega) hmm;have hfr:z6q i.opers<4294967296:=zlq (size:=8*m.word) (by omega) i.opers 0 hpcs (by omega);unfold hasR at hh;rw [Bool.and_eq_true,decide_eq_true_eq,List.all_eq_true] at hh;obtain ⟨h1,h2⟩:=hh;have hdis:∀ j,i.mtch.testBit j=true->(z6q i.opers).testBit j=false:=fun j hj=>by
  rw [z77]
  cases hb:(i.opers.any fun o=>hasL o.pieces j) with
  | false=>rfl
  | true=>have:=zgw hlays hb;rw [hin j hj] at this;cases this
 have hbits:=(zq1 (x:=x) (by omega) hm (by omega) hdis).1 h1;have hval:∀ (k:Nat) o,i.opers[k]? =some o->getN x o.pieces<valR m o:=fun k o ho=>by have:=h2 ⟨o.pieces,valR m o⟩ (List.mem_map.2 ⟨o,List.mem_of_getElem? ho,rfl⟩);simpa using this
 have hlen:(z1c m x [] i.opers).length=i.opers.length:=by rw [z7r];simp
 have hat:∀ (k:Nat) o,i.opers[k]? =some o->(z1c m x [] i.opers)[k]? =some (if z1t o=true then fldN m o (getN x o.pieces) else ((z1c m x [] i.opers)[o.tied.toNat]?).getD 0):=fun k o ho=>by
  have hg:=z2b h hi ho;have:=z9k m x i.opers [] k o ho (by
   by_cases hfl:z1t o=true
   ·exact .inr hfl
   ·obtain ⟨k1,k2⟩:=za8 hfl;obtain ⟨_,t,q,ht,htk,hq,_⟩:=hg.tied k1 k2;exact .inl (by rw [ht,Int.toNat_natCast];simpa using htk))
  rw [List.length_nil,Nat.zero_add] at this;exact this
 have hone:∀ (k:Nat) o n,i.opers[k]? =some o->(z1c m x [] i.opers)[k]? =some n->argR m o (z1c m x [] i.opers) n=0/\(z1t o=true->fldV m o n=getN x o.pieces)/\(-9223372036854775808<=n/\n<=9223372036854775807):=fun k o n ho hn=>by
  have hg:=z2b h hi ho;rw [hat k o ho] at hn;by_cases hfl:z1t o=true
  ·rw [if_pos hfl] at hn;obtain rfl:=Option.some.inj hn;obtain ⟨e1,e2,e3⟩:=zro h hg hfl (z1c m x [] i.opers) (hval k o ho);exact ⟨e1,fun _=>e2,e3⟩
  ·rw [if_neg hfl] at hn;obtain rfl:=Option.some.inj hn;obtain ⟨k1,k2⟩:=za8 hfl;obtain ⟨_,t,q,ht,htk,hq,q1,q2,q3⟩:=hg.tied k1 k2;have hgq:=z2b h hi hq;have hfq:z1t q=true:=by unfold z1t;rw [q1,q3];rfl
   obtain ⟨e1,_,e3⟩:=zro h hgq hfq (z1c m x [] i.opers) (hval t q hq);have hatq:=hat t q hq;rw [if_pos hfq] at hatq;rw [ht,Int.toNat_natCast,hatq,Option.getD_some];refine ⟨?_,fun q=>absurd q hfl,e3⟩;unfold argR at e1 ⊢;rw [if_pos q1] at e1;have hbk:z2j m q=z2j m o:=by unfold z2j;rw [q2]
   split at e1
   ·rename_i hmem;rw [if_pos k1,if_pos (hbk▸hmem),if_neg k2,ht,Int.toNat_natCast,hatq,Option.getD_some,if_pos rfl]
   ·cases e1
 refine ⟨⟨hlen,fun k o n ho hn=>(hone k o n ho hn).1⟩,?_,fun z hz=>?_⟩
 ·apply Nat.eq_of_testBit_eq;intro j;rw [zuc m x j i.opers _ i.mtch hlen (fun k o n ho hn hf=>(hone k o n ho hn).2.1 hf) (fun o ho hf=>?_)]
  ·rw [<- z77]
   cases hb:(z6q i.opers).testBit j with
   | true=>rw [if_pos rfl]
   | false=>rw [if_neg (by decide),hbits j hb]
  ·obtain ⟨k,hk⟩:=List.getElem?_of_mem ho;obtain ⟨k1,k2⟩:=za8 (by rw [hf];decide);exact ((z2b h hi hk).tied k1 k2).1
 ·obtain ⟨k,hk⟩:=List.getElem?_of_mem hz;have hlt:k<i.opers.length:=by
   rw [<- hlen];rcases Nat.lt_or_ge k (z1c m x [] i.opers).length with h3|h3
   ·exact h3
   ·rw [List.getElem?_eq_none h3] at hk;cases hk
  exact (hone k _ z (List.getElem?_eq_getElem hlt) hk).2.2
end
end Go.Proofs.YtofhpahihneipaaGreatDoor
namespace Go.Proofs.YtofhpahihneipaaGreatDoor
open Go.RowKit Go.Instr Go.Sort
set_option maxRecDepth 100000
theorem zub (m:Mach) (x:Nat) (av:List Int) {L:List MOper} {k:Nat} {o:MOper} {n:Int} (ho:L[k]? =some o) (hn:av[k]? =some n):
 z22 m x (L.drop k) (av.drop k)=z22 m (if z1t o=true then putN x (fldV m o n) o.pieces else x) (L.drop (k+1)) (av.drop (k+1)):=by
 have hl:k<L.length:=(List.getElem?_eq_some_iff.1 ho).1;have hl2:k<av.length:=(List.getElem?_eq_some_iff.1 hn).1;have d1:L.drop k=o::L.drop (k+1):=by rw [List.drop_eq_getElem_cons hl];congr 1;exact Option.some.inj ((List.getElem?_eq_getElem _).symm.trans ho)
 have d2:av.drop k=n::av.drop (k+1):=by rw [List.drop_eq_getElem_cons hl2];congr 1;exact Option.some.inj ((List.getElem?_eq_getElem _).symm.trans hn)
 rw [d1,d2];rfl
theorem zpv (w:World) (v:Value) (m:Mach) (hm:z1j w v m) (hv:chkR m=0) (z:Nat) (i:MIns) (hi:m.instrs[z]? =some i) (sa:Value) (av:List Int) (hA:zd 1 intE w sa av) (hf:Fits m i av):
 Calls prog 20 #[v,.agg #[.int .i64 (z:Nat),sa]] w fun e w'=>e=.returned (.int .u64 (z22 m i.mtch i.opers av:Nat))/\Below w.heap.size w w':=by
 have him:=List.mem_of_getElem? hi;obtain ⟨hw,hl4,hmask,hmm,hlays,hpcs,_⟩:=z3d hv him;have hgood:=fun (k:Nat) o (ho:i.opers[k]? =some o)=>z2b hv him ho;obtain ⟨cs0,rfl,sr,sb,su,si,hcs,h1,h2,h3,hR,hB,hU,hI⟩:=hm;obtain rfl:cs0= #[.string m.name,.int .i64 m.word,.int .i64 m.address,sr,sb,su,si]:=by cases cs0;simp_all
 obtain ⟨Ai,ci,rfl,_,_,_,hallI⟩:=hI;obtain ⟨bi,oi,csi,rfl,hbi,_,hcelli,hEi⟩:=hallI z i hi;obtain ⟨so,se,rfl,_,hmk64,hmt64,hO,hEf,_⟩:=hEi;obtain ⟨_,hlt0,_⟩:=zkg hv him hmt64 hf;have h32:=z4y (size:=8*m.word) (by omega);have hmt:i.mtch<2^(8*m.word).toNat:=by
  apply Nat.lt_pow_two_of_testBit;intro j hj
  cases hb:i.mtch.testBit j with
  | false=>rfl
  | true=>have:=zk3 hmt64 (by omega) hmm hb;rw [Nat.testBit_lt_two_pow (Nat.lt_of_lt_of_le hmask (Nat.pow_le_pow_right (n:=2) (by omega) hj))] at this;cases this
 obtain ⟨CM,hCM⟩:∃ CM:Array Value,CM= #[.string m.name,.int .i64 m.word,.int .i64 m.address,sr,sb,su,.slice (some ⟨bi,oi,none⟩) m.instrs.length ci]:=⟨_,rfl⟩;obtain ⟨CX,hCX⟩:∃ CX:Array Value,CX=([.string i.name,.int .u64 (i.mask:Nat),.int .u64 (i.mtch:Nat),so,se,.int .i64 i.unit,.int .i64 i.busy,.int .i64 i.lat,.int .i64 i.slots]:List Value).toArray:=⟨_,rfl⟩;have hCl:CX.size=9:=by rw [hCX];rfl
 have HI57:=hid (show (prog.info? 60).map (·.size)=some CX.size by rw [hCl];kernel_rfl)
 obtain ⟨Z,hZs,hZ⟩:∃ Z:Array Value,Z.size=9/\∀ w,(Instr.alloc 60 true (.tuple #[])).run prog w=.ok (.pointer (some ⟨w.heap.size,0,none⟩)) (w.alloc (.cells Z 60)):=
  ⟨#[.string ⟨#[]⟩,.int .u64 0,.int .u64 0,.slice none 0 0,.slice none 0 0,.int .i64 0,.int .i64 0,.int .i64 0,.int .i64 0],rfl,fun w=>by kernel_rfl⟩
 have HZ:=hid hZ;have HZ2:=hid (show Z.size=CX.size by rw [hCl];exact hZs);have HONE:=hid (show CX.all (·.oneCell')=true by obtain ⟨_,_,rfl,_⟩:=hO;obtain ⟨_,_,rfl,_⟩:=hEf;rw [hCX];simp [Value.oneCell'])
 obtain ⟨W1,hW1⟩:∃ W1,W1=w.alloc (.cells CM 27):=⟨_,rfl⟩;obtain ⟨W2,hW2⟩:∃ W2,W2=W1.alloc (.cells #[.int .i64 (z:Nat),sa] 30):=⟨_,rfl⟩;obtain ⟨W3,hW3⟩:∃ W3,W3=W2.alloc (.cells CX 60):=⟨_,rfl⟩;obtain ⟨W4,hW4⟩:∃ W4,W4=W3.alloc (.cells #[.int .u64 (i.mtch:Nat)] 31):=⟨_,rfl⟩;have s1:W1.heap.size=w.heap.size+1:=by rw [hW1];simp
 have s2:W2.heap.size=w.heap.size+2:=by rw [hW2];simp [s1]
 have s3:W3.heap.size=w.heap.size+3:=by rw [hW3];simp [s2]
 have s4:W4.heap.size=w.heap.size+4:=by rw [hW4];simp [s3]
 have b1:Below w.heap.size w W1:=by rw [hW1];exact (Below.refl _ _).alloc (Nat.le_refl _) _
 have b2:Below W1.heap.size W1 W2:=by rw [hW2];exact (Below.refl _ _).alloc (Nat.le_refl _) _
 have b3:Below W2.heap.size W2 W3:=by rw [hW3];exact (Below.refl _ _).alloc (Nat.le_refl _) _
 have b4:Below W3.heap.size W3 W4:=by rw [hW4];exact (Below.refl _ _).alloc (Nat.le_refl _) _
 have b13:Below W1.heap.size W1 W3:=b2.trans (b3.mono b2.size);have b03:Below w.heap.size w W3:=b1.trans (b13.mono b1.size);have k1:W3.heap[w.heap.size]? =some (.cells CM 27):=(b13.block _ (by omega)).trans (by rw [hW1];exact heap_alloc_new _ _);have k2:W3.heap[w.heap.size+1]? =some (.cells #[.int .i64 (z:Nat),sa] 30):=(b3.block _ (by omega)).trans (by rw [hW2,<-s1];exact heap_alloc_new _ _);have k3:W3.heap[w.heap.size+2]? =some (.cells CX 60):=by rw [hW3,<-s2];exact heap_alloc_new _ _
 have hbox4:Boxed W4 (w.heap.size+3) 31 (.int .u64 (i.mtch:Nat)):=by rw [hW4,<-s3];exact Boxed.new _ _ _
 have HGR:=hid (show ∀ X,Below W3.heap.size W3 X->Below w.heap.size w X from fun X hX=>b03.trans (hX.mono b03.size));have HQ:=hid (show ∀ X,Below W3.heap.size W3 X->X.cell? ⟨w.heap.size,1,none⟩=some (.int .i64 m.word)/\X.cell? ⟨w.heap.size,4,none⟩=some sb/\X.cell? ⟨w.heap.size+1,1,none⟩=some sa from fun X hX=>by have e1:=(hX.block _ (by omega)).trans k1;have e2:=(hX.block _ (by omega)).trans k2;exact ⟨zb e1 (by rw [hCM];rfl),zb e1 (by rw [hCM];rfl),zb e2 rfl⟩)
 have HCC:=hid (show ∀ q v,CX[q]? =some v->W2.cell? ⟨bi,oi+z*9+q,none⟩=some v from fun q v hq=>((b1.trans (b2.mono b1.size)).cell (p:=⟨bi,oi+z*9+q,none⟩) hbi).trans (hcelli q v (by rw [hCX] at hq;simpa using hq)));have q3:W3.cell? ⟨w.heap.size+2,2,none⟩=some (.int .u64 (i.mtch:Nat)):=zb k3 (by rw [hCX];rfl);have q4:W4.cell? ⟨w.heap.size+2,3,none⟩=some so:=(b4.cell (p:=⟨w.heap.size+2,3,none⟩) (by show w.heap.size+2<W3.heap.size;omega)).trans (zb k3 (by rw [hCX];rfl));have hzn:(z:Int)<(m.instrs.length:Int):=by have:=(List.getElem?_eq_some_iff.1 hi).1;omega
 obtain ⟨Ao,co,rfl,_⟩:=id hO;obtain ⟨n,hn⟩:∃ n,i.opers.length=n:=⟨_,rfl⟩;rw [hn] at q4;subst hCM;rw [hW2,hW1] at HCC;rw [hW3,hW2,hW1] at q3;rw [hW4,hW3,hW2,hW1] at q4;have HB4:=hid (show ∀ X x,ThenW (w.heap.size+3) W4 X x->Below W3.heap.size W3 X from fun X x h=>b4.trans (by have:=h.below (n:=W3.heap.size) (by omega) (by omega);exact this));have HBX4:=hid hbox4;have HO:=hid hO;rw [hn] at HO;have HN:=hid hn;have HA:=hid hA;have HGOOD:=hid hgood;have HFIT:=hid hf;have HWD:=hid hw;have hBk:=hB;have HBK:=hid hBk;have HLO:=hid hlays;have HMT:=hid hmt;have hlb:∀ (k:Nat) o,i.opers[k]? =some o->∀ n,av[k]? =some n->z1t o=true->fldV m o n<2^zl o.pieces:=fun k o ho n hn' hfl=>(z99 (hgood k o ho) hfl (hf.2 k o n ho hn')).1;have HLB:=hid hlb;have HSZ:=hid (show W3.heap.size=w.heap.size+3/\W4.heap.size=w.heap.size+4 from ⟨s3,s4⟩);have hn4:n<=1000:=by rw [<- hn];omega
 have HW4:=hid hW4;have HW2:=hid hW2;have HW3:=hid hW3;have HW1:=hid hW1;obtain ⟨r,hr⟩:∃ r,z22 m i.mtch i.opers av=r:=⟨_,rfl⟩;rw [hr];clear hR hB hU hcs h1 h2 h3 hCX hZ hZs hallI hcelli hbi hi hn hCl b1 b2 b3 b13 b03 k1 k2 k3 hW1 hW2 hW3 hW4;go_enter Tryz.func20,Tryz.ntmps20
 go_wp2_with (first
  | (refine z1f rfl 60 _ rfl bi (oi+z*9) rfl CX _ Tryz.underlying60 rfl HI57.out HCC.out ?_)
  | (refine z3i rfl 60 rfl Z HZ.out ?_)
  | (refine z3j rfl 60 _ _ rfl Z CX rfl rfl HI57.out HZ2.out HONE.out ?_))
 rw [<- HW1.out,<-HW2.out,<-HW3.out,<-HW4.out];clear q3 q4 hzn hBk hO hA hgood hf hw hlays hmt hlb hbox4 s1 s2 s3 s4;go_loopw [24] (fun vi wr=>∃ k:Nat,vi=.int .i64 k/\k<=n/\Hid (∃ x,ThenW (w.heap.size+3) W4 wr x/\z22 m x (i.opers.drop k) (av.drop k)=r/\x<2^(8*m.word).toNat)) (fun vi _=>n-(intOf vi).toNat)
 case atStart=>exact ⟨0,rfl,Nat.zero_le _,hid ⟨i.mtch,ThenW.refl HBX4.out,by rw [List.drop_zero,List.drop_zero];exact hr,HMT.out⟩⟩
 case round=>
  obtain ⟨k,rfl,hkn,HJ⟩:=hrel;obtain ⟨x,htw,hgo,hx⟩:=HJ.out;have hb3:=HB4.out _ _ htw;by_cases hlt:k<n
  ·obtain ⟨o,ho⟩:∃ p,i.opers[k]? =some p:=⟨_,List.getElem?_eq_getElem (by rw [HN.out];exact hlt)⟩;obtain ⟨y,hy⟩:∃ p,av[k]? =some p:=⟨_,List.getElem?_eq_getElem (by rw [HFIT.out.1,HN.out];exact hlt)⟩;have hgd:=HGOOD.out k o ho;have har:=HFIT.out.2 k o y ho hy;rw [zub m x av ho hy] at hgo;have hbw:=HGR.out _ hb3;obtain ⟨A',c',e1,_,_,_,hall⟩:=HO.out.kept (fun cs x hx=>zx.kept hx hbw) hbw;obtain ⟨b,o1,cs,e2,hb,hcl,hcell,hE⟩:=hall k o ho;obtain ⟨rfl,rfl⟩:Ao=A'/\co=c':=by cases e1;exact ⟨rfl,rfl⟩
   clear e1;subst e2;have hE':=hE;obtain ⟨sv,rfl,_,_,_,_,hp,_⟩:=hE;obtain ⟨Ap,cp,rfl,_⟩:=hp;obtain ⟨np,hnp⟩:∃ z,o.pieces.length=z:=⟨_,rfl⟩;obtain ⟨nm,hnm⟩:∃ z,o.name=z:=⟨_,rfl⟩;obtain ⟨kd,hkd⟩:∃ z:Nat,o.kind=z:=⟨_,rfl⟩;obtain ⟨bk,hbk⟩:∃ z,o.bank=z:=⟨_,rfl⟩;obtain ⟨sc,hsc⟩:∃ z,o.scale=z:=⟨_,rfl⟩;obtain ⟨td,htd⟩:∃ z,o.tied=z:=⟨_,rfl⟩;have p0:wr.cell? ⟨b,o1+k*6,none⟩=some (.string nm):=by rw [<- hnm];simpa using hcell 0 _ rfl
   have p1:wr.cell? ⟨b,o1+k*6+1,none⟩=some (.int .u8 (kd:Nat)):=by rw [<- hkd];exact hcell 1 _ rfl
   have p2:wr.cell? ⟨b,o1+k*6+2,none⟩=some (.int .i64 bk):=by rw [<- hbk];exact hcell 2 _ rfl
   have p3:wr.cell? ⟨b,o1+k*6+3,none⟩=some (.int .i64 sc):=by rw [<- hsc];exact hcell 3 _ rfl
   have p4:wr.cell? ⟨b,o1+k*6+4,none⟩=some (.slice Ap np cp):=by rw [<- hnp];exact hcell 4 _ rfl
   have p5:wr.cell? ⟨b,o1+k*6+5,none⟩=some (.int .i64 td):=by rw [<- htd];exact hcell 5 _ rfl
   obtain ⟨W5,hW5⟩:∃ W5,W5=wr.alloc (.cells #[.string nm,.int .u8 (kd:Nat),.int .i64 bk,.int .i64 sc,.slice Ap np cp,.int .i64 td] 63):=⟨_,rfl⟩;have hb5:Below wr.heap.size wr W5:=by rw [hW5];exact (Below.refl _ _).alloc (Nat.le_refl _) _
   have hblk5:W5.heap[wr.heap.size]? =some (.cells #[.string nm,.int .u8 (kd:Nat),.int .i64 bk,.int .i64 sc,.slice Ap np cp,.int .i64 td] 63):=by rw [hW5];exact heap_alloc_new _ _
   have HBR:=hid (zf hb5 hb5.size);have h35:Below W3.heap.size W3 W5:=hb3.trans (hb5.mono hb3.size);obtain ⟨m1,m4,q1⟩:=HQ.out _ h35;obtain ⟨Aa,ca,rfl,_,_,_,hallA⟩:=HA.out;obtain ⟨ba,oa,csa,e2,hba,_,hcella,hEa⟩:=hallA k y hy;subst e2;obtain ⟨rfl,hyb⟩:=hEa;have a0:W5.cell? ⟨ba,oa+k,none⟩=some (.int .i64 y):=((HGR.out _ h35).cell (p:=⟨ba,oa+k,none⟩) hba).trans (by simpa using hcella 0 _ rfl);have hla:av.length=n:=by rw [HFIT.out.1,HN.out]
   rw [hla] at q1;have f0:=zb (i:=0) hblk5 rfl;have f1:=zb (i:=1) hblk5 rfl;have f2:=zb (i:=2) hblk5 rfl;have f3:=zb (i:=3) hblk5 rfl;have f4:=zb (i:=4) hblk5 rfl;have f5:=zb (i:=5) hblk5 rfl;have hkn2:(k:Int)<(n:Int):=by omega
   have hk0:(0:Int)<=(k:Int):=by omega
   have HLT:=hid hlt;have HW5:=hid hW5;have HPUT:=hid (show ∀ G,Below wr.heap.size wr G->z1t o=true->Calls prog 43 #[.agg #[.string nm,.int .u8 (kd:Nat),.int .i64 bk,.int .i64 sc,.slice Ap np cp,.int .i64 td],.int .u64 (fldV m o y:Nat),.pointer (some ⟨w.heap.size,0,none⟩),.pointer (some ⟨w.heap.size+3,0,none⟩)] G fun e w'=>e=.returned (.tuple #[])/\ThenW (w.heap.size+3) W4 w' (putN x (fldV m o y) o.pieces) from fun G hG hfl=>by have hG3:=hb3.trans (hG.mono hb3.size);have hbx:Boxed G (w.heap.size+3) 31 (.int .u64 (x:Nat)):=(hG.block _ htw.box.lt).trans htw.box;have h:=zwh G w.heap.size (w.heap.size+3) m.word (HQ.out _ hG3).1 (by have:=hG3.size;have:=HSZ.out.1;omega) x hbx o _ (zx.kept hE' hG) HWD.out hgd.pieces hx (fldV m o y) (HLB.out k o ho y hy hfl);rw [hnm,hkd,hbk,hsc,htd,hnp] at h;exact h.mono fun e w' ⟨h1,h2⟩=>⟨h1,htw.trans ((ThenW.grown hG htw.box).trans h2)⟩)
   have HXP:=hid (show putN x (fldV m o y) o.pieces<2^(8*m.word).toNat from ztq hgd.pieces.2.2 hx);have K0:=cell_regrown f0;have K1:=cell_regrown f1;have K2:=cell_regrown f2;have K3:=cell_regrown f3;have K4:=cell_regrown f4;have K5:=cell_regrown f5;have L1:=cell_regrown q1;have L2:=cell_regrown a0;have L3:=cell_regrown m4;by_cases hk1:kd=1
   ·have hok:o.kind=1:=(by rw [hkd,hk1]);by_cases ht:td= -1
    ·have hfl:z1t o=true:=(by unfold z1t;rw [hok,htd,ht];rfl);rw [if_pos hfl] at hgo;obtain ⟨bn,hbn,q,hq,hbr,_⟩:=hgd.bank hok;rw [hbk] at hbn;obtain ⟨Ab,cb,rfl,_,_,_,hallB⟩:=HBK.out;obtain ⟨bb,ob,csb,e2,hbb,_,hcellB,hEb⟩:=hallB bn q hq;subst e2;obtain ⟨sq,rfl,_,hRq⟩:=hEb;have b0:W5.cell? ⟨bb,ob+bn*2+1,none⟩=some sq:=((HGR.out _ h35).cell (p:=⟨bb,ob+bn*2+1,none⟩) hbb).trans (hcellB 1 _ rfl);have L4:=cell_regrown b0;have hbnl:(bn:Int)<(m.banks.length:Int):=(by have:=(List.getElem?_eq_some_iff.1 hq).1;omega);have hbn0:(0:Int)<=(bn:Int):=(by omega);have hmem:y∈z2j m o:=by
      unfold argR at har;rw [if_pos hok] at har;by_cases h:y∈z2j m o
      ·exact h
      ·rw [if_neg h] at har;cases har
     obtain ⟨k2,hk2,hk3⟩:=zd0 hmem;have hfv:fldV m o y=k2:=(by unfold fldV;rw [if_pos hok,hk2];simp);have hk64:k2<64:=by have h1:=(List.getElem?_eq_some_iff.1 hk3).1;have h2:=hgd.bank hok;obtain ⟨_,_,_,_,e1,e2⟩:=h2;rw [e1] at h1;omega
     have hwk:IntKind.u64.wrap ((k2:Nat):Int)=k2:=(by rw [IntKind.wrap_u64];omega);have rI:=hid (fun d os=>Calls.regrown_of (w:=W5) (d:=d) (os:=os) (v:=.int .i64 (k2:Nat)) (by have hk:=HGR.out _ (hb3.trans ((HBR.out d os).mono hb3.size));have h:=zgl sq q.regs (grow (redrawn W5 d) os) (hRq.kept (fun cs x hx=>intE.kept hx hk) hk) y;rw [<- hbr,hk2] at h;exact h))
     rw [hfv] at hgo HPUT HXP;have HGO:=hid hgo;have HP2:=hid (show ∀ G,Below wr.heap.size wr G->Calls prog 43 #[.agg #[.string nm,.int .u8 1,.int .i64 (bn:Nat),.int .i64 sc,.slice Ap np cp,.int .i64 (-1)],.int .u64 (k2:Nat),.pointer (some ⟨w.heap.size,0,none⟩),.pointer (some ⟨w.heap.size+3,0,none⟩)] G fun e w'=>e=.returned (.tuple #[])/\ThenW (w.heap.size+3) W4 w' (putN x k2 o.pieces) from fun G hG=>by have h:=HPUT.out G hG hfl;rw [hk1,ht,hbn] at h;exact h)
     clear HPUT;subst hk1 ht hbn;rw [show (((1:Nat)):Int)=1 from rfl] at p1 HW5;replace K1:∀ d os,(grow (redrawn W5 d) os).cell? ⟨wr.heap.size,1,none⟩=some (.int .u8 1):=K1;have HWK:=hid hwk;have hwk:=HWK.out;clear hall hcell hcl hE' hb hb5 hblk5 h35 hbw ho hnm hkd hbk hsc htd hnp hallA hcella hba hla hgd har htw hx HJ hb3 hW5 f0 f1 f2 f3 f4 f5 a0 q1 m4 m1 hy hgo hallB hcellB hbb hRq b0 hbr hq hmem hk2 hk3 hfv hk64 hok hfl hyb;go_wp2_with fail
     rw [<- HW5.out];refine zh 15 (.func (.func 43) #[] #[.pointer (some ⟨w.heap.size,0,none⟩),.pointer (some ⟨w.heap.size+3,0,none⟩)]) (by kernel_rfl) (by kernel_rfl) (fun _ _ _ h=>h) rfl (fun _=>rfl) ?_;simp only [List.take_succ_cons,List.take_zero,List.drop_succ_cons,List.drop_zero];repeat (first|go_big_quiet_step (with_reducible exact rI.out _ _)|quiet_step (with_reducible exact rI.out _ _))
     refine wpQuiet_nil ?_;intro X hX;have hbX:Below wr.heap.size wr X:=(by obtain ⟨p,rfl⟩:=hX;exact HBR.out _ _);clear hX K0 K1 K2 K3 K4 K5 L1 L2 L3 L4;go_wp2_with (go_at_call 43;(with_reducible refine (HP2.out X hbX).mono ?_);rintro e w5 ⟨rfl,hT⟩)
     go_roundw
     case rel=>exact ⟨k+1,by first|rfl|go_num|(congr 1),by have:=HLT.out;omega,hid ⟨_,hT,HGO.out,HXP.out⟩⟩
     case measure=>simp only [intOf];have:=HLT.out;omega
    ·have hfl:¬ z1t o=true:=(by unfold z1t;rw [hok,htd];simp [ht]);rw [if_neg hfl] at hgo;have g:(td== -1)=false:=(by simp [ht]);have hT5:ThenW (w.heap.size+3) W4 W5 x:=htw.trans (ThenW.grown hb5 htw.box);have HT5:=hid hT5;have HGO:=hid hgo;have HX:=hid hx;subst hk1;rw [show (((1:Nat)):Int)=1 from rfl] at p1 HW5;clear hall hcell hcl hE' hb hb5 hblk5 h35 hbw ho hnm hkd hbk hsc htd hnp hallA hcella hba hla hgd har htw hx HJ hb3 hW5 f0 f1 f2 f3 f4 f5 a0 q1 m4 m1 hy hgo hok hfl hT5 ht HPUT hyb K0 K1 K2 K3 K4 K5 L1 L2 L3;go_wp2
     rw [<- HW5.out];go_roundw
     case rel=>exact ⟨k+1,by first|rfl|go_num|(congr 1),by have:=HLT.out;omega,hid ⟨_,HT5.out,HGO.out,HX.out⟩⟩
     case measure=>simp only [intOf];have:=HLT.out;omega
   ·have hok:o.kind≠1:=(by rw [hkd];exact hk1);have hfl:z1t o=true:=(by unfold z1t;simp [hok]);rw [if_pos hfl] at hgo;obtain ⟨fw,hfw⟩:∃ z,fwR 0 o.pieces=z:=⟨_,rfl⟩;have rF1:=hid (fun d os=>Calls.regrown_of (w:=W5) (d:=d) (os:=os) (v:=.int .i64 fw) (by
     have h:=z8u (grow (redrawn W5 d) os) o _ (zx.kept hE' (HBR.out d os)) (by have:=hgd.pieces.2.1;omega);rw [hnm,hkd,hbk,hsc,htd,hnp,hfw] at h;exact h))
    have hfv:(z1w kd fw sc y).1=fldV m o y:=(by unfold fldV;rw [if_neg hok,hkd,hfw,hsc]);obtain ⟨fe,hfe⟩:∃ z,(z1w kd fw sc y).2=z:=⟨_,rfl⟩;obtain ⟨fv,hfv2⟩:∃ z,fldV m o y=z:=⟨_,rfl⟩;have rF2:=hid (fun d os=>Calls.regrown_of (w:=W5) (d:=d) (os:=os) (v:=.tuple #[.int .u64 (fv:Nat),.int .i64 fe]) (by have h:=zri kd fw sc y (grow (redrawn W5 d) os) hyb;rw [hfv,hfe,hfv2] at h;exact h))
    rw [hfv2] at hgo HPUT HXP;have HGO:=hid hgo;have HP2:=hid (fun G hG=>HPUT.out G hG hfl);have g:(((kd:Nat):Int)!=1)=true:=(by simp;omega);clear hall hcell hcl hE' hb hb5 hblk5 h35 hbw ho hnm hkd hbk hsc htd hnp hallA hcella hba hla hgd har htw hx HJ hb3 hW5 f0 f1 f2 f3 f4 f5 a0 q1 m4 m1 hy hgo HPUT hok hfl hfw hfv hfe hfv2 hk1 hyb;go_wp2_with fail
    rw [<- HW5.out];refine wp_region_quiet_below (by kernel_rfl) (by kernel_rfl) ?_;repeat (first|go_big_quiet_step (first|(with_reducible exact rF1.out _ _)|(with_reducible exact rF2.out _ _))|quiet_step (first|(with_reducible exact rF1.out _ _)|(with_reducible exact rF2.out _ _)))
    refine wpQuiet_nil ?_;intro G hG;have hbG:Below wr.heap.size wr G:=(by obtain ⟨p,rfl⟩:=hG;exact HBR.out _ _);have g0:G.cell? ⟨wr.heap.size,0,none⟩=some (.string nm):=(by obtain ⟨p,rfl⟩:=hG;exact K0 _ _);have g1:G.cell? ⟨wr.heap.size,1,none⟩=some (.int .u8 (kd:Nat)):=(by obtain ⟨p,rfl⟩:=hG;exact K1 _ _);have g2:G.cell? ⟨wr.heap.size,2,none⟩=some (.int .i64 bk):=(by obtain ⟨p,rfl⟩:=hG;exact K2 _ _);have g3:G.cell? ⟨wr.heap.size,3,none⟩=some (.int .i64 sc):=(by obtain ⟨p,rfl⟩:=hG;exact K3 _ _);have g4:G.cell? ⟨wr.heap.size,4,none⟩=some (.slice Ap np cp):=(by obtain ⟨p,rfl⟩:=hG;exact K4 _ _);have g5:G.cell? ⟨wr.heap.size,5,none⟩=some (.int .i64 td):=(by obtain ⟨p,rfl⟩:=hG;exact K5 _ _);clear hG K0 K1 K2 K3 K4 K5 L1 L2 L3;go_wp2_with (go_at_call 43;(with_reducible refine (HP2.out G hbG).mono ?_);rintro e w5 ⟨rfl,hT⟩)
    go_roundw
    case rel=>exact ⟨k+1,by first|rfl|go_num|(congr 1),by have:=HLT.out;omega,hid ⟨_,hT,HGO.out,HXP.out⟩⟩
    case measure=>simp only [intOf];have:=HLT.out;omega
  ·obtain rfl:k=n:=by omega
   rw [List.drop_eq_nil_of_le (by rw [HN.out];exact Nat.le_refl _)] at hgo;have hxr:x=r:=by rw [<- hgo];cases (av.drop k)<;>rfl
   have hcx:=htw.box.cell;have HF:=hid (show Below w.heap.size w wr from HGR.out _ hb3);have HXR:=hid hxr;clear htw hgo hx hb3 HJ hxr;go_wp2
   go_ret
   exact ⟨by rw [HXR.out];rfl,HF.out⟩
def ofBR (n z:Int):Nat×Int:=
 if n<1∨64<n then (0,14) else if sg n.toNat (z%2^n.toNat).toNat=z then ((z%2^n.toNat).toNat,0) else (0,24)
theorem z00u (n:Int) (z:Int) (w:World):
 Calls prog 98 #[.int .i64 n,.int .i64 z] w fun e w'=>e=.returned (.tuple #[.int .u64 (ofBR n z).1,.int .i64 (ofBR n z).2])/\w=w':=by
 by_cases h:n<1∨64<n
 ·rw [show ofBR n z=(0,14) by unfold ofBR;rw [if_pos h]];have H:=hid h;clear h;go_enter Tryz.func98,Tryz.ntmps98
  go_wp2_with (go_at_call 108;refine (ze5 _ _ _ _ H.out).mono ?_;rintro e w' ⟨rfl,rfl⟩)
  go_ret2
  exact ⟨rfl,rfl⟩
 ·obtain ⟨m,rfl⟩:∃ m:Nat,n=m:=⟨n.toNat,by omega⟩;have h0:1<=m:=by omega
  have h1:m<=64:=by omega
  have hm:=zt5 m z h1;have hx:(z%2^m).toNat<2^m:=by
   have e:((2:Int)^m)=((2^m:Nat):Int):=by simp
   have hp:=z9d m;rw [e];have h2:=Int.emod_nonneg z (show ((2^m:Nat):Int)≠0 by omega);have h3:=Int.emod_lt_of_pos z (show (0:Int)<((2^m:Nat):Int) by omega);omega
  have HS:=fun W=>hid (zc4 m (z%2^m).toNat W h0 h1 hx);have E:ofBR m z=if sg m (z%2^m).toNat=z then ((z%2^m).toNat,0) else (0,24):=by unfold ofBR;rw [if_neg h,Int.toNat_natCast]
  rw [E];have HE:=hid E;clear hx E h;generalize hr:(z%2^m).toNat=r at *;clear hr;by_cases hz:sg m r=z
  ·rw [if_pos hz];have d:(sg m r==z)=true:=by simp [hz]
   have HZ:=hid hz;clear hz;go_enter Tryz.func98,Tryz.ntmps98
   go_wp2_with (first
    | (go_at_call 108;refine (check0 m _ h0 h1).mono ?_;rintro e w' ⟨rfl,rfl⟩)
    | (go_at_call 77;refine (z2m m _ h0 h1).mono ?_;rintro e w' ⟨rfl,rfl⟩)
    | (go_at_call 109;refine (HS _).out.mono ?_;rintro e w' ⟨rfl,rfl⟩))
   go_ret2
   exact ⟨rfl,rfl⟩
  ·rw [if_neg hz];have d:(sg m r==z)=false:=by simp [hz]
   have HZ:=hid hz;clear hz;go_enter Tryz.func98,Tryz.ntmps98
   go_wp2_with (first
    | (go_at_call 108;refine (check0 m _ h0 h1).mono ?_;rintro e w' ⟨rfl,rfl⟩)
    | (go_at_call 77;refine (z2m m _ h0 h1).mono ?_;rintro e w' ⟨rfl,rfl⟩)
    | (go_at_call 109;refine (HS _).out.mono ?_;rintro e w' ⟨rfl,rfl⟩))
   go_ret2
   exact ⟨rfl,rfl⟩
theorem zxs (m:Nat) (z:Int) (h1:1<=m) (h2:m<=32):sg m (z%2^m).toNat=z↔lowN true m<=z/\z<=z3c true m:=by
 constructor
 ·intro h;have hlt:(z%2^m).toNat<2^m:=by
   have e:((2:Int)^m)=((2^m:Nat):Int):=by simp
   have hp:=Nat.two_pow_pos m;rw [e];have h2:=Int.emod_nonneg z (show ((2^m:Nat):Int)≠0 by omega);have h3:=Int.emod_lt_of_pos z (show (0:Int)<((2^m:Nat):Int) by omega);omega
  obtain ⟨a,b,_⟩:=zcp true m _ h1 h2 hlt;simp only [if_true] at a b;rw [h] at a b;exact ⟨a,b⟩
 ·rintro ⟨a,b⟩;have:=(zmc true m z h1 h2 a b).2;simpa using this
theorem zcw (W:World) (x:MOper) (cs:List Value) (hE:zx W cs x) (hc:chkK x.kind (fwR 0 x.pieces) x.scale=0) (h4:x.pieces.length<=1000) (n:Int) (hn : -9223372036854775808<=n/\n<=9223372036854775807):
 Calls prog 54 #[.agg cs.toArray,.int .i64 n] W fun e w'=>e=.returned (.bool (decide ((z1w x.kind (fwR 0 x.pieces) x.scale n).2=0)))/\Below W.heap.size W w':=by
 obtain ⟨⟨a1,a2⟩,a3,a4,hkd⟩:=z7x hc;have hr:decide ((z1w x.kind (fwR 0 x.pieces) x.scale n).2=0)=numB (sgK x.kind) (fwR 0 x.pieces).toNat x.scale.toNat n:=by rw [Bool.eq_iff_iff,decide_eq_true_eq,zix];exact ⟨fun h=>h.2,fun h=>⟨hc,h⟩⟩
 rw [hr];clear hr hc;have hF:=fun X (hX:Below W.heap.size W X)=>z69 X x cs (zx.kept hE hX) h4;obtain ⟨m,hm⟩:∃ m:Nat,fwR 0 x.pieces=m:=⟨(fwR 0 x.pieces).toNat,by omega⟩;obtain ⟨s,hs⟩:∃ s:Nat,x.scale=s:=⟨x.scale.toNat,by omega⟩;obtain ⟨k,hk⟩:∃ k:Nat,x.kind=k:=⟨_,rfl⟩;obtain ⟨sv,rfl,_⟩:=hE;rw [hs,hk] at hF;rw [hm] at hF;rw [hm,hs,hk,Int.toNat_natCast,Int.toNat_natCast];rw [hm] at a1 a2;rw [hs] at a3 a4;rw [hk] at hkd;have h1:1<=m:=by omega
 have h2:m<=32:=by omega
 have h3:s<=3:=by omega
 obtain ⟨nm,hnm⟩:∃ z,x.name=z:=⟨_,rfl⟩;obtain ⟨bk,hbk⟩:∃ z,x.bank=z:=⟨_,rfl⟩;obtain ⟨td,htd⟩:∃ z,x.tied=z:=⟨_,rfl⟩;rw [hnm,hbk,htd] at hF ⊢;have HF:=hid hF;have HB:=hid ((Below.refl W.heap.size W).alloc (Nat.le_refl _) (.cells #[.string nm,.int .u8 (k:Nat),.int .i64 bk,.int .i64 (s:Nat),sv,.int .i64 td] 63));have hk1:=zbj s n h3 hn.1 hn.2;have hr:numB (sgK k) m s n=(decide (n / 2^s*2^s=n)&&decide (lowN (sgK k) m<=n / 2^s/\n / 2^s<=z3c (sgK k) m)):=rfl;rw [hr];have hq:(wrap64 (n / 2^s*2^s)!=n)= !(decide (n / 2^s*2^s=n)):=by rw [hk1];by_cases e:n / 2^s*2^s=n<;>simp [e]
 have hylo : -9223372036854775808<=n / 2^s/\n / 2^s<=9223372036854775807:=by rcases pow3 s h3 with h|h|h|h<;>rw [h]<;>omega
 obtain ⟨y,hy⟩:∃ y,n / 2^s=y:=⟨_,rfl⟩;have HY:=hid hy;obtain ⟨q,hqq⟩:∃ q,decide (n / 2^s*2^s=n)=q:=⟨_,rfl⟩;rw [hqq] at hq ⊢;rw [hy] at hylo ⊢;have HQ:=hid hq;clear hF hm hs hk hnm hbk htd a1 a2 a3 a4 h4 hk1 hr hn hqq hq hy
 cases q with
 | false=>
   have hq:=HQ.out;clear hkd hylo HF;go_enter Tryz.func54,Tryz.ntmps54
   go_wp2
   go_ret
   exact ⟨rfl,HB.out⟩
 | true=>
   rw [Bool.true_and];by_cases hk3:k=3
   ·subst hk3;rw [show sgK ((3:Nat):Int)=false from rfl];rw [show (((3:Nat)):Int)=3 from rfl] at HF HB ⊢;have hq:=HQ.out;by_cases hy0:y≥0
    ·obtain ⟨z,rfl⟩:∃ z:Nat,y=z:=⟨y.toNat,by omega⟩;have hw:IntKind.u64.wrap ((z:Nat):Int)=z:=(by rw [IntKind.wrap_u64];omega);have hres:decide (lowN false m<=(z:Int)/\(z:Int)<=z3c false m)=okB m z:=by
      rw [Bool.eq_iff_iff,decide_eq_true_eq,z4b];have:=z9n m;unfold lowN z3c;simp only [Bool.false_eq_true,if_false];omega
     rw [hres];have HO:=hid (fun X=>zta m z X h1 (by omega));have HW:=hid hw;have g:decide (n / 2^s≥0)=true:=(by rw [HY.out];simp);have HYW:=hid (show IntKind.u64.wrap (n / 2^s)=z by rw [HY.out];exact hw);have HO2:=hid (show ∀ X,Calls prog 83 #[.int .i64 (m:Nat),.int .u64 (IntKind.u64.wrap (n / 2^s))] X fun e w'=>e=.returned (.bool (okB m z))/\X=w' from fun X=>by rw [HYW.out];exact HO.out X);clear hylo hkd hw hres hy0 HO;go_enter Tryz.func54,Tryz.ntmps54
     go_wp2_with (first
      | (go_at_call 97;(with_reducible refine (HF.out _ HB.out).mono ?_);rintro e w3 ⟨rfl,hb3⟩)
      | (go_at_call 83;(with_reducible refine (HO2.out _).mono ?_);rintro e w4 ⟨rfl,rfl⟩))
     go_ret
     exact ⟨rfl,HB.out.trans (hb3.mono HB.out.size)⟩
    ·have g:decide (n / 2^s≥0)=false:=(by rw [HY.out];simpa using hy0);have hres:decide (lowN false m<=y/\y<=z3c false m)=false:=by
      unfold lowN;simp only [Bool.false_eq_true,if_false];simp;omega
     rw [hres];clear hylo hkd hres hy0 HF;go_enter Tryz.func54,Tryz.ntmps54
     go_wp2
     go_ret
     exact ⟨rfl,HB.out⟩
   ·have hsg:sgK (k:Nat)=true:=by
     rcases hkd with h|h
     ·exact h
     ·exact absurd (by omega) hk3
    rw [hsg];have hq:=HQ.out;have g3:(((k:Nat):Int)==3)=false:=(by simp;omega);obtain ⟨r,hrr⟩:∃ r,decide (lowN true m<=y/\y<=z3c true m)=r:=⟨_,rfl⟩;have hof:(ofBR m y).2=if r=true then 0 else 24:=by
     unfold ofBR;rw [if_neg (by omega),Int.toNat_natCast]
     cases r with
     | true=>rw [if_pos ((zxs m y h1 h2).2 (by simpa using hrr))];rfl
     | false=>rw [if_neg (fun h=>by have:=(zxs m y h1 h2).1 h;simp at hrr;omega)];rfl
    rw [hrr];obtain ⟨u,hu⟩:∃ u,(ofBR m y).1=u:=⟨_,rfl⟩;have HO:=hid (show ∀ X,Calls prog 98 #[.int .i64 (m:Nat),.int .i64 (n / 2^s)] X fun e w'=>e=.returned (.tuple #[.int .u64 (u:Nat),.int .i64 (if r=true then 0 else 24)])/\X=w' from fun X=>by rw [HY.out,<-hu,<-hof];exact z00u m y X)
    clear hylo hkd hof hu hrr hsg hk3;cases r
    all_goals
     simp only [if_true,Bool.false_eq_true,if_false] at HO;go_enter Tryz.func54,Tryz.ntmps54
     go_wp2_with (first
      | (go_at_call 97;(with_reducible refine (HF.out _ HB.out).mono ?_);rintro e w3 ⟨rfl,hb3⟩)
      | (go_at_call 98;(with_reducible refine (HO.out _).mono ?_);rintro e w4 ⟨rfl,rfl⟩))
     go_ret
     exact ⟨rfl,HB.out.trans (hb3.mono HB.out.size)⟩
theorem zvp {L:List Int} {n:Int} (h:¬ n∈L):ixF (fun y=>decide (y=n)) L= -1:=by
 unfold ixF;have:L.findIdx? (fun y=>decide (y=n))=none:=by rw [List.findIdx?_eq_none_iff];intro x hx;simp only [decide_eq_false_iff_not];rintro rfl;exact h hx
 rw [this]
theorem ze8 (v:Value) (L:List Int) (w:World) (hR:zd 1 intE w v L) (z:Int):
 Calls prog 55 #[v,.int .i64 z] w fun e w'=>e=.returned (.bool (decide (z∈L)))/\Below w.heap.size w w':=by
 have HX:=hid (zgl v L w hR z);by_cases h:z∈L
 ·obtain ⟨k,hk,_⟩:=zd0 h;rw [hk] at HX;rw [decide_eq_true h];clear h hk;go_enter Tryz.func55,Tryz.ntmps55
  go_wp2_with (go_at_call 47;(with_reducible refine HX.out.mono ?_);rintro e w3 ⟨rfl,hb3⟩)
  go_ret
  exact ⟨by simp,hb3⟩
 ·rw [zvp h] at HX;rw [decide_eq_false h];clear h;go_enter Tryz.func55,Tryz.ntmps55
  go_wp2_with (go_at_call 47;(with_reducible refine HX.out.mono ?_);rintro e w3 ⟨rfl,hb3⟩)
  go_ret
  exact ⟨rfl,hb3⟩
theorem ze1 (w : World) (v : Value) (m : Mach) (hm : z1j w v m) (i : MIns) (k : Nat) (o : MOper) (hG : OperGood m i k o) (cs : List Value) (hE : zx w cs o) (sa : Value) (av : List Int) (hA : zd 1 intE w sa av) (hk : k < av.length) :
 Calls prog 32 #[v, .agg cs.toArray, sa, .int .i64 k] w fun e w' => e = .returned (.int .i64 (argR m o av ((av[k]?).getD 0))) /\ Below w.heap.size w w' := by
 obtain ⟨cs0, rfl, sr, sb, su, si, hcs, h1, h2, h3, hR, hB, hU, hI⟩ := hm;obtain rfl : cs0 = #[.string m.name, .int .i64 m.word, .int .i64 m.address, sr, sb, su, si] := by cases cs0; simp_all
 have hE' := hE;obtain ⟨sv, rfl, _⟩ := hE;obtain ⟨W2, hW2⟩ : ∃ W2, W2 = (w.alloc (.cells #[.string m.name, .int .i64 m.word, .int .i64 m.address, sr, sb, su, si] 27)).alloc (.cells #[.string o.name, .int .u8 o.kind, .int .i64 o.bank, .int .i64 o.scale, sv, .int .i64 o.tied] 63) := ⟨_, rfl⟩;have HW2 := hid hW2;have hb1 : Below w.heap.size w (w.alloc (.cells #[.string m.name, .int .i64 m.word, .int .i64 m.address, sr, sb, su, si] 27)) := (Below.refl _ _).alloc (Nat.le_refl _) _;have hb2 : Below w.heap.size w W2 := by rw [hW2]; exact hb1.alloc (by simp) _
 have hs2 : W2.heap.size = w.heap.size + 2 := by rw [hW2]; simp
 have hm2 : W2.heap[w.heap.size]? = some (.cells #[.string m.name, .int .i64 m.word, .int .i64 m.address, sr, sb, su, si] 27) := by rw [hW2];exact (((Below.refl _ _).alloc (Nat.le_refl _) _).block _ (by simp)).trans (heap_alloc_new _ _)
 have ho2 : W2.heap[w.heap.size + 1]? = some (.cells #[.string o.name, .int .u8 o.kind, .int .i64 o.bank, .int .i64 o.scale, sv, .int .i64 o.tied] 63) := by rw [hW2];have := heap_alloc_new (w.alloc (.cells #[.string m.name, .int .i64 m.word, .int .i64 m.address, sr, sb, su, si] 27)) (.cells #[.string o.name, .int .u8 o.kind, .int .i64 o.bank, .int .i64 o.scale, sv, .int .i64 o.tied] 63);simpa using this
 have HB := hid (zf hb2 hb2.size);have HB2 := hid hb2;obtain ⟨n, hn⟩ : ∃ n, av[k]? = some n := ⟨_, List.getElem?_eq_getElem hk⟩;rw [hn, Option.getD_some];have hA' := hA;obtain ⟨Aa, ca, rfl, _, _, _, hallA⟩ := hA;obtain ⟨ba, oa, csa, rfl, hba, _, hcellA, hEa⟩ := hallA k n hn;obtain ⟨rfl, hnb⟩ := hEa;have hca : ∀ (t : Nat) (y : Int), av[t]? = some y -> W2.cell? ⟨ba, oa + t, none⟩ = some (.int .i64 y) := fun t y hy => by
  obtain ⟨b', o', cs', e1, hb', _, hc', hE''⟩ := hallA t y hy;obtain ⟨rfl, rfl⟩ : ba = b' /\ oa = o' := by cases e1; exact ⟨rfl, rfl⟩
  obtain ⟨rfl, _⟩ := hE'';exact (hb2.cell hb').trans (by simpa using hc' 0 _ rfl)
 have a0 := hca k n hn;have f0 := zb (i := 0) ho2 rfl;have f1 := zb (i := 1) ho2 rfl;have f2 := zb (i := 2) ho2 rfl;have f3 := zb (i := 3) ho2 rfl;have f4 := zb (i := 4) ho2 rfl;have f5 := zb (i := 5) ho2 rfl;have m4 := zb (i := 4) hm2 rfl;have hkn : (k : Int) < (av.length : Int) := by omega
 have hk0 : (0 : Int) <= (k : Int) := by omega
 by_cases hk1 : o.kind = 1
 ·obtain ⟨bk, hbk, q, hq, hbr, _⟩ := hG.bank hk1;have hB' := hB;obtain ⟨Ab, cb, rfl, _, _, _, hallB⟩ := hB;obtain ⟨bb, ob, csb, rfl, hbb, _, hcellB, hEb⟩ := hallB bk q hq;obtain ⟨sq, rfl, _, hRq⟩ := hEb;have b0 : W2.cell? ⟨bb, ob + bk * 2 + 1, none⟩ = some sq := (hb2.cell hbb).trans (hcellB 1 _ rfl);have hbn : (bk : Int) < (m.banks.length : Int) := by have := (List.getElem?_eq_some_iff.1 hq).1; omega
  have hb0 : (0 : Int) <= (bk : Int) := by omega
  have rC := hid (fun d os => Calls.regrown_of (w := W2) (d := d) (os := os) (ze8 sq q.regs (grow (redrawn W2 d) os) (hRq.kept (fun cs x hx => intE.kept hx (HB.out d os)) (HB.out d os)) n));have hres : argR m o av n = if n ∈ q.regs then (if o.tied = -1 then 0 else if n = (av[o.tied.toNat]?).getD 0 then 0 else 40) else 16 := by unfold argR; rw [if_pos hk1, hbr]
  rw [hres];obtain ⟨c, hc⟩ : ∃ c, decide (n ∈ q.regs) = c := ⟨_, rfl⟩;rw [hc] at rC;obtain ⟨lb, hlb⟩ : ∃ z, m.banks.length = z := ⟨_, rfl⟩;obtain ⟨la, hla⟩ : ∃ z, av.length = z := ⟨_, rfl⟩;obtain ⟨td, htd⟩ : ∃ z, o.tied = z := ⟨_, rfl⟩;have htied := hG.tied hk1;rw [htd] at htied f5 HW2 ⊢;rw [hla] at hkn ⊢;rw [hlb] at hbn m4 HW2 ⊢;rw [hbk] at f2 HW2 ⊢;rw [hk1, show (((1 : Nat)) : Int) = 1 from rfl] at f1 HW2 ⊢;obtain ⟨nm, hnm⟩ : ∃ z, o.name = z := ⟨_, rfl⟩;obtain ⟨sc, hsc⟩ : ∃ z, o.scale = z := ⟨_, rfl⟩;rw [hnm] at f0 HW2 ⊢;rw [hsc] at f3 HW2 ⊢;have K1 := cell_regrown a0;have K2 := cell_regrown f2;have K3 := cell_regrown m4;have K4 := cell_regrown b0;have HF5 := hid (cell_regrown f5);have HA0 := hid (cell_regrown a0);have HKN := hid hkn;have hcT : td ≠ -1 -> ∃ (t : Nat) (y : Int), td = t /\ t < la /\ av[t]? = some y := fun h => by obtain ⟨_, t, qq, e1, e2, e3, _⟩ := htied h;refine ⟨t, _, e1, by omega, List.getElem?_eq_getElem (by omega)⟩
  have HCA := hid hca;have HCT := hid hcT;have HLA := hid hla;clear hallA hcellA hallB hcellB hRq hB' hR hU hI hcs hE' hA' hG htied hres hbr hq hn hk hbk hlb htd hnm hsc hk1 h1 h2 h3 hb1 hm2 ho2 hca hcT hla hb2 hs2 hba hbb hW2
  cases c with
  | false =>
    rw [if_neg (by simpa using hc)];clear hc;go_enter Tryz.func32, Tryz.ntmps32
    go_wp2_with fail
    rw [<- HW2.out];refine wp_region_quiet_below (by kernel_rfl) (by kernel_rfl) ?_;repeat (first | go_big_quiet_step ((with_reducible exact rC.out _ _)) | quiet_step ((with_reducible exact rC.out _ _)))
    refine wpQuiet_nil ?_;intro G hG;have hbG : Below w.heap.size w G := (by obtain ⟨p, rfl⟩ := hG; exact HB.out _ _);clear hG;go_wp2
    go_ret
    exact ⟨rfl, hbG⟩
  | true =>
    rw [if_pos (by simpa using hc)];clear hc;by_cases ht : td = -1
    ·subst ht;rw [if_pos rfl];go_enter Tryz.func32, Tryz.ntmps32
     go_wp2_with fail
     rw [<- HW2.out];refine wp_region_quiet_below (by kernel_rfl) (by kernel_rfl) ?_;repeat (first | go_big_quiet_step ((with_reducible exact rC.out _ _)) | quiet_step ((with_reducible exact rC.out _ _)))
     refine wpQuiet_nil ?_;intro G hG;have hbG : Below w.heap.size w G := (by obtain ⟨p, rfl⟩ := hG; exact HB.out _ _);have g5 : G.cell? ⟨w.heap.size + 1, 5, none⟩ = some (.int .i64 (-1)) := (by obtain ⟨p, rfl⟩ := hG; exact HF5.out _ _);have HBG := hid hbG;clear hG K1 K2 K3 K4 hbG;go_wp2_with fail
     go_quiet (fail)
     go_wp2
     go_ret
     exact ⟨rfl, HBG.out.trans (z38 _ _ _)⟩
    ·rw [if_neg ht];obtain ⟨t, y, rfl, htl, hy⟩ := HCT.out ht;rw [Int.toNat_natCast, hy, Option.getD_some];have HCY := hid (fun d os => cell_regrown (HCA.out t y hy) d os);have gt : (((t : Nat) : Int) != -1) = true := (by simp <;> omega);have htl2 : (t : Int) < (la : Int) := (by omega);have ht0 : (0 : Int) <= (t : Int) := (by omega);obtain ⟨e, he⟩ : ∃ e, (n != y) = e := ⟨_, rfl⟩;have hres2 : (if n = y then (0 : Int) else 40) = if e = true then 40 else 0 := by
      rw [<- he];by_cases h : n = y <;> simp [h]
     rw [hres2];clear hres2 htl hy;cases e
     all_goals
      go_enter Tryz.func32, Tryz.ntmps32
      go_wp2_with fail
      rw [<- HW2.out];refine wp_region_quiet_below (by kernel_rfl) (by kernel_rfl) ?_;repeat (first | go_big_quiet_step ((with_reducible exact rC.out _ _)) | quiet_step ((with_reducible exact rC.out _ _)))
      refine wpQuiet_nil ?_;intro G hG;have hbG : Below w.heap.size w G := (by obtain ⟨p, rfl⟩ := hG; exact HB.out _ _);have g5 : G.cell? ⟨w.heap.size + 1, 5, none⟩ = some (.int .i64 (t : Nat)) := (by obtain ⟨p, rfl⟩ := hG; exact HF5.out _ _);have g6 : G.cell? ⟨ba, oa + k, none⟩ = some (.int .i64 n) := (by obtain ⟨p, rfl⟩ := hG; exact HA0.out _ _);have g7 : G.cell? ⟨ba, oa + t, none⟩ = some (.int .i64 y) := (by obtain ⟨p, rfl⟩ := hG; exact HCY.out _ _);have HBG := hid hbG;clear hG K1 K2 K3 K4 hbG;go_wp2_with fail
      go_quiet (fail)
      go_wp2
      go_ret
      exact ⟨rfl, HBG.out.trans (z38 _ _ _)⟩
 ·have hc := hG.num hk1;have hlen : o.pieces.length <= 1000 := by have := hG.pieces.2.1; omega
  have rN := hid (fun d os => Calls.regrown_of (w := W2) (d := d) (os := os) (zcw (grow (redrawn W2 d) os) o _ (zx.kept hE' (HB.out d os)) hc hlen n hnb));have hres : argR m o av n = if decide ((z1w o.kind (fwR 0 o.pieces) o.scale n).2 = 0) = true then 0 else 24 := by unfold argR; rw [if_neg hk1]; simp
  rw [hres];obtain ⟨r, hr⟩ : ∃ r, decide ((z1w o.kind (fwR 0 o.pieces) o.scale n).2 = 0) = r := ⟨_, rfl⟩;rw [hr] at rN ⊢;obtain ⟨kd, hkd⟩ : ∃ z : Nat, o.kind = z := ⟨_, rfl⟩;obtain ⟨la, hla⟩ : ∃ z, av.length = z := ⟨_, rfl⟩;obtain ⟨td, htd⟩ : ∃ z, o.tied = z := ⟨_, rfl⟩;obtain ⟨nm, hnm⟩ : ∃ z, o.name = z := ⟨_, rfl⟩;obtain ⟨sc, hsc⟩ : ∃ z, o.scale = z := ⟨_, rfl⟩;obtain ⟨bk, hbk⟩ : ∃ z, o.bank = z := ⟨_, rfl⟩;rw [hla] at hkn ⊢;rw [hkd] at hk1 f1;rw [htd] at f5;rw [hnm] at f0;rw [hsc] at f3;rw [hbk] at f2;rw [hkd, htd, hnm, hsc, hbk] at rN HW2 ⊢;have gk : (((kd : Nat) : Int) != 1) = true := by simp; omega
  have K0 := cell_regrown a0;have L0 := cell_regrown f0;have L1 := cell_regrown f1;have L2 := cell_regrown f2;have L3 := cell_regrown f3;have L4 := cell_regrown f4;have L5 := cell_regrown f5;clear hallA hcellA hR hB hU hI hcs hE' hA' hG hres hr hn hk hkd hla htd hnm hsc hbk hk1 h1 h2 h3 hb1 hm2 ho2 hca hb2 hs2 hba hW2 hc hlen hnb f0 f1 f2 f3 f4 f5 a0 m4;cases r
  all_goals
   go_enter Tryz.func32, Tryz.ntmps32
   go_wp2_with fail
   rw [<- HW2.out];refine wp_region_quiet_below (by kernel_rfl) (by kernel_rfl) ?_;repeat (first | go_big_quiet_step ((with_reducible exact rN.out _ _)) | quiet_step ((with_reducible exact rN.out _ _)))
   refine wpQuiet_nil ?_;intro G hG;have hbG : Below w.heap.size w G := by obtain ⟨p, rfl⟩ := hG; exact HB.out _ _
   clear hG;go_wp2
   go_ret
   exact ⟨rfl, hbG⟩
end Go.Proofs.YtofhpahihneipaaGreatDoor
namespace Go.Proofs.YtofhpahihneipaaGreatDoor
open Go.RowKit Go.Instr
set_option maxRecDepth 100000
theorem zmx (m:Mach) (av:List Int) {L:List MOper} {k:Nat} {o:MOper} {n:Int} (ho:L[k]? =some o) (hn:av[k]? =some n):
 z3o m av (L.drop k) (av.drop k)=if argR m o av n=0 then z3o m av (L.drop (k+1)) (av.drop (k+1)) else argR m o av n:=by
 have hl:k<L.length:=(List.getElem?_eq_some_iff.1 ho).1;have hl2:k<av.length:=(List.getElem?_eq_some_iff.1 hn).1;have d1:L.drop k=o::L.drop (k+1):=by rw [List.drop_eq_getElem_cons hl];congr 1;exact Option.some.inj ((List.getElem?_eq_getElem _).symm.trans ho)
 have d2:av.drop k=n::av.drop (k+1):=by rw [List.drop_eq_getElem_cons hl2];congr 1;exact Option.some.inj ((List.getElem?_eq_getElem _).symm.trans hn)
 rw [d1,d2];rfl
theorem z9q (w : World) (v : Value) (m : Mach) (hm : z1j w v m) (hT : zm w) (hef : ∀ x ∈ m.instrs, ∀ f ∈ x.effs, z4n f) (z : Int) (hz : -9223372036854775808 <= z /\ z <= 9223372036854775807) (sa : Value) (av : List Int) (hA : zd 1 intE w sa av) :
 Calls prog 13 #[v, .agg #[.int .i64 z, sa]] w fun e w' => e = .returned (.int .i64 (z32 m z av)) /\ Below w.heap.size w w' := by
 have hm' := hm;obtain ⟨cs0, rfl, sr, sb, su, si, hcs, h1, h2, h3, hR, hB, hU, hI⟩ := hm;obtain rfl : cs0 = #[.string m.name, .int .i64 m.word, .int .i64 m.address, sr, sb, su, si] := by cases cs0; simp_all
 obtain ⟨Ai, ci, rfl, _⟩ := id hI;obtain ⟨Aa, ca, rfl, _⟩ := id hA;have HI := hid hI;have HA := hid hA;obtain ⟨n, hn⟩ : ∃ z, m.instrs.length = z := ⟨_, rfl⟩;obtain ⟨la, hla⟩ : ∃ z, av.length = z := ⟨_, rfl⟩;rw [hn] at hm' HI ⊢;rw [hla] at HA ⊢;obtain ⟨W2, hW2⟩ : ∃ W2, W2 = (w.alloc (.cells #[.string m.name, .int .i64 m.word, .int .i64 m.address, sr, sb, su, .slice Ai n ci] 27)).alloc (.cells #[.int .i64 z, .slice Aa la ca] 30) := ⟨_, rfl⟩;have hb1 : Below w.heap.size w (w.alloc (.cells #[.string m.name, .int .i64 m.word, .int .i64 m.address, sr, sb, su, .slice Ai n ci] 27)) := (Below.refl _ _).alloc (Nat.le_refl _) _;have hb2 : Below w.heap.size w W2 := by rw [hW2]; exact hb1.alloc (by simp) _
 have hs2 : W2.heap.size = w.heap.size + 2 := by rw [hW2]; simp
 have hm2 : W2.heap[w.heap.size]? = some (.cells #[.string m.name, .int .i64 m.word, .int .i64 m.address, sr, sb, su, .slice Ai n ci] 27) := by rw [hW2];exact (((Below.refl _ _).alloc (Nat.le_refl _) _).block _ (by simp)).trans (heap_alloc_new _ _)
 have ho2 : W2.heap[w.heap.size + 1]? = some (.cells #[.int .i64 z, .slice Aa la ca] 30) := by rw [hW2];have := heap_alloc_new (w.alloc (.cells #[.string m.name, .int .i64 m.word, .int .i64 m.address, sr, sb, su, .slice Ai n ci] 27)) (.cells #[.int .i64 z, .slice Aa la ca] 30);simpa using this
 have HGR := hid (show ∀ X, Below W2.heap.size W2 X -> Below w.heap.size w X from fun X hX => hb2.trans (hX.mono hb2.size));have HQ := hid (show ∀ X, Below W2.heap.size W2 X -> X.cell? ⟨w.heap.size, 0, none⟩ = some (.string m.name) /\ X.cell? ⟨w.heap.size, 1, none⟩ = some (.int .i64 m.word) /\ X.cell? ⟨w.heap.size, 2, none⟩ = some (.int .i64 m.address) /\ X.cell? ⟨w.heap.size, 3, none⟩ = some sr /\ X.cell? ⟨w.heap.size, 4, none⟩ = some sb /\ X.cell? ⟨w.heap.size, 5, none⟩ = some su /\ X.cell? ⟨w.heap.size, 6, none⟩ = some (.slice Ai n ci) /\ X.cell? ⟨w.heap.size + 1, 0, none⟩ = some (.int .i64 z) /\ X.cell? ⟨w.heap.size + 1, 1, none⟩ = some (.slice Aa la ca) from fun X hX => by have e1 := (hX.block _ (by omega)).trans hm2;have e2 := (hX.block _ (by omega)).trans ho2;exact ⟨zb e1 rfl, zb e1 rfl, zb e1 rfl, zb e1 rfl, zb e1 rfl, zb e1 rfl, zb e1 rfl, zb e2 rfl, zb e2 rfl⟩)
 obtain ⟨ce, hce⟩ : ∃ z, chkR m = z := ⟨_, rfl⟩;have HCK := hid ((z8b W2 (.agg #[.string m.name, .int .i64 m.word, .int .i64 m.address, sr, sb, su, .slice Ai n ci]) m (hm'.kept hb2) (hT.below hb2) hef).mono (R' := fun e w' => e = .returned (.int .i64 ce) /\ Below W2.heap.size W2 w') fun e w' ⟨h1, h2⟩ => ⟨by rw [h1, hce], h2⟩);rw [hW2] at HCK;have HW2 := hid hW2;have HMV := hid (show ∀ X, Below W2.heap.size W2 X -> z1j X (.agg #[.string m.name, .int .i64 m.word, .int .i64 m.address, sr, sb, su, .slice Ai n ci]) m from fun X hX => hm'.kept (HGR.out X hX));obtain ⟨r, hr⟩ : ∃ r, z32 m z av = r := ⟨_, rfl⟩;rw [hr];have HR := hid hr;have HCE := hid hce;have HN := hid hn;have HLA := hid hla;have HREF := hid (Below.refl W2.heap.size W2);by_cases hk : ce = 0
 ·subst hk;have hr2 : r = (match (if 0 <= z then m.instrs[z.toNat]? else none) with | some i => if la = i.opers.length then z3o m av i.opers av else 2 | none => 6) := by
   rw [<- hr]; unfold z32; rw [if_pos hce, hla]; try rfl
  have HX := hid (fun W => zjs z Ai n ci W);by_cases hin : 0 <= z /\ z < (n : Int)
  ·obtain ⟨q, rfl⟩ : ∃ q : Nat, z = q := ⟨z.toNat, by omega⟩;rw [decide_eq_true hin] at HX;obtain ⟨x, hx⟩ : ∃ x, m.instrs[q]? = some x := ⟨_, List.getElem?_eq_getElem (by omega)⟩;rw [if_pos hin.1, Int.toNat_natCast, hx] at hr2;replace hr2 : r = if la = x.opers.length then z3o m av x.opers av else 2 := hr2
   have hxm := List.mem_of_getElem? hx;have HGOOD := hid (fun (k : Nat) o (ho : x.opers[k]? = some o) => z2b hce hxm ho);obtain ⟨Ai', ci', e1, _, _, _, hallI⟩ := HI.out;obtain ⟨bi, oi, csi, e2, hbi, _, hcelli, hEi⟩ := hallI q x hx;obtain ⟨so, se, rfl, _, _, _, hO, _⟩ := hEi;obtain ⟨rfl, rfl⟩ : Ai = Ai' /\ ci = ci' := by cases e1; exact ⟨rfl, rfl⟩
   clear e1;subst e2;obtain ⟨Ao, co, rfl, hlo, _⟩ := id hO;have HO := hid hO;obtain ⟨lo, hlo2⟩ : ∃ z, x.opers.length = z := ⟨_, rfl⟩;rw [hlo2] at HO hr2;have HXC := hid (show ∀ X, Below W2.heap.size W2 X -> X.cell? ⟨bi, oi + q * 9 + 3, none⟩ = some (.slice Ao lo co) from fun X hX => ((HGR.out X hX).cell (p := ⟨bi, oi + q * 9 + 3, none⟩) hbi).trans (by rw [<- hlo2]; exact hcelli 3 _ rfl));have hqn : (q : Int) < (n : Int) := hin.2;have hq0 : (0 : Int) <= (q : Int) := hin.1;have HLO := hid hlo2;by_cases hll : la = lo
   ·subst hll;rw [if_pos rfl] at hr2;have HR2 := hid hr2;have hg : ((la : Int) != (la : Int)) = false := (by simp);have hl4 : la <= 4 := (by rw [<- hlo2]; exact (z3d hce hxm).2.1);clear hb1 hb2 hs2 hm2 ho2 hW2 hcs h1 h2 h3 hR hB hU hI hA hT hef hm' hn hla hr hce hr2 hin hx hxm hallI hcelli hbi hO hlo hlo2;go_enter Tryz.func13, Tryz.ntmps13
    go_wp2_with (first
     | (go_at_call 30; (with_reducible refine HCK.out.mono ?_); rintro e w3 ⟨rfl, hb3⟩; rw [<- HW2.out] at hb3; obtain ⟨c0, c1, c2, c3, c4, c5, c6, c7, c8⟩ := HQ.out _ hb3; have c9 := HXC.out _ hb3)
     | (go_at_call 31; (with_reducible refine (HX.out _).mono ?_); rintro e w4 ⟨rfl, rfl⟩))
    have HB3 := hid hb3;clear c0 c1 c2 c3 c4 c5 c6 c7 c8 c9 hb3;go_loopw [36] (fun vi wr => ∃ i : Nat, vi = .int .i64 i /\ i <= la /\ Hid (Below W2.heap.size W2 wr /\ z3o m av (x.opers.drop i) (av.drop i) = r)) (fun vi _ => la - (intOf vi).toNat)
    case atStart => exact ⟨0, rfl, Nat.zero_le _, hid ⟨HB3.out, by rw [List.drop_zero, List.drop_zero]; exact HR2.out.symm⟩⟩
    case round =>
     obtain ⟨i, rfl, hi, HJ⟩ := hrel;obtain ⟨hbx, hj⟩ := HJ.out;by_cases hlt : i < la
     ·obtain ⟨o, ho⟩ : ∃ p, x.opers[i]? = some p := ⟨_, List.getElem?_eq_getElem (by rw [HLO.out]; exact hlt)⟩;obtain ⟨y, hy⟩ : ∃ p, av[i]? = some p := ⟨_, List.getElem?_eq_getElem (by rw [HLA.out]; exact hlt)⟩;rw [zmx m av ho hy] at hj;have hbw := HGR.out _ hbx;have hOr := HO.out.kept (fun cs x hx => zx.kept hx hbw) hbw;obtain ⟨A', c', e1, _, _, _, hall⟩ := hOr;obtain ⟨b, o1, cs, e2, hb, hcl, hcell, hE⟩ := hall i o ho;obtain ⟨rfl, rfl⟩ : Ao = A' /\ co = c' := by cases e1; exact ⟨rfl, rfl⟩
      clear e1;subst e2;have hE' := hE;obtain ⟨sv, rfl, _, _, _, _, hp, _⟩ := hE;obtain ⟨Ap, cp, rfl, _⟩ := hp;obtain ⟨np, hnp⟩ : ∃ z, o.pieces.length = z := ⟨_, rfl⟩;obtain ⟨nm, hnm⟩ : ∃ z, o.name = z := ⟨_, rfl⟩;obtain ⟨kd, hkd⟩ : ∃ z : Nat, o.kind = z := ⟨_, rfl⟩;obtain ⟨bk, hbk⟩ : ∃ z, o.bank = z := ⟨_, rfl⟩;obtain ⟨sc, hsc⟩ : ∃ z, o.scale = z := ⟨_, rfl⟩;obtain ⟨td, htd⟩ : ∃ z, o.tied = z := ⟨_, rfl⟩;have p0 : wr.cell? ⟨b, o1 + i * 6, none⟩ = some (.string nm) := (by rw [<- hnm]; simpa using hcell 0 _ rfl);have p1 : wr.cell? ⟨b, o1 + i * 6 + 1, none⟩ = some (.int .u8 (kd : Nat)) := (by rw [<- hkd]; exact hcell 1 _ rfl);have p2 : wr.cell? ⟨b, o1 + i * 6 + 2, none⟩ = some (.int .i64 bk) := (by rw [<- hbk]; exact hcell 2 _ rfl);have p3 : wr.cell? ⟨b, o1 + i * 6 + 3, none⟩ = some (.int .i64 sc) := (by rw [<- hsc]; exact hcell 3 _ rfl);have p4 : wr.cell? ⟨b, o1 + i * 6 + 4, none⟩ = some (.slice Ap np cp) := (by rw [<- hnp]; exact hcell 4 _ rfl);have p5 : wr.cell? ⟨b, o1 + i * 6 + 5, none⟩ = some (.int .i64 td) := (by rw [<- htd]; exact hcell 5 _ rfl);obtain ⟨W3, hW3⟩ : ∃ W3, W3 = wr.alloc (.cells #[.string nm, .int .u8 (kd : Nat), .int .i64 bk, .int .i64 sc, .slice Ap np cp, .int .i64 td] 63) := ⟨_, rfl⟩;have hb3 : Below wr.heap.size wr W3 := (by rw [hW3]; exact (Below.refl _ _).alloc (Nat.le_refl _) _);have hb23 : Below W2.heap.size W2 W3 := hbx.trans (hb3.mono hbx.size);have hbw3 := HGR.out _ hb23;have HCA := hid (show Calls prog 32 #[.agg #[.string m.name, .int .i64 m.word, .int .i64 m.address, sr, sb, su, .slice (some ⟨bi, oi, none⟩) n ci], .agg #[.string nm, .int .u8 (kd : Nat), .int .i64 bk, .int .i64 sc, .slice Ap np cp, .int .i64 td], .slice Aa la ca, .int .i64 i] W3 fun e w' => e = .returned (.int .i64 (argR m o av y)) /\ Below W2.heap.size W2 w' from by have h := ze1 W3 _ m (HMV.out W3 hb23) x i o (HGOOD.out i o ho) _ (zx.kept hE' hb3) _ av (HA.out.kept (fun cs x hx => intE.kept hx hbw3) hbw3) (by rw [HLA.out]; exact hlt);rw [hnm, hkd, hbk, hsc, htd, hnp, hy, Option.getD_some] at h;exact h.mono fun e w' ⟨h1, h2⟩ => ⟨h1, hb23.trans (h2.mono hb23.size)⟩)
      obtain ⟨c0, c1, c2, c3, c4, c5, c6, c7, c8⟩ := HQ.out _ hb23;rw [hW3] at c0 c1 c2 c3 c4 c5 c6 c7 c8 HCA;obtain ⟨rr, hrr⟩ : ∃ z, argR m o av y = z := ⟨_, rfl⟩;rw [hrr] at HCA hj;have hin : (i : Int) < (la : Int) := (by omega);have hi0 : (0 : Int) <= (i : Int) := (by omega);have HLT := hid hlt;have HJ2 := hid hj;clear hj HJ hall hcell hcl hE' hb hb3 hb23 hbw3 hbw hW3 ho hy hnm hkd hbk hsc htd hrr hbx hnp;by_cases hrz : rr = 0
      ·subst hrz;go_wp2_with (go_at_call 32; (with_reducible refine HCA.out.mono ?_); rintro e w5 ⟨rfl, hb5⟩)
       go_roundw
       case rel => exact ⟨i + 1, by first | rfl | go_num | (congr 1), by have := HLT.out; omega, hid ⟨hb5, by simpa using HJ2.out⟩⟩
       case measure => simp only [intOf]; have := HLT.out; omega
      ·have g : (rr != 0) = true := (by simp [hrz]);have hrr2 : rr = r := (by have := HJ2.out; rw [if_neg hrz] at this; exact this);have HRR := hid hrr2;clear HJ2;clear hrr2 hrz;go_wp2_with (go_at_call 32; (with_reducible refine HCA.out.mono ?_); rintro e w5 ⟨rfl, hb5⟩)
       go_ret
       exact ⟨by rw [HRR.out]; rfl, HGR.out _ hb5⟩
     ·obtain rfl : i = la := by omega
      have hr0 : r = 0 := by rw [<- hj, List.drop_eq_nil_of_le (by rw [HLO.out]; exact Nat.le_refl _)]; rfl
      have HR0 := hid hr0;have HBX := hid (HGR.out _ hbx);clear hr0 hj hbx HJ;go_wp2
      go_ret
      exact ⟨by rw [HR0.out]; rfl, HBX.out⟩
   ·rw [if_neg hll] at hr2;have HR2 := hid hr2;have hg : ((la : Int) != (lo : Int)) = true := (by simp; omega);clear hb1 hb2 hs2 hm2 ho2 hW2 hcs h1 h2 h3 hR hB hU hI hA hT hef hm' hn hla hr hce hr2 hin hx hxm hallI hcelli hbi hO hlo hlo2 hll;go_enter Tryz.func13, Tryz.ntmps13
    go_wp2_with (first
     | (go_at_call 30; (with_reducible refine HCK.out.mono ?_); rintro e w3 ⟨rfl, hb3⟩; rw [<- HW2.out] at hb3; obtain ⟨c0, c1, c2, c3, c4, c5, c6, c7, c8⟩ := HQ.out _ hb3; have c9 := HXC.out _ hb3)
     | (go_at_call 31; (with_reducible refine (HX.out _).mono ?_); rintro e w4 ⟨rfl, rfl⟩))
    go_ret
    exact ⟨by rw [HR2.out]; rfl, HGR.out _ hb3⟩
  ·rw [decide_eq_false hin] at HX;have hr3 : r = 6 := by
    rw [hr2];by_cases h0 : 0 <= z
    ·rw [if_pos h0, List.getElem?_eq_none (by omega)]
    ·rw [if_neg h0]
   have HR3 := hid hr3;clear hb1 hb2 hs2 hm2 ho2 hW2 hcs h1 h2 h3 hR hB hU hI hA hT hef hm' hn hla hr hce hr2 hin hr3;go_enter Tryz.func13, Tryz.ntmps13
   go_wp2_with (first
    | (go_at_call 30; (with_reducible refine HCK.out.mono ?_); rintro e w3 ⟨rfl, hb3⟩; rw [<- HW2.out] at hb3; obtain ⟨c0, c1, c2, c3, c4, c5, c6, c7, c8⟩ := HQ.out _ hb3)
    | (go_at_call 31; (with_reducible refine (HX.out _).mono ?_); rintro e w4 ⟨rfl, rfl⟩))
   go_ret
   exact ⟨by rw [HR3.out]; rfl, HGR.out _ hb3⟩
 ·have hr2 : r = ce := by rw [<- hr]; unfold z32; rw [if_neg (by rw [hce]; exact hk), hce]
  have HR2 := hid hr2;have g : (ce != 0) = true := by simp [hk]
  clear hb1 hb2 hs2 hm2 ho2 hW2 hcs h1 h2 h3 hR hB hU hI hA hT hef hm' hn hla hr hce hr2 hk;go_enter Tryz.func13, Tryz.ntmps13
  go_wp2_with (go_at_call 30; (with_reducible refine HCK.out.mono ?_); rintro e w3 ⟨rfl, hb3⟩; rw [<- HW2.out] at hb3)
  go_ret
  exact ⟨by rw [HR2.out]; rfl, HGR.out _ hb3⟩
theorem z8r (m:Mach) (av:List Int):∀ (L:List MOper) (B:List Int),B.length=L.length->(z3o m av L B=0↔∀ (k:Nat) o n,L[k]? =some o->B[k]? =some n->argR m o av n=0):=by
 intro L
 induction L with
 | nil=>intro B hB;simp [z3o]
 | cons o l ih=>
   intro B hB
   cases B with
   | nil=>simp at hB
   | cons b B=>
     rw [z3o];by_cases h:argR m o av b=0
     ·rw [if_pos h,ih B (by simpa using hB)];constructor
      ·intro q k o' n' h1 h2
       cases k with
       | zero=>simp at h1 h2;subst h1;subst h2;exact h
       | succ k=>exact q k o' n' (by simpa using h1) (by simpa using h2)
      ·intro q k o' n' h1 h2;exact q (k+1) o' n' (by simpa using h1) (by simpa using h2)
     ·rw [if_neg h];exact ⟨fun q=>absurd q h,fun q=>q 0 o b rfl rfl⟩
theorem z8e {m:Mach} {z:Int} {av:List Int} (h:z32 m z av=0):chkR m=0/\∃ (q:Nat) (i:MIns),z=q/\m.instrs[q]? =some i/\Fits m i av:=by
 unfold z32 at h;by_cases hc:chkR m=0
 ·refine ⟨hc,?_⟩;rw [if_pos hc] at h;by_cases h0:0<=z
  ·rw [if_pos h0] at h
   cases hi:m.instrs[z.toNat]? with
   | none=>rw [hi] at h;cases h
   | some i=>
     rw [hi] at h;simp only at h;by_cases hl:av.length=i.opers.length
     ·rw [if_pos hl] at h;exact ⟨z.toNat,i,by omega,hi,hl,(z8r m av _ _ hl).1 h⟩
     ·rw [if_neg hl] at h;cases h
  ·rw [if_neg h0] at h;cases h
 ·rw [if_neg hc] at h;exact absurd h hc
theorem zns {m:Mach} {q:Nat} {i:MIns} {av:List Int} (hc:chkR m=0) (hi:m.instrs[q]? =some i) (hf:Fits m i av):z32 m q av=0:=by unfold z32;rw [if_pos hc,if_pos (by omega),Int.toNat_natCast,hi];simp only;rw [if_pos hf.1];exact (z8r m av _ _ hf.1).2 hf.2
def encR (m:Mach) (z:Int) (av:List Int):Nat:=if z32 m z av=0 then (match m.instrs[z.toNat]? with|some i=>z22 m i.mtch i.opers av|none=>0) else 0
theorem z3k (w : World) (v : Value) (m : Mach) (hm : z1j w v m) (hT : zm w) (hef : ∀ x ∈ m.instrs, ∀ f ∈ x.effs, z4n f) (z : Int) (hz : -9223372036854775808 <= z /\ z <= 9223372036854775807) (sa : Value) (av : List Int) (hA : zd 1 intE w sa av) :
 Calls prog 8 #[v, .agg #[.int .i64 z, sa]] w fun e w' => e = .returned (.tuple #[.int .u64 (encR m z av : Nat), .int .i64 (z32 m z av)]) /\ Below w.heap.size w w' := by
 have hm' := hm;obtain ⟨cs0, rfl, sr, sb, su, si, hcs, h1, h2, h3, hR, hB, hU, hI⟩ := hm;obtain rfl : cs0 = #[.string m.name, .int .i64 m.word, .int .i64 m.address, sr, sb, su, si] := by cases cs0; simp_all
 obtain ⟨Aa, ca, rfl, _⟩ := id hA;obtain ⟨la, hla⟩ : ∃ z, av.length = z := ⟨_, rfl⟩;rw [hla] at hA ⊢;obtain ⟨W2, hW2⟩ : ∃ W2, W2 = (w.alloc (.cells #[.string m.name, .int .i64 m.word, .int .i64 m.address, sr, sb, su, si] 27)).alloc (.cells #[.int .i64 z, .slice Aa la ca] 30) := ⟨_, rfl⟩;have hb1 : Below w.heap.size w (w.alloc (.cells #[.string m.name, .int .i64 m.word, .int .i64 m.address, sr, sb, su, si] 27)) := (Below.refl _ _).alloc (Nat.le_refl _) _;have hb2 : Below w.heap.size w W2 := by rw [hW2]; exact hb1.alloc (by simp) _
 have hs2 : W2.heap.size = w.heap.size + 2 := by rw [hW2]; simp
 have hm2 : W2.heap[w.heap.size]? = some (.cells #[.string m.name, .int .i64 m.word, .int .i64 m.address, sr, sb, su, si] 27) := by rw [hW2];exact (((Below.refl _ _).alloc (Nat.le_refl _) _).block _ (by simp)).trans (heap_alloc_new _ _)
 have ho2 : W2.heap[w.heap.size + 1]? = some (.cells #[.int .i64 z, .slice Aa la ca] 30) := by rw [hW2];have := heap_alloc_new (w.alloc (.cells #[.string m.name, .int .i64 m.word, .int .i64 m.address, sr, sb, su, si] 27)) (.cells #[.int .i64 z, .slice Aa la ca] 30);simpa using this
 have HGR := hid (show ∀ X, Below W2.heap.size W2 X -> Below w.heap.size w X from fun X hX => hb2.trans (hX.mono hb2.size));have HQ := hid (show ∀ X, Below W2.heap.size W2 X -> X.cell? ⟨w.heap.size, 0, none⟩ = some (.string m.name) /\ X.cell? ⟨w.heap.size, 1, none⟩ = some (.int .i64 m.word) /\ X.cell? ⟨w.heap.size, 2, none⟩ = some (.int .i64 m.address) /\ X.cell? ⟨w.heap.size, 3, none⟩ = some sr /\ X.cell? ⟨w.heap.size, 4, none⟩ = some sb /\ X.cell? ⟨w.heap.size, 5, none⟩ = some su /\ X.cell? ⟨w.heap.size, 6, none⟩ = some si /\ X.cell? ⟨w.heap.size + 1, 0, none⟩ = some (.int .i64 z) /\ X.cell? ⟨w.heap.size + 1, 1, none⟩ = some (.slice Aa la ca) from fun X hX => by have e1 := (hX.block _ (by omega)).trans hm2;have e2 := (hX.block _ (by omega)).trans ho2;exact ⟨zb e1 rfl, zb e1 rfl, zb e1 rfl, zb e1 rfl, zb e1 rfl, zb e1 rfl, zb e1 rfl, zb e2 rfl, zb e2 rfl⟩)
 obtain ⟨ce, hce⟩ : ∃ z', z32 m z av = z' := ⟨_, rfl⟩;have HCK := hid ((z9q W2 _ m (hm'.kept hb2) (hT.below hb2) hef z hz (.slice Aa la ca) av (hA.kept (fun cs x hx => intE.kept hx hb2) hb2)).mono (R' := fun e w' => e = .returned (.int .i64 ce) /\ Below W2.heap.size W2 w') fun e w' ⟨h1, h2⟩ => ⟨by rw [h1, hce], h2⟩);rw [hW2] at HCK;have HW2 := hid hW2;rw [hce];by_cases hk : ce = 0
 ·subst hk;obtain ⟨hc0, q, i, rfl, hi, hf⟩ := z8e hce;have her : encR m q av = z22 m i.mtch i.opers av := by unfold encR; rw [if_pos hce, Int.toNat_natCast, hi]
  rw [her];obtain ⟨r, hr⟩ : ∃ r, z22 m i.mtch i.opers av = r := ⟨_, rfl⟩;rw [hr];have HWO := hid (show ∀ X, Below W2.heap.size W2 X -> Calls prog 20 #[.agg #[.string m.name, .int .i64 m.word, .int .i64 m.address, sr, sb, su, si], .agg #[.int .i64 (q : Nat), .slice Aa la ca]] X fun e w' => e = .returned (.int .u64 (r : Nat)) /\ Below w.heap.size w w' from fun X hX => by have hk := HGR.out X hX;have h := zpv X _ m (hm'.kept hk) hc0 q i hi (.slice Aa la ca) av (hA.kept (fun cs x hx => intE.kept hx hk) hk) hf;rw [hr] at h;exact h.mono fun e w' ⟨h1, h2⟩ => ⟨h1, hk.trans (h2.mono hk.size)⟩)
  clear hb1 hb2 hs2 hm2 ho2 hW2 hcs h1 h2 h3 hR hB hU hI hA hT hef hm' hla hce hc0 hi hf her hr hz;go_enter Tryz.func8, Tryz.ntmps8
  go_wp2_with (first
   | (go_at_call 13; (with_reducible refine HCK.out.mono ?_); rintro e w3 ⟨rfl, hb3⟩; rw [<- HW2.out] at hb3; obtain ⟨c0, c1, c2, c3, c4, c5, c6, c7, c8⟩ := HQ.out _ hb3)
   | (go_at_call 20; (with_reducible refine (HWO.out _ (by assumption)).mono ?_); rintro e w4 ⟨rfl, hb4⟩))
  exact bodyPost_ret (v := .tuple #[.int .u64 (r : Nat), .int .i64 0]) (by simp [results, Tryz.results8, go_sem]) rfl ⟨rfl, hb4⟩
 ·have her : encR m z av = 0 := by unfold encR; rw [if_neg (by rw [hce]; exact hk)]
  rw [her];have g : (ce != 0) = true := by simp [hk]
  clear hb1 hb2 hs2 hm2 ho2 hW2 hcs h1 h2 h3 hR hB hU hI hA hT hef hm' hla hce her hz hk;go_enter Tryz.func8, Tryz.ntmps8
  go_wp2_with (go_at_call 13; (with_reducible refine HCK.out.mono ?_); rintro e w3 ⟨rfl, hb3⟩; rw [<- HW2.out] at hb3; obtain ⟨c0, c1, c2, c3, c4, c5, c6, c7, c8⟩ := HQ.out _ hb3)
  exact bodyPost_ret (v := .tuple #[.int .u64 0, .int .i64 ce]) (by simp [results, Tryz.results8, go_sem]) rfl ⟨rfl, HGR.out _ hb3⟩
end Go.Proofs.YtofhpahihneipaaGreatDoor
