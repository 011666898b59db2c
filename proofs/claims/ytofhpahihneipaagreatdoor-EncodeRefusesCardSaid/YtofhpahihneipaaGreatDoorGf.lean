import Derived.Test.YtofhpahihneipaaGreatDoorGe
import Derived.Test.YtofhpahihneipaaGreatDoorGa
import Derived.Maps.OwnSet
import Derived.Maps.Views
set_option linter.unusedVariables false
set_option linter.unusedSimpArgs false
set_option warningAsError false
set_option maxHeartbeats 4000000
open Go.Lib (hid)
open Go.Proofs.Tryz (prog)
noncomputable section
namespace Go.Proofs.YtofhpahihneipaaGreatDoor
open Go.RowKit Go.Instr
set_option maxRecDepth 100000
theorem zd4 (s:ByteArray) (w:World):Calls prog 117 #[.string s] w fun e w'=>e=.returned (.bool (z3v s))/\Below w.heap.size w w':=by
 by_cases hm:s.size<=1000
 ·exact zm1 s w hm
 ·rw [z5x (fun h=>by have:=h.2.1;omega)];obtain ⟨L,hL⟩:∃ L,s.size=L:=⟨_,rfl⟩;have h0:24<L:=by omega
  have h1:1<=L:=by omega
  clear hm;go_enter Tryz.func117,Tryz.ntmps117
  go_wp2
  go_ret
  exact ⟨rfl,Below.refl _ _⟩
noncomputable instance decMem (s:ByteArray) (l:List ByteArray):Decidable (s∈l):=Classical.propDecidable _
def z1x (met:List ByteArray):List ByteArray->Bool
 | []=>true
 | s::l=> !(decide (s∈met))&&z3v s&&z1x (met++[s]) l
theorem zou {met l:List ByteArray} {s:ByteArray} (h:s∈met):z1x met (s::l)=false:=by simp [z1x,h]
theorem zsy {met l:List ByteArray} {s:ByteArray} (h:z3v s=false):z1x met (s::l)=false:=by simp [z1x,h]
theorem zh4 {met l:List ByteArray} {s:ByteArray} (h1:¬ s∈met) (h2:z3v s=true):z1x met (s::l)=z1x (met++[s]) l:=by simp [z1x,h1,h2]
def MetD (D:DataW Unit) (ss:List ByteArray):Prop:=Maps.IsMap D/\∀ s:ByteArray,D.atKey (.string s.data.toList) (.lit (.bool false))=.lit (.bool (decide (s∈ss)))
theorem zsv:MetD (.map []) []:=⟨⟨[],rfl⟩,fun s=>by simp;rfl⟩
theorem zsd (s:ByteArray):WideAt.IsKeyLit (.string s.data.toList):=by simp [WideAt.IsKeyLit]
theorem zzn {a b:ByteArray} (h:Lit.string a.data.toList=Lit.string b.data.toList):a=b:=by
 injection h with h;cases a;cases b
 congr
 exact Array.toList_inj.1 h
theorem zvz {D:DataW Unit} {ss:List ByteArray} (h:MetD D ss) (s:ByteArray):MetD (D.put (.string s.data.toList) (.lit (.bool true))) (ss++[s]):=⟨h.1.put _ _,fun u=>by
 by_cases hu:u=s
 ·subst hu;rw [Maps.atKey_put_same h.1 (zsd _)];simp
 ·rw [Maps.atKey_put_other (fun q=>hu (zzn q)),h.2 u];simp [hu]⟩
theorem zvu {W:World} {B n:Nat} {D:DataW Unit} {ss:List ByteArray} (h:W.ownsMap prog 9 (plainElem prog 4) B n D) (hk:MetD D ss) (s:ByteArray) (hs:s.size<=maxLen):
 (Instr.lookup 192 (.map (some B)) (.string s) false).run prog W=.ok (.bool (decide (s∈ss))) W:=by
 obtain ⟨v,ps,hrun,hv⟩:=h.lookup (Maps.string_keyed Tryz.underlying9) Tryz.underlying192 (z:=.bool false) (by kernel_rfl) (plainElem_bool Tryz.underlying4 false) (Go.WideMaps.keyOf_string_mk Tryz.underlying9 hs);rw [hk.2 s] at hv;have e:v=.bool (decide (s∈ss)):=by unfold plainElem at hv;rw [Tryz.underlying4] at hv;cases v<;>simp_all
 rw [<- e];exact hrun
theorem zbx {W W':World} {B n:Nat} {D:DataW Unit} (h:W.ownsMap prog 9 (plainElem prog 4) B n D) (hb:Below W.heap.size W W'):W'.ownsMap prog 9 (plainElem prog 4) B n D:=by have hlt:=h.lt;obtain ⟨es,clock,h1,F,hs,hD⟩:=h;exact ⟨es,clock,(hb.block B hlt).trans h1,F,hs,hD⟩
theorem zs1 {w W W':World} {B:Nat} (hB:w.heap.size<=B) (hb:Below w.heap.size w W) (hg:W.grownBy W' (some B)):Below w.heap.size w W':=
 ⟨hg.1.trans hb.1,hg.2.trans hb.2,hg.3.trans hb.3,Nat.le_trans hb.size hg.4,fun i hi=>(hg.block i (Nat.lt_of_lt_of_le hi hb.size) (by simp;omega)).trans (hb.block i hi)⟩
def zmt {α:Type} (E:World->List Value->α->Prop) (w:World) (g:Nat) (f:α->ByteArray) (L:List α):Prop:=
 ∀ (W:World),Below w.heap.size w W->∀ x,x∈L->∀ cs,E W cs x->Calls prog g #[.agg cs.toArray] W fun e w'=>e=.returned (.string (f x))/\Below W.heap.size W w'
theorem zky (w:World) (n:Nat):(Instr.makeMap 192 (some (.int .i64 n))).run prog w=.ok (.map (some w.heap.size)) (w.alloc (.map #[] 0)):=by simp [Instr.makeMap,run_underlying Tryz.underlying3,asInt,asIntOf,Result.andThen]
abbrev z66 {α:Type} (k:Nat) (E:World->List Value->α->Prop) (fn:Nat):Prop:=∀ (v:Value) (L:List α) (w:World),zd k E w v L->L.length<=1000->∀ (g:Nat),(∀ args w,(callFunc g args).run prog w=.ok (.enter g args) w)->∀ (f:α->ByteArray),(∀ x,x∈L->(f x).size<=maxLen)->zmt E w g f L->
 Calls prog fn #[v,.func (.func g) #[] #[]] w fun e w'=>e=.returned (.bool (z1x [] (L.map f)))/\Below w.heap.size w w'
theorem z5h:z66 4 regE 119/\z66 2 z52 126/\z66 2 z1k 123/\z66 6 zx 143/\z66 9 insE 128:=by
 refine ⟨?_,?_,?_,?_,?_⟩
 all_goals
  intro v L w hR hlen g eg f hf hp;have HR:=hid hR;have HP:=hid hp;have HF:=hid hf;obtain ⟨A,c,rfl,hn1,_,_,_⟩:=hR;obtain ⟨n,hn⟩:∃ n,L.length=n:=⟨_,rfl⟩;have HN:=hid hn;rw [hn] at hn1 hlen ⊢;obtain ⟨r,hr⟩:∃ r,z1x [] (L.map f)=r:=⟨_,rfl⟩;have HRR:=hid hr;rw [hr];clear hp hn hf hr
  first
   | go_enter Tryz.func119,Tryz.ntmps119
   | go_enter Tryz.func126,Tryz.ntmps126
   | go_enter Tryz.func123,Tryz.ntmps123
   | go_enter Tryz.func143,Tryz.ntmps143
   | go_enter Tryz.func128,Tryz.ntmps128
  have hmm:=fun W=>zky W n;go_wp2
  obtain ⟨B,hB⟩:∃ B,w.heap.size=B:=⟨_,rfl⟩;have HBB:=hid hB;have HB0:=hid ((Below.refl w.heap.size w).alloc (Nat.le_refl _) (.map #[] 0));have HM0:=hid (World.ownsMap_made (H:=Unit) w prog 9 (plainElem prog 4));rw [hB] at HM0;rw [hB];clear hmm hB;go_loopw [14] (fun v wr=>∃ i:Nat,v=.int .i64 i/\i<=n/\Hid (Below w.heap.size w wr/\r=z1x ((L.map f).take i) ((L.map f).drop i)/\∃ D,wr.ownsMap prog 9 (plainElem prog 4) B i D/\MetD D ((L.map f).take i))) (fun v _=>n-(intOf v).toNat)
  case atStart=>exact ⟨0,rfl,Nat.zero_le _,hid ⟨HB0.out,by rw [<- HRR.out];simp,_,HM0.out,by simpa using zsv⟩⟩
  case round=>
   obtain ⟨i,rfl,hi,HI⟩:=hrel;by_cases hlt:i<n
   ·obtain ⟨x,hx⟩:∃ x,L[i]? =some x:=⟨_,List.getElem?_eq_getElem (by rw [HN.out];exact hlt)⟩;obtain ⟨A',c',e1,_,_,_,hall⟩:=HR.out.kept (fun cs x hx=>by first|exact regE.kept hx HI.out.1|exact z52.kept hx HI.out.1|exact z1k.kept hx HI.out.1|exact zx.kept hx HI.out.1|exact insE.kept hx HI.out.1) HI.out.1;obtain ⟨b,o,cs,e2,hb,hcl,hcell,hE⟩:=hall i x hx;obtain ⟨rfl,rfl⟩:A=A'/\c=c':=by cases e1;exact ⟨rfl,rfl⟩
    subst e2;obtain ⟨b1,b2,D,b3,b4⟩:=HI.out;have HX:=hid hx;have HLT:=hid hlt;have hxm:=List.mem_of_getElem? hx;have hdrop:(L.map f).drop i=f x::(L.map f).drop (i+1):=by
     rw [List.drop_eq_getElem_cons (by rw [List.length_map,HN.out];exact hlt)]
     congr 1
     rw [List.getElem_map];rw [List.getElem?_eq_getElem (by rw [HN.out];exact hlt)] at hx;rw [Option.some.inj hx]
    have htake:(L.map f).take (i+1)=(L.map f).take i++[f x]:=by rw [List.take_add_one,List.getElem?_map,hx];rfl
    first
     | (have HE:=hE
        obtain ⟨rfl,_⟩:=hE;have c0:wr.cell? ⟨b,o+i*4,none⟩=some (.string x.name):=hcell 0 _ rfl;have c1:wr.cell? ⟨b,o+i*4+1,none⟩=some (.int .i64 x.width):=hcell 1 _ rfl;have c2:wr.cell? ⟨b,o+i*4+2,none⟩=some (.int .i64 x.par):=hcell 2 _ rfl;have c3:wr.cell? ⟨b,o+i*4+3,none⟩=some (.int .i64 x.low):=hcell 3 _ rfl;have HB1:=hid (b1.alloc b1.size (.cells #[.string x.name,.int .i64 x.width,.int .i64 x.par,.int .i64 x.low] 120));have hbw:Below wr.heap.size wr (wr.alloc (.cells #[.string x.name,.int .i64 x.width,.int .i64 x.par,.int .i64 x.low] 120)):=(Below.refl _ _).alloc (Nat.le_refl _) _
        have HCL:=hid (show Calls prog g #[.agg #[.string x.name,.int .i64 x.width,.int .i64 x.par,.int .i64 x.low]] (wr.alloc (.cells #[.string x.name,.int .i64 x.width,.int .i64 x.par,.int .i64 x.low] 120)) fun e w'=>e=.returned (.string (f x))/\Below w.heap.size w w'/\Below wr.heap.size wr w' from (HP.out _ HB1.out x hxm _ (regE.kept HE hbw)).mono fun e w' ⟨h1,h2⟩=>⟨h1,HB1.out.trans (h2.mono HB1.out.size),hbw.trans (h2.mono hbw.size)⟩))
     | (have HE:=hE
        obtain ⟨rfl,_⟩:=hE;have c0:wr.cell? ⟨b,o+i*2,none⟩=some (.string x.name):=hcell 0 _ rfl;have c1:wr.cell? ⟨b,o+i*2+1,none⟩=some (.int .i64 x.count):=hcell 1 _ rfl;have HB1:=hid (b1.alloc b1.size (.cells #[.string x.name,.int .i64 x.count] 117));have hbw:Below wr.heap.size wr (wr.alloc (.cells #[.string x.name,.int .i64 x.count] 117)):=(Below.refl _ _).alloc (Nat.le_refl _) _
        have HCL:=hid (show Calls prog g #[.agg #[.string x.name,.int .i64 x.count]] (wr.alloc (.cells #[.string x.name,.int .i64 x.count] 117)) fun e w'=>e=.returned (.string (f x))/\Below w.heap.size w w'/\Below wr.heap.size wr w' from (HP.out _ HB1.out x hxm _ (z52.kept HE hbw)).mono fun e w' ⟨h1,h2⟩=>⟨h1,HB1.out.trans (h2.mono HB1.out.size),hbw.trans (h2.mono hbw.size)⟩))
     | (have HE:=hE
        obtain ⟨_,rfl,_,Ab,cb,rfl,_⟩:=hE;obtain ⟨nb,hnb⟩:∃ nb,x.regs.length=nb:=⟨_,rfl⟩;rw [hnb] at HE hcell;have c0:wr.cell? ⟨b,o+i*2,none⟩=some (.string x.name):=hcell 0 _ rfl;have c1:wr.cell? ⟨b,o+i*2+1,none⟩=some (.slice Ab nb cb):=hcell 1 _ rfl;have HB1:=hid (b1.alloc b1.size (.cells #[.string x.name,.slice Ab nb cb] 56));have hbw:Below wr.heap.size wr (wr.alloc (.cells #[.string x.name,.slice Ab nb cb] 56)):=(Below.refl _ _).alloc (Nat.le_refl _) _
        have HCL:=hid (show Calls prog g #[.agg #[.string x.name,.slice Ab nb cb]] (wr.alloc (.cells #[.string x.name,.slice Ab nb cb] 56)) fun e w'=>e=.returned (.string (f x))/\Below w.heap.size w w'/\Below wr.heap.size wr w' from (HP.out _ HB1.out x hxm _ (z1k.kept HE hbw)).mono fun e w' ⟨h1,h2⟩=>⟨h1,HB1.out.trans (h2.mono HB1.out.size),hbw.trans (h2.mono hbw.size)⟩))
     | (have HE:=hE
        obtain ⟨_,rfl,_,_,_,_,⟨Ab,cb,rfl,_⟩,_⟩:=hE;obtain ⟨nb,hnb⟩:∃ nb,x.pieces.length=nb:=⟨_,rfl⟩;rw [hnb] at HE hcell;have c0:wr.cell? ⟨b,o+i*6,none⟩=some (.string x.name):=hcell 0 _ rfl;have c1:wr.cell? ⟨b,o+i*6+1,none⟩=some (.int .u8 x.kind):=hcell 1 _ rfl;have c2:wr.cell? ⟨b,o+i*6+2,none⟩=some (.int .i64 x.bank):=hcell 2 _ rfl;have c3:wr.cell? ⟨b,o+i*6+3,none⟩=some (.int .i64 x.scale):=hcell 3 _ rfl;have c4:wr.cell? ⟨b,o+i*6+4,none⟩=some (.slice Ab nb cb):=hcell 4 _ rfl;have c5:wr.cell? ⟨b,o+i*6+5,none⟩=some (.int .i64 x.tied):=hcell 5 _ rfl;have HB1:=hid (b1.alloc b1.size (.cells #[.string x.name,.int .u8 x.kind,.int .i64 x.bank,.int .i64 x.scale,.slice Ab nb cb,.int .i64 x.tied] 63));have hbw:Below wr.heap.size wr (wr.alloc (.cells #[.string x.name,.int .u8 x.kind,.int .i64 x.bank,.int .i64 x.scale,.slice Ab nb cb,.int .i64 x.tied] 63)):=(Below.refl _ _).alloc (Nat.le_refl _) _
        have HCL:=hid (show Calls prog g #[.agg #[.string x.name,.int .u8 x.kind,.int .i64 x.bank,.int .i64 x.scale,.slice Ab nb cb,.int .i64 x.tied]] (wr.alloc (.cells #[.string x.name,.int .u8 x.kind,.int .i64 x.bank,.int .i64 x.scale,.slice Ab nb cb,.int .i64 x.tied] 63)) fun e w'=>e=.returned (.string (f x))/\Below w.heap.size w w'/\Below wr.heap.size wr w' from (HP.out _ HB1.out x hxm _ (zx.kept HE hbw)).mono fun e w' ⟨h1,h2⟩=>⟨h1,HB1.out.trans (h2.mono HB1.out.size),hbw.trans (h2.mono hbw.size)⟩))
     | (have HE:=hE
        obtain ⟨_,_,rfl,_,_,_,⟨Ab,cb,rfl,_⟩,⟨Ac,cc,rfl,_⟩,_⟩:=hE;obtain ⟨nb,hnb⟩:∃ nb,x.opers.length=nb:=⟨_,rfl⟩;obtain ⟨nc,hnc⟩:∃ nc,x.effs.length=nc:=⟨_,rfl⟩;rw [hnb,hnc] at HE hcell;have c0:wr.cell? ⟨b,o+i*9,none⟩=some (.string x.name):=hcell 0 _ rfl;have c1:wr.cell? ⟨b,o+i*9+1,none⟩=some (.int .u64 x.mask):=hcell 1 _ rfl;have c2:wr.cell? ⟨b,o+i*9+2,none⟩=some (.int .u64 x.mtch):=hcell 2 _ rfl;have c3:wr.cell? ⟨b,o+i*9+3,none⟩=some (.slice Ab nb cb):=hcell 3 _ rfl;have c4:wr.cell? ⟨b,o+i*9+4,none⟩=some (.slice Ac nc cc):=hcell 4 _ rfl;have c5:wr.cell? ⟨b,o+i*9+5,none⟩=some (.int .i64 x.unit):=hcell 5 _ rfl;have c6:wr.cell? ⟨b,o+i*9+6,none⟩=some (.int .i64 x.busy):=hcell 6 _ rfl;have c7:wr.cell? ⟨b,o+i*9+7,none⟩=some (.int .i64 x.lat):=hcell 7 _ rfl;have c8:wr.cell? ⟨b,o+i*9+8,none⟩=some (.int .i64 x.slots):=hcell 8 _ rfl;have HB1:=hid (b1.alloc b1.size (.cells #[.string x.name,.int .u64 x.mask,.int .u64 x.mtch,.slice Ab nb cb,.slice Ac nc cc,.int .i64 x.unit,.int .i64 x.busy,.int .i64 x.lat,.int .i64 x.slots] 60));have hbw:Below wr.heap.size wr (wr.alloc (.cells #[.string x.name,.int .u64 x.mask,.int .u64 x.mtch,.slice Ab nb cb,.slice Ac nc cc,.int .i64 x.unit,.int .i64 x.busy,.int .i64 x.lat,.int .i64 x.slots] 60)):=(Below.refl _ _).alloc (Nat.le_refl _) _;have HCL:=hid (show Calls prog g #[.agg #[.string x.name,.int .u64 x.mask,.int .u64 x.mtch,.slice Ab nb cb,.slice Ac nc cc,.int .i64 x.unit,.int .i64 x.busy,.int .i64 x.lat,.int .i64 x.slots]] (wr.alloc (.cells #[.string x.name,.int .u64 x.mask,.int .u64 x.mtch,.slice Ab nb cb,.slice Ac nc cc,.int .i64 x.unit,.int .i64 x.busy,.int .i64 x.lat,.int .i64 x.slots] 60)) fun e w'=>e=.returned (.string (f x))/\Below w.heap.size w w'/\Below wr.heap.size wr w' from (HP.out _ HB1.out x hxm _ (insE.kept HE hbw)).mono fun e w' ⟨h1,h2⟩=>⟨h1,HB1.out.trans (h2.mono HB1.out.size),hbw.trans (h2.mono hbw.size)⟩))
    have HLK:=hid (fun W (h:Below wr.heap.size wr W)=>zvu (zbx b3 h) b4 (f x) (HF.out x hxm));have HOW:=hid (fun W (h:Below wr.heap.size wr W)=>zbx b3 h);have HMD:=hid b4;have HNR:=hid b2;have HDR:=hid hdrop;have HTK:=hid htake;obtain ⟨met,hmet⟩:∃ m,(L.map f).take i=m:=⟨_,rfl⟩;rw [hmet] at HLK HMD HNR HTK;obtain ⟨s,hs⟩:∃ s,f x=s:=⟨_,rfl⟩;rw [hs] at HLK HCL HDR HTK;have HSZ:=hid (show s.size<=maxLen by rw [<- hs];exact HF.out x hxm);clear hall hcell HE hx e1 b1 b2 b3 b4 hbw hdrop htake hxm hmet hs;by_cases hin:s∈met
    ·have HRF:Hid (r=false):=hid (by rw [HNR.out,HDR.out];exact zou hin);have e:decide (s∈met)=true:=(by simp [hin]);rw [e] at HLK;clear e hin
     go_wp2_with (first
      | ((with_reducible refine HCL.out.mono ?_);rintro e w2 ⟨rfl,hb2,hbr⟩;have HB2:=hid hb2;have hlk:=HLK.out w2 hbr;clear hb2 hbr))
     go_ret
     exact ⟨by rw [HRF.out];rfl,HB2.out⟩
    ·have e:decide (s∈met)=false:=(by simp [hin]);rw [e] at HLK;have HIN:=hid hin;clear e hin
     cases hq:z3v s with
     | false=>
       have HRF:Hid (r=false):=hid (by rw [HNR.out,HDR.out];exact zsy hq);have HNM:=hid (fun W=>zd4 s W);rw [hq] at HNM;clear hq
       go_wp2_with (first
        | ((with_reducible refine HCL.out.mono ?_);rintro e w2 ⟨rfl,hb2,hbr⟩;have HB2:=hid hb2;have hlk:=HLK.out w2 hbr;clear hb2 hbr)
        | (go_at_call 117;(with_reducible refine (HNM.out _).mono ?_);rintro e w3 ⟨rfl,hb3⟩;have HB3:=hid (HB2.out.trans (hb3.mono HB2.out.size));clear hb3))
       go_ret
       exact ⟨by rw [HRF.out];rfl,HB3.out⟩
     | true=>
       have HRG:Hid (r=z1x (met++[s]) ((L.map f).drop (i+1))):=hid (by rw [HNR.out,HDR.out];exact zh4 HIN.out hq);have HNM:=hid (fun W=>zd4 s W);rw [hq] at HNM;clear hq
       go_wp2_with (first
        | ((with_reducible refine HCL.out.mono ?_);rintro e w2 ⟨rfl,hb2,hbr⟩;have HB2:=hid hb2;have HBR:=hid hbr;have hlk:=HLK.out w2 hbr;clear hb2 hbr)
        | (go_at_call 117;(with_reducible refine (HNM.out _).mono ?_);rintro e w3 ⟨rfl,hb3⟩;have HB3:=hid (HB2.out.trans (hb3.mono HB2.out.size));have HR3:=hid (HBR.out.trans (hb3.mono HBR.out.size));clear hb3;clear hlk
           obtain ⟨w4,hup,hown,hg4⟩:=World.ownsMap.update (key:=.string s) (val:=.bool true) (HOW.out w3 HR3.out) (Maps.string_keyed Tryz.underlying9) Tryz.underlying192 (by unfold maxLen;omega) (Go.WideMaps.keyOf_string_mk Tryz.underlying9 HSZ.out) (plainElem_bool Tryz.underlying4 true);have HO4:=hid (And.intro hown hg4);clear hown hg4))
       go_roundw
       case rel=>exact ⟨i+1,by first|rfl|go_num|(congr 1),by have:=HLT.out;omega,hid ⟨zs1 (by rw [HBB.out];exact Nat.le_refl _) HB3.out HO4.out.2,by rw [HTK.out];exact HRG.out,_,HO4.out.1,by rw [HTK.out];exact zvz HMD.out s⟩⟩
       case measure=>simp only [intOf];have:=HLT.out;omega
   ·obtain rfl:i=n:=by omega
    have HI2:Hid (r=true):=hid (by rw [HI.out.2.1,List.drop_eq_nil_of_le (by rw [List.length_map,HN.out];exact Nat.le_refl _)];rfl)
    go_wp2
    go_ret
    exact ⟨by rw [HI2.out];rfl,HI.out.1⟩
theorem zt0:z66 4 regE 119:=z5h.1
theorem zox:z66 2 z52 126:=z5h.2.1
theorem zov:z66 2 z1k 123:=z5h.2.2.1
theorem zow:z66 6 zx 143:=z5h.2.2.2.1
theorem zsz:z66 9 insE 128:=z5h.2.2.2.2
theorem zot (w:World) (L:List MReg):zmt regE w 120 (fun x=>x.name) L:=by
 intro W hb x hx cs hE;obtain ⟨rfl,_⟩:=hE;have HB:=hid (fun cs=>(Below.refl W.heap.size W).alloc (Nat.le_refl _) (.cells cs 120));clear hx hb;go_enter Tryz.func120,Tryz.ntmps120
 go_wp2
 go_ret
 exact ⟨rfl,HB.out _⟩
theorem zcm:∀ (args:Array Value) (w:World),Sem.run prog (callFunc 120 args) w=.ok (.enter 120 args) w:=fun _ _=>by kernel_rfl
theorem zk7 (w:World) (L:List MUnit):zmt z52 w 127 (fun x=>x.name) L:=by
 intro W hb x hx cs hE;obtain ⟨rfl,_⟩:=hE;have HB:=hid (fun cs=>(Below.refl W.heap.size W).alloc (Nat.le_refl _) (.cells cs 117));clear hx hb;go_enter Tryz.func127,Tryz.ntmps127
 go_wp2
 go_ret
 exact ⟨rfl,HB.out _⟩
theorem zb7:∀ (args:Array Value) (w:World),Sem.run prog (callFunc 127 args) w=.ok (.enter 127 args) w:=fun _ _=>by kernel_rfl
theorem zk5 (w:World) (L:List MBank):zmt z1k w 124 (fun x=>x.name) L:=by
 intro W hb x hx cs hE;obtain ⟨_,rfl,_,Ab,cb,rfl,_⟩:=hE;have HB:=hid (fun cs=>(Below.refl W.heap.size W).alloc (Nat.le_refl _) (.cells cs 56));clear hx hb;go_enter Tryz.func124,Tryz.ntmps124
 go_wp2
 go_ret
 exact ⟨rfl,HB.out _⟩
theorem zb5:∀ (args:Array Value) (w:World),Sem.run prog (callFunc 124 args) w=.ok (.enter 124 args) w:=fun _ _=>by kernel_rfl
theorem zk6 (w:World) (L:List MOper):zmt zx w 144 (fun x=>x.name) L:=by
 intro W hb x hx cs hE;obtain ⟨_,rfl,_,_,_,_,⟨Ab,cb,rfl,_⟩,_⟩:=hE;have HB:=hid (fun cs=>(Below.refl W.heap.size W).alloc (Nat.le_refl _) (.cells cs 63));clear hx hb;go_enter Tryz.func144,Tryz.ntmps144
 go_wp2
 go_ret
 exact ⟨rfl,HB.out _⟩
theorem zb6:∀ (args:Array Value) (w:World),Sem.run prog (callFunc 144 args) w=.ok (.enter 144 args) w:=fun _ _=>by kernel_rfl
theorem zos (w:World) (L:List MIns):zmt insE w 129 (fun x=>x.name) L:=by
 intro W hb x hx cs hE;obtain ⟨_,_,rfl,_,_,_,⟨Ab,cb,rfl,_⟩,⟨Ac,cc,rfl,_⟩,_⟩:=hE;have HB:=hid (fun cs=>(Below.refl W.heap.size W).alloc (Nat.le_refl _) (.cells cs 60));clear hx hb;go_enter Tryz.func129,Tryz.ntmps129
 go_wp2
 go_ret
 exact ⟨rfl,HB.out _⟩
theorem zcl:∀ (args:Array Value) (w:World),Sem.run prog (callFunc 129 args) w=.ok (.enter 129 args) w:=fun _ _=>by kernel_rfl
theorem z2w (n a b:Int) (w:World):Calls prog 118 #[.int .i64 n,.int .i64 a,.int .i64 b] w fun e w'=>e=.returned (.bool (decide (a<=n/\n<=b)))/\w=w':=by
 by_cases h1:a<=n
 ·by_cases h2:n<=b
  ·rw [show decide (a<=n/\n<=b)=true by simp [h1,h2]];go_enter Tryz.func118,Tryz.ntmps118
   go_wp2
   go_ret
   exact ⟨rfl,rfl⟩
  ·rw [show decide (a<=n/\n<=b)=false by simp [h2]];go_enter Tryz.func118,Tryz.ntmps118
   go_wp2
   go_ret
   exact ⟨rfl,rfl⟩
 ·rw [show decide (a<=n/\n<=b)=false by simp [h1]];go_enter Tryz.func118,Tryz.ntmps118
  go_wp2
  go_ret
  exact ⟨rfl,rfl⟩
theorem z3t (i:Int) (A:Option Addr) (n c:Nat) (w:World):Calls prog 137 #[.int .i64 i,.slice A n c] w fun e w'=>e=.returned (.bool (decide (0<=i/\i<n)))/\w=w':=by
 by_cases h1:0<=i
 ·by_cases h2:i<n
  ·rw [show decide (0<=i/\i<n)=true by simp [h1,h2]];go_enter Tryz.func137,Tryz.ntmps137
   go_wp2
   go_ret
   exact ⟨rfl,rfl⟩
  ·rw [show decide (0<=i/\i<n)=false by simp [h2]];go_enter Tryz.func137,Tryz.ntmps137
   go_wp2
   go_ret
   exact ⟨rfl,rfl⟩
 ·rw [show decide (0<=i/\i<n)=false by simp [h1]];go_enter Tryz.func137,Tryz.ntmps137
  go_wp2
  go_ret
  exact ⟨rfl,rfl⟩
theorem zgo (i:Int) (A:Option Addr) (n c:Nat) (w:World):Calls prog 139 #[.int .i64 i,.slice A n c] w fun e w'=>e=.returned (.bool (decide (0<=i/\i<n)))/\w=w':=by
 by_cases h1:0<=i
 ·by_cases h2:i<n
  ·rw [show decide (0<=i/\i<n)=true by simp [h1,h2]];go_enter Tryz.func139,Tryz.ntmps139
   go_wp2
   go_ret
   exact ⟨rfl,rfl⟩
  ·rw [show decide (0<=i/\i<n)=false by simp [h2]];go_enter Tryz.func139,Tryz.ntmps139
   go_wp2
   go_ret
   exact ⟨rfl,rfl⟩
 ·rw [show decide (0<=i/\i<n)=false by simp [h1]];go_enter Tryz.func139,Tryz.ntmps139
  go_wp2
  go_ret
  exact ⟨rfl,rfl⟩
theorem zgn (i:Int) (A:Option Addr) (n c:Nat) (w:World):Calls prog 152 #[.int .i64 i,.slice A n c] w fun e w'=>e=.returned (.bool (decide (0<=i/\i<n)))/\w=w':=by
 by_cases h1:0<=i
 ·by_cases h2:i<n
  ·rw [show decide (0<=i/\i<n)=true by simp [h1,h2]];go_enter Tryz.func152,Tryz.ntmps152
   go_wp2
   go_ret
   exact ⟨rfl,rfl⟩
  ·rw [show decide (0<=i/\i<n)=false by simp [h2]];go_enter Tryz.func152,Tryz.ntmps152
   go_wp2
   go_ret
   exact ⟨rfl,rfl⟩
 ·rw [show decide (0<=i/\i<n)=false by simp [h1]];go_enter Tryz.func152,Tryz.ntmps152
  go_wp2
  go_ret
  exact ⟨rfl,rfl⟩
theorem z8w (i:Int) (A:Option Addr) (n c:Nat) (w:World):Calls prog 153 #[.int .i64 i,.slice A n c] w fun e w'=>e=.returned (.bool (decide (0<=i/\i<n)))/\w=w':=by
 by_cases h1:0<=i
 ·by_cases h2:i<n
  ·rw [show decide (0<=i/\i<n)=true by simp [h1,h2]];go_enter Tryz.func153,Tryz.ntmps153
   go_wp2
   go_ret
   exact ⟨rfl,rfl⟩
  ·rw [show decide (0<=i/\i<n)=false by simp [h2]];go_enter Tryz.func153,Tryz.ntmps153
   go_wp2
   go_ret
   exact ⟨rfl,rfl⟩
 ·rw [show decide (0<=i/\i<n)=false by simp [h1]];go_enter Tryz.func153,Tryz.ntmps153
  go_wp2
  go_ret
  exact ⟨rfl,rfl⟩
theorem zjs (i:Int) (A:Option Addr) (n c:Nat) (w:World):Calls prog 31 #[.int .i64 i,.slice A n c] w fun e w'=>e=.returned (.bool (decide (0<=i/\i<n)))/\w=w':=by
 by_cases h1:0<=i
 ·by_cases h2:i<n
  ·rw [show decide (0<=i/\i<n)=true by simp [h1,h2]];go_enter Tryz.func31,Tryz.ntmps31
   go_wp2
   go_ret
   exact ⟨rfl,rfl⟩
  ·rw [show decide (0<=i/\i<n)=false by simp [h2]];go_enter Tryz.func31,Tryz.ntmps31
   go_wp2
   go_ret
   exact ⟨rfl,rfl⟩
 ·rw [show decide (0<=i/\i<n)=false by simp [h1]];go_enter Tryz.func31,Tryz.ntmps31
  go_wp2
  go_ret
  exact ⟨rfl,rfl⟩
def zkt (r:MReg):Bool:=decide (r.par= -1/\r.low=0)
theorem zbn (w W:World) (x:MReg) (cs:List Value) (hE:regE W cs x):Calls prog 121 #[.agg cs.toArray] W fun e w'=>e=.returned (.bool (zkt x))/\Below W.heap.size W w':=by
 obtain ⟨rfl,_⟩:=hE;have HB:=hid (fun cs=>(Below.refl W.heap.size W).alloc (Nat.le_refl _) (.cells cs 120));unfold zkt;obtain ⟨p,hp⟩:∃ p,x.par=p:=⟨_,rfl⟩;obtain ⟨l,hl⟩:∃ l,x.low=l:=⟨_,rfl⟩;rw [hp,hl];clear hp hl;by_cases h1:p= -1
 ·subst h1;by_cases h2:l=0
  ·subst h2;go_enter Tryz.func121,Tryz.ntmps121
   go_wp2
   go_ret
   exact ⟨rfl,HB.out _⟩
  ·have g:(l==0)=false:=by simp [h2]
   rw [show decide ((-1:Int)= -1/\l=0)=false by simp [h2]];clear h2;go_enter Tryz.func121,Tryz.ntmps121
   go_wp2
   go_ret
   exact ⟨by first|rfl|(rw [<- g];rfl),HB.out _⟩
 ·have g:(p== -1)=false:=by simp [h1]
  rw [show decide (p= -1/\l=0)=false by simp [h1]];clear h1;go_enter Tryz.func121,Tryz.ntmps121
  go_wp2
  go_ret
  exact ⟨rfl,HB.out _⟩
end Go.Proofs.YtofhpahihneipaaGreatDoor
