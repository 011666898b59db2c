import Derived.Test.YtofhpahihneipaaGreatDoorGi
import Derived.Test.YtofhpahihneipaaGreatDoorGn
import Derived.KernelRfl
import Derived.Test.YtofhpahihneipaaGreatDoorPc
import Derived.Test.YtofhpahihneipaaGreatDoorGk
set_option linter.unusedVariables false
set_option linter.unusedSimpArgs false
set_option warningAsError false
open Go.Proofs.Tryz (prog)
noncomputable section
namespace Go.Proofs.YtofhpahihneipaaGreatDoor
open Go.RowKit
set_option maxRecDepth 100000
def eqL:List UInt8->List UInt8->Bool
 | [],[]=>true
 | a::l,b::m=>Nat.beq a.toNat b.toNat&&eqL l m
 | _,_=>false
theorem zr9:∀ (l m:List UInt8),eqL l m=true↔l=m
 | [],[]=>by simp [eqL]
 | [],b::m=>by simp [eqL]
 | a::l,[]=>by simp [eqL]
 | a::l,b::m=>by
   simp only [eqL,Bool.and_eq_true,zr9 l m,List.cons.injEq];constructor
   ·rintro ⟨h1,h2⟩;exact ⟨UInt8.toNat_inj.1 (Nat.eq_of_beq_eq_true h1),h2⟩
   ·rintro ⟨h1,h2⟩;subst h1;exact ⟨Nat.beq_refl _,h2⟩
def eqB (a b:ByteArray):Bool:=eqL a.data.toList b.data.toList
theorem zcn {a b:ByteArray}:eqB a b=true↔a=b:=by
 unfold eqB;rw [zr9];constructor
 ·intro h;obtain ⟨⟨a⟩⟩:=a;obtain ⟨⟨b⟩⟩:=b;simp only at h;rw [h]
 ·intro h;rw [h]
def zjx (n:Nat):Bool:=(Nat.ble 97 n&&Nat.ble n 122)||(Nat.ble 65 n&&Nat.ble n 90)
def zqx (n:Nat):Bool:=Nat.ble 48 n&&Nat.ble n 57
def zm0:Bool->List UInt8->Bool
 | _,[]=>true
 | later,c::l=>(zjx c.toNat||(later&&(zqx c.toNat||Nat.beq c.toNat 95)))&&zm0 true l
def zk4 (l:List UInt8):Bool:=Nat.ble 1 l.length&&(Nat.ble l.length 24&&zm0 false l)
theorem zog {n:Nat} (h:zjx n=true):z1h n:=by
 simp only [zjx,Bool.or_eq_true,Bool.and_eq_true] at h;rcases h with ⟨h1,h2⟩|⟨h1,h2⟩
 ·exact .inl ⟨Nat.le_of_ble_eq_true h1,Nat.le_of_ble_eq_true h2⟩
 ·exact .inr ⟨Nat.le_of_ble_eq_true h1,Nat.le_of_ble_eq_true h2⟩
theorem zqy {n:Nat} (h:zqx n=true):z2s n:=by simp only [zqx,Bool.and_eq_true] at h;exact ⟨Nat.le_of_ble_eq_true h.1,Nat.le_of_ble_eq_true h.2⟩
theorem zsx:∀ (l:List UInt8) (later:Bool),zm0 later l=true->∀ (i:Nat) (c:UInt8),l[i]? =some c->z1h c.toNat∨((i≠0∨later=true)/\(z2s c.toNat∨c.toNat=95)):=by
 intro l
 induction l with
 | nil=>intro later _ i c hc;simp at hc
 | cons x l ih=>
   intro later h i c hc;simp only [zm0,Bool.and_eq_true] at h
   cases i with
   | zero=>
     simp at hc;subst hc;have h1:=h.1;simp only [Bool.or_eq_true,Bool.and_eq_true] at h1;rcases h1 with h1|⟨h1,h2⟩
     ·exact .inl (zog h1)
     ·exact .inr ⟨.inr h1,h2.imp zqy Nat.eq_of_beq_eq_true⟩
   | succ i=>
     rcases ih true h.2 i c (by simpa using hc) with h1|⟨_,h2⟩
     ·exact .inl h1
     ·exact .inr ⟨.inl (by omega),h2⟩
theorem z9b {s:ByteArray} (h:zk4 s.data.toList=true):z3v s=true:=by
 simp only [zk4,Bool.and_eq_true] at h;have hs:s.data.toList.length=s.size:=by rw [Array.length_toList];rfl
 refine zh3 ⟨by rw [<- hs];exact Nat.le_of_ble_eq_true h.1,by rw [<- hs];exact Nat.le_of_ble_eq_true h.2.1,fun i c hc=>?_⟩;rcases zsx _ _ h.2.2 i c hc with h1|⟨h1,h2⟩
 ·exact .inl h1
 ·exact .inr ⟨h1.resolve_right (by simp),h2⟩
def z8x (met:List ByteArray):List ByteArray->Bool
 | []=>true
 | s::l=>(!(met.any (eqB s))&&zk4 s.data.toList)&&z8x (met++[s]) l
theorem z5g:∀ (l met:List ByteArray),z8x met l=true->z1x met l=true:=by
 intro l
 induction l with
 | nil=>intro met _;simp [z1x]
 | cons s l ih=>
   intro met h;simp only [z8x,Bool.and_eq_true] at h;have hn:¬ s∈met:=fun hm=>by have:met.any (eqB s)=true:=List.any_eq_true.2 ⟨s,hm,zcn.2 rfl⟩;rw [this] at h;simp at h
   rw [zh4 hn (z9b h.1.2)];exact ih _ h.2
def varL:List UInt8->Bool
 | 114::46::l=>zk4 l
 | l=>zk4 l
def varB (s:ByteArray):Bool:=varL s.data.toList
theorem zzq {s:ByteArray} (h:varB s=true):varR s=true:=by
 unfold varR z7p;obtain ⟨⟨l⟩⟩:=s;have hx:∀ a b,(ByteArray.mk ⟨l⟩).extract a b=ByteArray.mk ((l.drop a).take (b-a)).toArray:=fun a b=>ByteArray.extract_mk l a b;simp only [hx,ByteArray.toList_mk];have hz:(ByteArray.mk ⟨l⟩).size=l.length:=rfl;rw [hz];replace h:varL l=true:=h;by_cases hc:2<=l.length/\(l.drop 0).take (2-0)=[114,46]
 ·rw [if_pos hc]
  match l,hc with
  | a::b::r,⟨_,h2⟩=>simp at h2;obtain ⟨rfl,rfl⟩:=h2;refine z9b ?_;unfold varL at h;simpa using h
 ·rw [if_neg hc];refine z9b ?_;show zk4 l=true;unfold varL at h;split at h
  ·exact absurd ⟨by simp,by simp⟩ hc
  ·exact h
def isNil (s:ByteArray):Bool:=match s.data.toList with|[]=>true|_=>false
theorem zlu {s:ByteArray} (h:isNil s=true):s.toList=[]:=by
 rw [ByteArray.toList_eq];unfold isNil at h;split at h
 ·assumption
 ·cases h
def zrk (k:Nat) (w x y z lo:Int) (b:Nat) (s:ByteArray):Bool:=
 if k=1 then okW w b else if k=2 then varB s else if k=3∨k=4 then x==w else if k=16∨k=17∨k=18 then w==1&&x==y
 else if k=19 then x==1&&(y==w&&z==w) else if k=20 then wrap64 (x+y)==w else if k=21 then decide (0<=lo)&&decide (lo<=wrap64 (x-w))
 else if k=22∨k=23 then decide (x<=w) else if k=24 then zsr w else x==w&&y==w
theorem zrl {k:Nat} {w x y z lo:Int} {b:Nat} {s:ByteArray} (h:zrk k w x y z lo b s=true):zb8 k w x y z lo b s=true:=by
 unfold zb8;unfold zrk at h;by_cases h2:k=2
 ·subst h2;simp only [show ¬ (2:Nat)=1 by decide,if_false,if_true] at h ⊢;exact zzq h
 ·rw [if_neg h2] at h ⊢;exact h
def zzo (t:Tm):Bool:=(t.bits==0||t.kind==1)&&((isNil t.name||t.kind==2)&&(t.low==0||t.kind==21))
theorem zwv {t:Tm} (h:zzo t=true):zl5 t=true:=by simp only [zzo,Bool.and_eq_true] at h;unfold zl5;simp only [Bool.and_eq_true];refine ⟨⟨h.1,?_⟩,h.2.2⟩;have:=h.2.1;simp only [Bool.or_eq_true] at this ⊢;exact this.imp (fun q=>by rw [zlu q];rfl) id
def ziz (t:Tm):Bool:=decide (1<=t.kind)&&(decide (t.kind<=24)&&(okW t.width 0&&(t.sub.length==z58 t.kind&&(zzo t&&zrk t.kind t.width (wdAt t.sub 0) (wdAt t.sub 1) (wdAt t.sub 2) t.low t.bits t.name))))
theorem znu {t:Tm} (h:ziz t=true):z1d t=true:=by unfold ziz at h;unfold z1d zej;simp only [Bool.and_eq_true] at h ⊢;exact ⟨h.1,h.2.1,h.2.2.1,h.2.2.2.1,zwv h.2.2.2.2.1,zrl h.2.2.2.2.2⟩
def zba (K:ByteArray->Int) (address:Int) (t:Tm):Bool:=
 ziz t&&((if t.kind=2 then decide (K t.name=t.width) else true)&&(if t.kind=24 then decide ((t.sub.headD default).width=address) else true))
theorem zh5 {K:ByteArray->Int} {address:Int} {t:Tm} (h:zba K address t=true):z1d t=true:=by unfold zba at h;simp only [Bool.and_eq_true] at h;exact znu h.1
theorem za7 {K:ByteArray->Int} {address:Int} {t:Tm} (h:zba K address t=true) (hk:t.kind=2):K t.name=t.width:=by unfold zba at h;simp only [Bool.and_eq_true] at h;have:=h.2.1;rw [if_pos hk] at this;exact of_decide_eq_true this
theorem zp0 {K:ByteArray->Int} {address:Int} {t:Tm} (h:zba K address t=true) (hk:t.kind=24):(t.sub.headD default).width=address:=by unfold zba at h;simp only [Bool.and_eq_true] at h;have:=h.2.2;rw [if_pos hk] at this;exact of_decide_eq_true this
mutual
def zpn (K:ByteArray->Int) (address:Int):Tm->Bool
 | .mk k w b s lo l=>zba K address (.mk k w b s lo l)&&zc6 K address l
def zc6 (K:ByteArray->Int) (address:Int):List Tm->Bool
 | []=>true
 | t::l=>zpn K address t&&zc6 K address l
end
mutual
theorem zar (K:ByteArray->Int) (address:Int) (d:Nat):∀ t:Tm,zpn K address t=true->∀ p∈t.pre d,zba K address p.2=true
 | .mk k w b s lo l,h,p,hp=>by
   simp only [zpn,Bool.and_eq_true] at h;simp only [Tm.pre] at hp
   cases hp with
   | head=>exact h.1
   | tail _ hp=>exact z90 K address (d+1) l h.2 p hp
theorem z90 (K:ByteArray->Int) (address:Int) (d:Nat):∀ l:List Tm,zc6 K address l=true->∀ p∈Tm.pres d l,zba K address p.2=true
 | [],_,p,hp=>by simp only [Tm.pres] at hp;cases hp
 | t::l,h,p,hp=>by simp only [zc6,Bool.and_eq_true] at h;simp only [Tm.pres,List.mem_append] at hp;exact hp.elim (zar K address d t h.1 p) (z90 K address d l h.2 p)
end
mutual
theorem zaq (K:ByteArray->Int) (address:Int):∀ t:Tm,zpn K address t=true->z2l K address t=true
 | .mk k w b s lo l,h=>by
   simp only [zpn,Bool.and_eq_true] at h;obtain ⟨h1,h2⟩:=h;rw [z2l];by_cases hk:k=2
   ·rw [if_pos hk];exact decide_eq_true (za7 h1 hk)
   ·rw [if_neg hk,if_neg]
    ·exact z8z K address l h2
    ·rintro ⟨h3,h4⟩;exact h4 (zp0 h1 h3)
theorem z8z (K:ByteArray->Int) (address:Int):∀ l:List Tm,zc6 K address l=true->z43 K address l=true
 | [],_=>by simp [z43]
 | t::l,h=>by simp only [zc6,Bool.and_eq_true] at h;simp only [z43,zaq K address t h.1,z8z K address l h.2,Bool.and_self]
end
def zei (K:ByteArray->Int) (address:Int) (t:Tm):Bool:=Nat.ble t.sz 400&&(Nat.ble t.dp 60&&zpn K address t)
theorem z5u {K:ByteArray->Int} {address:Int} {t:Tm} (h:zei K address t=true):z2e K address t=true:=by
 simp only [zei,Bool.and_eq_true] at h;obtain ⟨h1,h2,h3⟩:=h;unfold z2e;rw [Bool.and_eq_true,decide_eq_true_eq];have hn:∀ u∈t.nodes,zba K address u=true:=fun u hu=>by unfold Tm.nodes at hu;obtain ⟨p,hp,rfl⟩:=List.mem_map.1 hu;exact zar K address 1 t h3 p hp
 refine ⟨(z6n t).2 ⟨Nat.le_of_ble_eq_true h1,Nat.le_of_ble_eq_true h2,fun u hu=>zh5 (hn u hu),fun u hu v hv ku kv he=>?_⟩,zaq K address t h3⟩;rw [<- za7 (hn u hu) ku,<-za7 (hn v hv) kv,he]
def zuf (t:Tm):Bool:=Nat.beq t.kind 0&&(decide (t.width=0)&&(Nat.beq t.bits 0&&(isNil t.name&&(decide (t.low=0)&&Nat.beq t.sub.length 0))))
theorem zdp {t:Tm} (h:zuf t=true):zb0 t=true:=by simp only [zuf,Bool.and_eq_true] at h;obtain ⟨h1,h2,h3,h4,h5,h6⟩:=h;unfold zb0;rw [zlu h4,Nat.eq_of_beq_eq_true h1,Nat.eq_of_beq_eq_true h3,Nat.eq_of_beq_eq_true h6,of_decide_eq_true h2,of_decide_eq_true h5];rfl
def zu5 (f:MEff):Bool:=
 (decide (f.kind=1)||decide (f.oper=0))&&((decide (f.kind=1)&&decide (f.oper= -1)||decide (f.reg=0))&&((decide (f.kind=2)||zuf f.addr)&&(decide (f.kind=3)||zuf f.cond)))
theorem zu6 {f:MEff} (h:zu5 f=true):zhv f=true:=by
 unfold zu5 at h;unfold zhv;rw [Bool.and_eq_true,Bool.and_eq_true,Bool.and_eq_true] at h ⊢;refine ⟨h.1,h.2.1,?_,?_⟩
 ·have:=h.2.2.1;rw [Bool.or_eq_true] at this ⊢;exact this.imp id zdp
 ·have:=h.2.2.2;rw [Bool.or_eq_true] at this ⊢;exact this.imp id zdp
def zck (K:ByteArray->Int) (address:Int) (R:List MReg) (L:List MBank) (ops:List MOper) (f:MEff):Bool:=
 if f.kind=1 then zei K address f.value&&decide (f.value.width=z5m address R L ops f)
 else if f.kind=2 then zei K address f.addr&&(decide (f.addr.width=address)&&(zei K address f.value&&zam f.value.width))
 else if f.kind=3 then zei K address f.value&&(decide (f.value.width=address)&&(zuf f.cond||(zei K address f.cond&&decide (f.cond.width=1))))
 else if f.kind=4 then zei K address f.value
 else false
theorem ziu {K:ByteArray->Int} {address:Int} {R:List MReg} {L:List MBank} {ops:List MOper} {f:MEff} (h:zck K address R L ops f=true):z3a K address R L ops f=true:=by
 unfold zck at h;unfold z3a;split at h
 ·rename_i hk;rw [if_pos hk];rw [Bool.and_eq_true] at h ⊢;exact ⟨z5u h.1,h.2⟩
 ·rename_i hk;rw [if_neg hk];split at h
  ·rename_i hk;rw [if_pos hk];rw [Bool.and_eq_true,Bool.and_eq_true,Bool.and_eq_true] at h ⊢;exact ⟨z5u h.1,h.2.1,z5u h.2.2.1,h.2.2.2⟩
  ·rename_i hk;rw [if_neg hk];split at h
   ·rename_i hk;rw [if_pos hk];rw [Bool.and_eq_true,Bool.and_eq_true] at h ⊢;refine ⟨z5u h.1,h.2.1,?_⟩;have:=h.2.2;rw [Bool.or_eq_true,Bool.and_eq_true] at this ⊢;exact this.imp zdp fun q=>⟨z5u q.1,q.2⟩
   ·rename_i hk;rw [if_neg hk];split at h
    ·rename_i hk;rw [if_pos hk];exact z5u h
    ·cases h
def z9c (word address:Int) (L:List MBank):List MOper->Nat->List MOper->Bool
 | _,_,[]=>true
 | others,taken,o::l=>(!(eqB o.name z23)&&z4j address L others o)&&((z21 word taken o.pieces).1&&z9c word address L (others++[o]) (z21 word taken o.pieces).2 l)
theorem zki {word address:Int} {L:List MBank}:∀ (l others:List MOper) (taken:Nat),z9c word address L others taken l=true->z1y word address L others taken l=true:=by
 intro l
 induction l with
 | nil=>intro others taken _;simp [z1y]
 | cons o l ih=>intro others taken h;simp only [z9c,Bool.and_eq_true] at h;simp only [z1y,Bool.and_eq_true];refine ⟨⟨?_,h.1.2⟩,h.2.1,ih _ _ h.2.2⟩;have h1:=h.1.1;rw [decide_eq_true_eq];intro he;rw [he,zcn.2 rfl] at h1;cases h1
def z96:List (ByteArray×Int)->ByteArray->Int
 | [],_=>0
 | p::l,x=>if eqB x p.1 then p.2 else z96 l x
theorem zdd (l:List (ByteArray×Int)) (s:ByteArray) (z:Int):putK (z96 l) s z=z96 ((s,z)::l):=by
 funext x;unfold putK;rw [z96];by_cases h:x=s
 ·rw [if_pos h,if_pos (zcn.2 h)]
 ·rw [if_neg h,if_neg (fun q=>h (zcn.1 q))]
def z00x (address:Int) (R:List MReg) (L:List MBank) (l:List (ByteArray×Int)) (ops:List MOper):List (ByteArray×Int):=ops.foldl (fun l o=>(o.name,z1r address R L o)::l) l
theorem zwb (address:Int) (R:List MReg) (L:List MBank):∀ (ops:List MOper) (l:List (ByteArray×Int)),z3z address R L (z96 l) ops=z96 (z00x address R L l ops):=by
 intro ops
 induction ops with
 | nil=>intro l;rfl
 | cons o ops ih=>intro l;show z3z address R L (putK (z96 l) o.name (z1r address R L o)) ops=_;rw [zdd];exact ih _
def zuo (m:Mach):List (ByteArray×Int):=m.regs.foldl (fun l r=>(rDot r.name,r.width)::l) [(z23,m.address)]
theorem zup (m:Mach):z6i m=z96 (zuo m):=by
 have key:∀ (R:List MReg) (l:List (ByteArray×Int)),R.foldl (fun K r=>putK K (rDot r.name) r.width) (z96 l)=z96 (R.foldl (fun l r=>(rDot r.name,r.width)::l) l):=by
  intro R
  induction R with
  | nil=>intro l;rfl
  | cons r R ih=>intro l;show R.foldl _ (putK (z96 l) (rDot r.name) r.width)=_;rw [zdd];exact ih _
 unfold z6i zuo;rw [<- key,<-zdd];rfl
def insB (m:Mach) (base:List (ByteArray×Int)) (i:MIns):Bool:=
 (z5v m.word m.units.length i&&(z8x [] (i.opers.map fun x=>x.name)&&z9c m.word m.address m.banks [] i.mask i.opers))&&i.effs.all fun f=>zck (z96 (z00x m.address m.regs m.banks base i.opers)) m.address m.regs m.banks i.opers f&&zu5 f
theorem zyr {m:Mach} {i:MIns} (h:insB m (zuo m) i=true):insR m (z6i m) i=true:=by unfold insB at h;unfold insR z6a;simp only [Bool.and_eq_true] at h ⊢;refine ⟨⟨h.1.1,z5g _ _ h.1.2.1,zki _ _ _ h.1.2.2⟩,?_⟩;rw [List.all_eq_true];intro f hf;have h3:=List.all_eq_true.1 h.2 f hf;rw [Bool.and_eq_true] at h3;unfold effR;rw [Bool.and_eq_true,zup,zwb];exact ⟨ziu h3.1,zu6 h3.2⟩
def zxw (m:Mach):Bool:=
 limM m&&((zk4 m.name.data.toList&&(decide (1<=m.word/\m.word<=4)&&decide (m.address=16∨m.address=32)))&&
  (((decide (0<m.regs.length)&&z8x [] (m.regs.map fun x=>x.name))&&m.regs.all (zkq m.regs))&&
  ((z8x [] (m.banks.map fun x=>x.name)&&m.banks.all (z4c m.regs))&&
  (((decide (0<m.units.length)&&z8x [] (m.units.map fun x=>x.name))&&m.units.all zc7)&&
  (z8x [] (m.instrs.map fun x=>x.name)&&m.instrs.all (insB m (zuo m)))))))
theorem zau {m:Mach} (h:zxw m=true):chkR m=0:=by unfold zxw at h;simp only [Bool.and_eq_true] at h;obtain ⟨h0,⟨h1,h1'⟩,⟨⟨h2,h2'⟩,h2''⟩,⟨h3,h3'⟩,⟨⟨h4,h4'⟩,h4''⟩,h5,h5'⟩:=h;unfold chkR;rw [if_pos h0,if_pos];unfold z26 z63 z8k z41 z5l z49;simp only [Bool.and_eq_true];refine ⟨⟨z9b h1,h1'⟩,⟨⟨h2,z5g _ _ h2'⟩,h2''⟩,⟨z5g _ _ h3,h3'⟩,⟨⟨h4,z5g _ _ h4'⟩,h4''⟩,z5g _ _ h5,?_⟩;rw [List.all_eq_true] at h5' ⊢;exact fun i hi=>zyr (h5' i hi)
end Go.Proofs.YtofhpahihneipaaGreatDoor
namespace Go.Proofs.YtofhpahihneipaaGreatDoor
open Go.RowKit
set_option maxRecDepth 1000000
theorem zo1:decR (Play.start prog [] 10000000 15 ([Value.int .i64 0].map .lit) (.mk .e .nil))=some given0:=by kernel_rfl
theorem zo2:decR (Play.start prog [] 10000000 15 ([Value.int .i64 1].map .lit) (.mk .e .nil))=some given1:=by kernel_rfl
theorem z81 (w:World):Calls prog 15 #[.int .i64 0] w fun e w'=>∃ x:Value,e=.returned x/\z1j w' x given0/\Below w.heap.size w w':=zhc zo1 w
theorem zny (w:World):Calls prog 15 #[.int .i64 1] w fun e w'=>∃ x:Value,e=.returned x/\z1j w' x given1/\Below w.heap.size w w':=zhc zo2 w
theorem valid0:chkR given0=0:=zau (by kernel_rfl)
theorem valid1:chkR given1=0:=zau (by kernel_rfl)
def zu7 (t:Tm):Bool:= !t.long&&Nat.ble t.dp 9000
def zr5 (m:Mach):Bool:=m.instrs.all fun x=>x.effs.all fun f=>zu7 f.addr&&(zu7 f.value&&zu7 f.cond)
theorem zdk {t:Tm} (h:zu7 t=true):TmOk t:=by simp only [zu7,Bool.and_eq_true,Bool.not_eq_true'] at h;exact ⟨h.1,Nat.le_of_ble_eq_true h.2⟩
theorem zbk {m:Mach} (h:zr5 m=true):∀ x∈m.instrs,∀ f∈x.effs,z4n f:=by intro x hx f hf;unfold zr5 at h;have h1:=List.all_eq_true.1 (List.all_eq_true.1 h x hx) f hf;simp only [Bool.and_eq_true] at h1;exact ⟨zdk h1.1,zdk h1.2.1,zdk h1.2.2⟩
theorem effs0:∀ x∈given0.instrs,∀ f∈x.effs,z4n f:=zbk (by kernel_rfl)
theorem effs1:∀ x∈given1.instrs,∀ f∈x.effs,z4n f:=zbk (by kernel_rfl)
end Go.Proofs.YtofhpahihneipaaGreatDoor
