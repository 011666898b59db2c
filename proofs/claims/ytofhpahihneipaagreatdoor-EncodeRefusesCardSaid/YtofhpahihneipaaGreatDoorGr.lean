import Derived.Test.YtofhpahihneipaaGreatDoorGq
import Derived.Test.YtofhpahihneipaaGreatDoorGe
import Derived.Laws.OwnMore
import Derived.OwnWalk
import Derived.Maps.AppendAt
import Derived.Test.YtofhpahihneipaaGreatDoorPe
import Derived.Deep.AppendLies
import Derived.Test.YtofhpahihneipaaGreatDoorGp
import Derived.Laws.BitsAllLaws
import Derived.Laws.Bits128
import Derived.Deep.RegionHeld3
import Derived.OneCell
import Derived.Deep.Onto
set_option linter.unusedVariables false
set_option linter.unusedSimpArgs false
set_option warningAsError false
set_option maxHeartbeats 4000000
open Go.Lib (hid)
open Go.Proofs.Tryz (prog)
namespace Go.Proofs.YtofhpahihneipaaGreatDoor
open Go.RowKit
set_option maxRecDepth 100000
structure Fld where
 pieces:List MPiece
 values:Nat
structure Shp where
 size:Int
 mtch:Nat
 free:Nat
 fields:List Fld
def hasR (s:Shp) (x:Nat):Bool:=decide (x&&&(18446744073709551615-s.free)=s.mtch)&&s.fields.all fun f=>decide (getN x f.pieces<f.values)
def z1q (size:Int) (L:List MPiece):Prop:=(1<=size/\size<=32)/\L.length<=4/\z2i size 0 L
theorem z1q.mask {size:Int} {L:List MPiece} (h:z1q size L):z3f size L=(z3e 0 L,0):=by obtain ⟨⟨h1,h2⟩,h3,h4⟩:=h;unfold z3f;rw [if_pos ⟨h1,by omega⟩,if_pos h3];exact (zct L 0).2.1 h4
theorem zlx {size:Int} (hs:size<=64):∀ {L:List MPiece} {m:Nat},z2i size m L->m<2^size.toNat->z3e m L<2^size.toNat
 | [],m,_,hm=>hm
 | x::L,m,h,hm=>by show z3e (m|||pcM x) L<_;exact zlx hs h.2.2 (Nat.or_lt_two_pow hm (ztk hs h.1).1)
theorem z1q.mask_lt {size:Int} {L:List MPiece} (h:z1q size L):z3e 0 L<4294967296:=by have h1:=zlx (m:=0) (by have:=h.1;omega) h.2.2 (Nat.two_pow_pos _);exact Nat.lt_of_lt_of_le h1 (Nat.pow_le_pow_right (by omega) (show size.toNat<=32 by have:=h.1;omega))
theorem z4y {size:Int} (h:size<=32):2^size.toNat<=4294967296:=Nat.pow_le_pow_right (n:=2) (by omega) (show size.toNat<=32 by omega)
theorem z1q.get {size:Int} {L:List MPiece} (h:z1q size L) {x:Nat} (hx:x<2^size.toNat):getR size x L=(getN x L,0):=by
 have hc:cwR size x L=0:=by unfold cwR;rw [h.mask];simp [okB,hx]
 unfold getR;rw [if_pos hc]
theorem z1q.width {size:Int} {L:List MPiece} (h:z1q size L):zl L<=32:=by have h1:=h.2.2.width;have:=h.1;omega
def fldE (w:World) (cs:List Value) (f:Fld):Prop:=∃ sp,cs=[sp,.int .u64 (f.values:Nat)]/\zd 2 z2g w sp f.pieces/\f.values<18446744073709551616
theorem fldE.kept {w w':World} {cs:List Value} {x:Fld} (h:fldE w cs x) (hb:Below w.heap.size w w'):fldE w' cs x:=by obtain ⟨sp,hc,h0,h1⟩:=h;exact ⟨sp,hc,h0.kept (fun cs x hx=>z2g.kept hx hb) hb,h1⟩
def shpE (w:World) (cs:List Value) (s:Shp):Prop:=∃ sf,cs=[.int .i64 s.size,.int .u64 (s.mtch:Nat),.int .u64 (s.free:Nat),sf]/\(1<=s.size/\s.size<=32)/\s.mtch<18446744073709551616/\s.free<18446744073709551616/\zd 2 fldE w sf s.fields
theorem shpE.kept {w w':World} {cs:List Value} {x:Shp} (h:shpE w cs x) (hb:Below w.heap.size w w'):shpE w' cs x:=by obtain ⟨sf,hc,h0,h1,h2,h3⟩:=h;exact ⟨sf,hc,h0,h1,h2,h3.kept (fun cs x hx=>fldE.kept hx hb) hb⟩
def ShpV (w:World) (v:Value) (s:Shp):Prop:=∃ sf,v=.agg #[.int .i64 s.size,.int .u64 (s.mtch:Nat),.int .u64 (s.free:Nat),sf]/\(1<=s.size/\s.size<=32)/\s.mtch<18446744073709551616/\s.free<18446744073709551616/\zd 2 fldE w sf s.fields
theorem ShpV.kept {w w':World} {v:Value} {x:Shp} (h:ShpV w v x) (hb:Below w.heap.size w w'):ShpV w' v x:=by obtain ⟨sf,hc,h0,h1,h2,h3⟩:=h;exact ⟨sf,hc,h0,h1,h2,h3.kept (fun cs x hx=>fldE.kept hx hb) hb⟩
def zpx (s:Shp):Prop:=s.fields.length<=4/\∀ f∈s.fields,z1q s.size f.pieces
end Go.Proofs.YtofhpahihneipaaGreatDoor
namespace Go.Proofs.YtofhpahihneipaaGreatDoor
open Go.RowKit Go.Instr
set_option maxRecDepth 100000
theorem zln {k:Nat}:∀ (C:List (List Value)),(∀ c∈C,c.length=k)->∀ (i:Nat) (c:List Value),C[i]? =some c->∀ j u,c[j]? =some u->C.flatten[i*k+j]? =some u
 | [],_,i,c,h,_,_,_=>by simp at h
 | d::C,hk,0,c,h,j,u,hj=>by
   obtain rfl:d=c:=by simpa using h
   rw [List.flatten_cons,List.getElem?_append_left (by have:=(List.getElem?_eq_some_iff.1 hj).1;omega)]
   simpa using hj
 | d::C,hk,i+1,c,h,j,u,hj=>by rw [List.flatten_cons,List.getElem?_append_right (by rw [hk d (by simp),Nat.add_mul];omega),hk d (by simp),show (i+1)*k+j-k=i*k+j by rw [Nat.add_mul];omega];exact zln C (fun c hc=>hk c (by simp [hc])) i c (by simpa using h) j u hj
def z48 {α:Type} (k:Nat) (E:World->List Value->α->Prop) (w:World) (C:List (List Value)) (L:List α):Prop:=
 C.length=L.length/\(∀ c∈C,c.length=k)/\∀ (i:Nat) (x:α) (c:List Value),L[i]? =some x->C[i]? =some c->E w c x
theorem z48.kept {α:Type} {k:Nat} {E:World->List Value->α->Prop} {w w':World} {C:List (List Value)} {L:List α} (h:z48 k E w C L) (hE:∀ cs x,E w cs x->E w' cs x):z48 k E w' C L:=
 ⟨h.1,h.2.1,fun i x c hx hc=>hE _ _ (h.2.2 i x c hx hc)⟩
theorem z48.nil {α:Type} {k:Nat} {E:World->List Value->α->Prop} {w:World}:z48 k E w [] ([]:List α):=⟨rfl,by simp,fun i x c hx=>by simp at hx⟩
theorem z48.snoc {α:Type} {k:Nat} {E:World->List Value->α->Prop} {w:World} {C:List (List Value)} {L:List α} (h:z48 k E w C L) {c:List Value} {x:α} (hc:c.length=k) (hx:E w c x):z48 k E w (C++[c]) (L++[x]):=by
 refine ⟨by simp [h.1],fun d hd=>?_,fun i y d hy hd=>?_⟩
 ·rcases List.mem_append.1 hd with hd|hd
  ·exact h.2.1 d hd
  ·obtain rfl:d=c:=by simpa using hd
   exact hc
 ·rcases Nat.lt_or_ge i L.length with hi|hi
  ·rw [List.getElem?_append_left hi] at hy;rw [List.getElem?_append_left (by rw [h.1];exact hi)] at hd;exact h.2.2 i y d hy hd
  ·rw [List.getElem?_append_right hi] at hy;rw [List.getElem?_append_right (by rw [h.1];exact hi)] at hd;have h0:i-L.length=0:=by
    have:=(List.getElem?_eq_some_iff.1 hy).1;simp at this;omega
   rw [h.1] at hd;rw [h0] at hy hd;obtain rfl:x=y:=by simpa using hy
   obtain rfl:c=d:=by simpa using hd
   exact hx
theorem zdf {α:Type} {k base:Nat} {e:TypeId} {E:World->List Value->α->Prop} {w:World} {v:Value} {C:List (List Value)} {L:List α} (ho:w.ownsRow base e k v L.length C.flatten) (hO:z48 k E w C L) (hm:L.length<=maxLen):zd k E w v L:=by
 obtain ⟨hC,hk,hE⟩:=hO;obtain ⟨hl,h|⟨g,cap,cur,hv,_,hh,hc,hm2,_,ht⟩⟩:=ho
 ·have h0:L=[]:=List.length_eq_zero_iff.1 h.2;subst h0;exact ⟨none,0,h.1,by simp,by simp,by simp,fun i x hx=>by simp at hx⟩
 ·refine ⟨some ⟨g,0,none⟩,cap,hv,hm,hc,hm2,fun i x hx=>?_⟩;have hil:=(List.getElem?_eq_some_iff.1 hx).1;obtain ⟨c,hci⟩:∃ c,C[i]? =some c:=⟨_,List.getElem?_eq_getElem (by rw [hC];exact hil)⟩;refine ⟨g,0,c,rfl,(Array.getElem?_eq_some_iff.1 hh).1,hk c (List.mem_of_getElem? hci),fun j u hj=>?_,hE i x c hx hci⟩;rw [Nat.zero_add];refine zb hh ?_;have e1:=zln C hk i c hci j u hj;rw [<- ht,List.getElem?_take] at e1;split at e1
  ·simpa using e1
  ·cases e1
end Go.Proofs.YtofhpahihneipaaGreatDoor
namespace Go.Proofs.YtofhpahihneipaaGreatDoor
open Go.RowKit
theorem zmn:(prog.info? 31).map (fun i=>(i.zero,i.size,i.bytes))=some (some (.int .u64 0),1,8):=by kernel_rfl
theorem z3h (a b:Nat) (h:a%18446744073709551616=b):IntKind.u64.wrap (a:Int)=(b:Nat):=by rw [<- h];simp [IntKind.wrap,IntKind.bits,IntKind.signed]
theorem z9h (a b c:Nat) (ha:a<18446744073709551616) (hb:b<18446744073709551616) (h:a&&&b=c):bits .and .u64 (a:Int) (b:Int)=(c:Nat):=by rw [<- h];exact u64_and_nat a b ha hb
def zmu (w:World) (A:Option Addr) (m size:Nat) (f:Nat->Value):Prop:=0<m->∃ b o,A=some ⟨b,o,none⟩/\b<w.heap.size/\∀ j,j<m*size->w.cell? ⟨b,o+j,none⟩=some (f j)
theorem zmu.below {w w':World} {A:Option Addr} {m size:Nat} {f:Nat->Value} (h:zmu w A m size f) (hb:Below w.heap.size w w'):zmu w' A m size f:=fun h0=>by obtain ⟨b,o,e,h1,h2⟩:=h h0;exact ⟨b,o,e,Nat.lt_of_lt_of_le h1 hb.size,fun j hj=>by rw [hb.cell h1];exact h2 j hj⟩
section
variable {P:Program} {w:World}
theorem zbc (base:Nat) (t ty e:TypeId) (i:TypeInfo) (z:Value) (size bytes:Nat) (ht:P.underlying t=some (.slice e)) (hi:P.info? e=some i) (hz:i.zero=some z)
 (hsize:i.size=size) (hby:i.bytes=bytes) (hzs:z.cells.size=size) (hsz:0<size)
 (v:Value) (n:Nat) (xs:List Value) (hown:w.ownsRow base e size v n xs)
 (A:Option Addr) (m c:Nat) (f:Nat->Value) (hr:zmu w A m size f) (h1:∀ j,(f j).oneCell'=true)
 (h63:n+m<=maxLen) (hbytes:(n+m)*bytes<=140737488355328) (hbase:base<=w.heap.size):
 ∃ v' w',(Builtin.append_ #[t,t] ty #[v,.slice A m c]).run P w=.ok v' w'/\w'.ownsRow base e size v' (n+m) (xs++(List.range (m*size)).map f)/\w.grownBy w' v.ownBlock:=by
 rcases A with _|ad
 ·have hm:m=0:=by
   rcases Nat.eq_zero_or_pos m with h|h
   ·exact h
   ·obtain ⟨b,o,e,_⟩:=hr h;cases e
  subst hm;subst hsize;refine ⟨v,w,?_,by simpa using hown,World.grownBy.refl w _⟩;rcases hown.2 with ⟨rfl,hn⟩|⟨g,cap,cur,rfl,_,_,h3,_⟩
  ·subst hn;simp [Builtin.append_,run_underlying ht,sizeOf,typeInfo,hi,Builtin.lenOf,Builtin.firstCells,storeCells]
  ·simp [Builtin.append_,run_underlying ht,sizeOf,typeInfo,hi,Builtin.lenOf,Builtin.firstCells,storeCells,h3]
 ·obtain ⟨v',w',k1,k2,k3,_⟩:=run_append_own_at (P:=P) w base t ty e i z size bytes ht hi hz hsize hby hzs hsz v n xs hown ad m c ((List.range (m*size)).map f) (by simp) (fun j u hu=>by
   have hj:j<m*size:=by
    rcases Nat.lt_or_ge j (m*size) with h|h
    ·exact h
    ·rw [List.getElem?_eq_none (by simpa using h)] at hu;cases hu
   have h0:0<m:=by
    rcases Nat.eq_zero_or_pos m with h|h
    ·rw [h] at hj;simp at hj
    ·exact h
   obtain ⟨b,o,e,hb,hc⟩:=hr h0;cases e;rw [List.getElem?_map,List.getElem?_range hj] at hu;obtain rfl:=Option.some.inj hu;have hadd:(⟨b,o,none⟩:Addr).add j=⟨b,o+j,none⟩:=by unfold Addr.add;split<;>simp_all
   rw [hadd];exact hc j hj) (fun u hu=>by obtain ⟨j,_,rfl⟩:=List.mem_map.1 hu;exact h1 j) h63 hbytes hbase
  exact ⟨v',w',k1,k2,k3⟩
theorem z8p {ops:Array Oper} {rest:List Oper} {o:Oper} {a:Act} {Q:Exit->Act->World->Prop} (hgd:o.guard=none) (s x:Operand) (t:TypeId)
 (ho:o.op=.call { callee:=.builtin .append,args:= #[s,x],argTypes:= #[t,t] })
 (base:Nat) (e:TypeId) (i:TypeInfo) (z:Value) (size bytes:Nat) (ht:P.underlying t=some (.slice e)) (hi:P.info? e=some i) (hz:i.zero=some z)
 (hsize:i.size=size) (hby:i.bytes=bytes) (hzs:z.cells.size=size) (hsz:0<size)
 (v:Value) (n:Nat) (xs:List Value) (hs:a.eval s=v) (hown:w.ownsRow base e size v n xs)
 (A:Option Addr) (m c:Nat) (f:Nat->Value) (hx:a.eval x=.slice A m c) (hr:zmu w A m size f) (h1:∀ j,(f j).oneCell'=true)
 (h63:n+m<=maxLen) (hbytes:(n+m)*bytes<=140737488355328) (hbase:base<=w.heap.size)
 (h:∀ v' w',w'.ownsRow base e size v' (n+m) (xs++(List.range (m*size)).map f)->w.grownBy w' v.ownBlock->wpList P ops Q rest (a.put o.dst v') w'):
 wpList P ops Q (o::rest) a w:=by
 refine wpList_plain hgd fun K hK=>?_;obtain ⟨v',w',hr',h2,h3⟩:=zbc (P:=P) (w:=w) base t o.type e i z size bytes ht hi hz hsize hby hzs hsz v n xs hown A m c f hr h1 h63 hbytes hbase;unfold Oper.wp execOp;simp only [ho,resolve,invoke,builtin,Sem.run_bind,Sem.run_pure,Result.andThen_ok,List.map_toArray,List.map_cons,List.map_nil,hs,hx,hr'];exact hK _ _ (h v' w' h2 h3)
end
end Go.Proofs.YtofhpahihneipaaGreatDoor
namespace Go.Proofs.YtofhpahihneipaaGreatDoor
open Go.RowKit
set_option maxRecDepth 100000
def ocR (x:Nat):Nat:=ones 8 x
def valR (m:Mach) (o:MOper):Nat:=if o.kind=1/\o.tied= -1 then ((m.banks[o.bank.toNat]?).map fun b=>b.regs.length).getD 0 else 2^ocR (z3e 0 o.pieces)%18446744073709551616
def z6q (l:List MOper):Nat:=l.foldl (fun a o=>a|||z3e 0 o.pieces) 0
def z1p (m:Mach) (i:MIns):Shp:=⟨8*m.word,i.mtch,z6q i.opers,i.opers.map fun o=>⟨o.pieces,valR m o⟩⟩
theorem zae {word:Int} (hw:1<=word/\word<=4):∀ (L:List MPiece) (t:Nat),(z21 word t L).1=true->z2i (8*word) t L/\(z21 word t L).2=z3e t L
 | [],t,_=>⟨trivial,rfl⟩
 | p::L,t,h=>by
   simp only [z21] at h ⊢;by_cases hp:z4x word p=true
   ·rw [if_pos hp] at h ⊢;simp only [Bool.and_eq_true,decide_eq_true_eq] at h;have hpo:pcOk (8*word) p=true:=by
     unfold z4x at hp;simp only [Bool.and_eq_true,decide_eq_true_eq] at hp;exact z5z.2 ⟨hp.1.1,hp.1.2,hp.2.1,hp.2.2⟩
    have hf:z8v p=pcM p:=by unfold z8v pcM;exact Nat.mod_eq_of_lt (ztk (size:=8*word) (by omega) hpo).2
    rw [hf] at h;obtain ⟨h1,h2⟩:=zae hw L (t|||pcM p) h.2;rw [hf];exact ⟨⟨hpo,h.1,h1⟩,h2⟩
   ·rw [if_neg hp] at h;simp at h
def z65 (size:Int):Nat->List MOper->Prop
 | _,[]=>True
 | t,o::l=>z2i size t o.pieces/\z65 size (z3e t o.pieces) l
theorem zbv {word address:Int} {B:List MBank} (hw:1<=word/\word<=4):∀ (l:List MOper) (others:List MOper) (t:Nat),z1y word address B others t l=true->z65 (8*word) t l/\∀ o∈l,∃ before,z4j address B before o=true
 | [],_,_,_=>⟨trivial,fun o ho=>by simp at ho⟩
 | o::l,others,t,h=>by
   simp only [z1y,Bool.and_eq_true] at h;obtain ⟨⟨_,h1⟩,h2,h3⟩:=h;obtain ⟨g1,g2⟩:=zae hw o.pieces t h2;rw [g2] at h3;obtain ⟨k1,k2⟩:=zbv hw l (others++[o]) _ h3;refine ⟨⟨g1,k1⟩,fun q hq=>?_⟩;rcases List.mem_cons.1 hq with rfl|hq
   ·exact ⟨_,h1⟩
   ·exact k2 q hq
theorem z65.each {size:Int}:∀ {l:List MOper} {t:Nat},z65 size t l->∀ o∈l,z2i size 0 o.pieces/\∀ j,hasL o.pieces j=true->t.testBit j=false
 | p::l,t,h,o,ho=>by
   rcases List.mem_cons.1 ho with rfl|ho
   ·exact ⟨h.1.sub fun j hj=>by simp at hj,fun j hj=>h.1.free j hj⟩
   ·obtain ⟨h1,h2⟩:=z65.each h.2 o ho;refine ⟨h1,fun j hj=>?_⟩;have:=h2 j hj;rw [z7a] at this;cases hb:t.testBit j<;>simp_all
theorem z3d {m:Mach} (h:chkR m=0) {i:MIns} (hi:i∈m.instrs):(1<=m.word/\m.word<=4)/\i.opers.length<=4/\i.mask<2^(8*m.word).toNat/\i.mtch&&&(18446744073709551615-i.mask)=0/\z65 (8*m.word) i.mask i.opers/\
 (∀ o∈i.opers,z1q (8*m.word) o.pieces)/\∀ o∈i.opers,∃ before,z4j m.address m.banks before o=true:=by
 obtain ⟨hl,hh,_,_,_,hin⟩:=z30 h;obtain ⟨_,_,_,_,_,h6⟩:=z3l hl;obtain ⟨_,h7,h8⟩:=h6 i hi;unfold z63 at hh;simp only [Bool.and_eq_true,decide_eq_true_eq] at hh;have hw:=hh.2.1;unfold z49 at hin;simp only [Bool.and_eq_true,List.all_eq_true] at hin;have h9:=hin.2 i hi;unfold insR at h9;simp only [Bool.and_eq_true] at h9;obtain ⟨⟨ha,hb⟩,_⟩:=h9;unfold z5v at ha;simp only [Bool.and_eq_true,decide_eq_true_eq] at ha;unfold z6a at hb;simp only [Bool.and_eq_true] at hb;obtain ⟨k1,k2⟩:=zbv hw i.opers [] i.mask hb.2;refine ⟨hw,h7,?_,ha.2.1,k1,fun o ho=>⟨⟨by omega,by omega⟩,h8 o ho,(k1.each o ho).1⟩,k2⟩;have:=ha.1;unfold mk at this;have:=Nat.two_pow_pos (8*m.word).toNat;omega
theorem z00t (x:Nat):ocR x<=64:=(zm6 x _ rfl _ rfl _ rfl _ rfl).2
theorem zzp (m:Mach) (o:MOper) (hb:∀ b∈m.banks,b.regs.length<=64):valR m o<18446744073709551616:=by
 unfold valR;split
 ·cases hq:m.banks[o.bank.toNat]? with
  | none=>simp
  | some b=>have:=hb b (List.mem_of_getElem? hq);simp;omega
 ·exact Nat.mod_lt _ (by omega)
end Go.Proofs.YtofhpahihneipaaGreatDoor
namespace Go.Proofs.YtofhpahihneipaaGreatDoor
open Go.RowKit Go.Instr
set_option maxRecDepth 100000
theorem zx2 (k:Nat):wrap64 (k:Int)%128=((k%128:Nat):Int):=by have h:∃ t:Int,wrap64 (k:Int)=(k:Int)-18446744073709551616*t:=⟨((k:Int)+9223372036854775808) / 18446744073709551616,by unfold wrap64;omega⟩;obtain ⟨t,ht⟩:=h;rw [ht];omega
theorem zd7 (x:Nat) (hx:x<18446744073709551616) (w:World):
 Calls prog 49 #[.int .u64 x] w fun e w'=>e=.returned (.int .i64 (ones 8 x:Nat))/\w=w':=by
 have hs:=zty 8 x;obtain ⟨a1,ha1⟩:∃ a,x / 2&&&mm 85 8=a:=⟨_,rfl⟩;obtain ⟨a2,ha2⟩:∃ a,x&&&mm 85 8=a:=⟨_,rfl⟩;have hb:s1 8 x=a1+a2:=by unfold s1;rw [ha1,ha2]
 rw [hb] at hs;obtain ⟨b,hb2⟩:∃ b,a1+a2=b:=⟨_,rfl⟩;rw [hb2] at hs;obtain ⟨a3,ha3⟩:∃ a,b / 4&&&mm 51 8=a:=⟨_,rfl⟩;obtain ⟨a4,ha4⟩:∃ a,b&&&mm 51 8=a:=⟨_,rfl⟩;have hc:s2 8 b=a3+a4:=by unfold s2;rw [ha3,ha4]
 rw [hc] at hs;obtain ⟨c,hc2⟩:∃ b,a3+a4=b:=⟨_,rfl⟩;rw [hc2] at hs;have m1:mm 85 8=6148914691236517205:=by decide
 have m2:mm 51 8=3689348814741910323:=by decide
 have m3:mm 15 8=1085102592571150095:=by decide
 have l1:a1<=6148914691236517205:=by rw [<- ha1,m1];exact Nat.and_le_right
 have l2:a2<=6148914691236517205:=by rw [<- ha2,m1];exact Nat.and_le_right
 have l3:a3<=3689348814741910323:=by rw [<- ha3,m2];exact Nat.and_le_right
 have l4:a4<=3689348814741910323:=by rw [<- ha4,m2];exact Nat.and_le_right
 obtain ⟨d,hd⟩:∃ d,c / 16+c=d:=⟨_,rfl⟩;have ld:d<18446744073709551616:=by omega
 obtain ⟨e,he⟩:∃ e,d&&&mm 15 8=e:=⟨_,rfl⟩;have he2:s3 8 c=e:=by unfold s3;rw [hd,he]
 rw [he2] at hs;obtain ⟨f,hf⟩:∃ f,(e+e / 256)%18446744073709551616=f:=⟨_,rfl⟩;obtain ⟨g,hg⟩:∃ z,(f+f / 65536)%18446744073709551616=z:=⟨_,rfl⟩;obtain ⟨k,hk⟩:∃ z,(g+g / 4294967296)%18446744073709551616=z:=⟨_,rfl⟩;obtain ⟨o1,o2⟩:=zm6 x e hs.symm f hf g hg k hk;rw [m1] at ha1 ha2;rw [m2] at ha3 ha4;rw [m3] at he;have h1:bits .and .u64 ((x:Int) / 2) 6148914691236517205=(a1:Nat):=by have:=z9h (x / 2) 6148914691236517205 a1 (by omega) (by omega) ha1;simpa using this
 have h2:bits .and .u64 (x:Int) 6148914691236517205=(a2:Nat):=z9h x 6148914691236517205 a2 hx (by omega) ha2;have h3:IntKind.u64.wrap ((a1:Int)+(a2:Int))=(b:Nat):=by have:=z3h (a1+a2) b (by omega);simpa using this
 have h4:bits .and .u64 ((b:Int) / 4) 3689348814741910323=(a3:Nat):=by have:=z9h (b / 4) 3689348814741910323 a3 (by omega) (by omega) ha3;simpa using this
 have h5:bits .and .u64 (b:Int) 3689348814741910323=(a4:Nat):=z9h b 3689348814741910323 a4 (by omega) (by omega) ha4;have h6:IntKind.u64.wrap ((a3:Int)+(a4:Int))=(c:Nat):=by have:=z3h (a3+a4) c (by omega);simpa using this
 have h7:IntKind.u64.wrap ((c:Int) / 16+(c:Int))=(d:Nat):=by have:=z3h (c / 16+c) d (by omega);simpa using this
 have h8:bits .and .u64 (d:Int) 1085102592571150095=(e:Nat):=z9h d 1085102592571150095 e ld (by omega) he;have h9:IntKind.u64.wrap ((e:Int)+(e:Int) / 256)=(f:Nat):=by have:=z3h (e+e / 256) f hf;simpa using this
 have h10:IntKind.u64.wrap ((f:Int)+(f:Int) / 65536)=(g:Nat):=by have:=z3h (f+f / 65536) g hg;simpa using this
 have h11:IntKind.u64.wrap ((g:Int)+(g:Int) / 4294967296)=(k:Nat):=by have:=z3h (g+g / 4294967296) k hk;simpa using this
 have HO:=hid o1;have HK:=hid (show k<18446744073709551616 by omega);rw [<- o1];clear hs ha1 ha2 hb hb2 ha3 ha4 hc hc2 m1 m2 m3 l1 l2 l3 l4 hd ld he he2 hf hg hk o1 o2 hx;have h12:bits .and .i64 (wrap64 (k:Int)) 127=((k%128:Nat):Int):=by rw [i64_and127];exact zx2 k
 go_enter Tryz.func49,Tryz.ntmps49
 go_wp2
 exact bodyPost_ret (v:=.int .i64 ((k%128:Nat):Int)) (by simp [results,Tryz.results49,go_sem]) rfl ⟨rfl,rfl⟩
def InsV (w:World) (v:Value) (i:MIns):Prop:=∃ cs,v=.agg cs/\insE w cs.toList i
theorem InsV.kept {w w':World} {v:Value} {x:MIns} (h:InsV w v x) (hb:Below w.heap.size w w'):InsV w' v x:=by obtain ⟨cs,hc,h0⟩:=h;exact ⟨cs,hc,h0.kept hb⟩
def zug (m:Mach) (i:MIns):Prop:=(1<=m.word/\m.word<=4)/\i.opers.length<=4/\(∀ o∈i.opers,z1q (8*m.word) o.pieces)/\(∀ o∈i.opers,o.kind=1->o.tied= -1->0<=o.bank/\∃ b,m.banks[o.bank.toNat]? =some b)/\(∀ b∈m.banks,b.regs.length<=64)/\m.banks.length<=16
theorem zls {m:Mach} (h:chkR m=0) {i:MIns} (hi:i∈m.instrs):zug m i:=by
 obtain ⟨h1,h2,_,_,_,h3,h4⟩:=z3d h hi;have hl:=z3l (z30 h).1;refine ⟨h1,h2,h3,fun o ho hk ht=>?_,hl.2.2.2.1,hl.2.2.1⟩;obtain ⟨before,hb⟩:=h4 o ho;unfold z4j at hb;rw [if_pos hk] at hb;by_cases hb0:0<=o.bank
 ·rw [if_pos hb0] at hb
  cases hq:m.banks[o.bank.toNat]? with
  | none=>rw [hq] at hb;cases hb
  | some b=>exact ⟨hb0,b,rfl⟩
 ·rw [if_neg hb0] at hb;cases hb
def z4p (l:List MOper) (j:Nat):Nat:=z6q (l.take j)
theorem znx {l:List MOper} {j:Nat} {o:MOper} (h:l[j]? =some o):z4p l (j+1)=z4p l j|||z3e 0 o.pieces:=by
 have ht:l.take (j+1)=l.take j++[o]:=by rw [List.take_add_one,h];rfl
 unfold z4p z6q;rw [ht,List.foldl_append];rfl
theorem z9w {n:Nat}:∀ (l:List MOper) (a:Nat),a<2^n->(∀ o∈l,z3e 0 o.pieces<2^n)->l.foldl (fun a o=>a|||z3e 0 o.pieces) a<2^n
 | [],a,ha,_=>ha
 | o::l,a,ha,h=>z9w l _ (Nat.or_lt_two_pow ha (h o (by simp))) fun q hq=>h q (by simp [hq])
theorem zlp {l:List MOper} {size:Int} (h:∀ o∈l,z1q size o.pieces) (j:Nat):z4p l j<4294967296:=
 z9w (n:=32) _ 0 (by omega) fun o ho=>(h o (List.mem_of_mem_take ho)).mask_lt
structure ShAt (K:Nat) (w W:World) (cm ci:Array Value) (sz:Int) (mt fr:Nat) (F:Value):Prop where
 bel:Below K w W
 size:K+4<=W.heap.size
 b0:W.heap[K]? =some (.cells cm 27)
 b1:W.heap[K+1]? =some (.cells ci 60)
 b2:W.heap[K+2]? =some (.cells #[.int .i64 0,.int .u64 0,.int .u64 0,.slice none 0 0] 76)
 b3:W.heap[K+3]? =some (.cells #[.int .i64 sz,.int .u64 mt,.int .u64 fr,F] 76)
theorem ShAt.later {K:Nat} {w W W':World} {cm ci:Array Value} {sz:Int} {mt fr:Nat} {F:Value} (h:ShAt K w W cm ci sz mt fr F) (hb:Below (K+4) W W'):ShAt K w W' cm ci sz mt fr F:=
 ⟨h.bel.trans (hb.mono (by omega)),Nat.le_trans h.size hb.size,(hb.block _ (by omega)).trans h.b0,(hb.block _ (by omega)).trans h.b1,(hb.block _ (by omega)).trans h.b2,(hb.block _ (by omega)).trans h.b3⟩
theorem ShAt.free {K:Nat} {w W:World} {cm ci:Array Value} {sz:Int} {mt fr:Nat} {F:Value} (h:ShAt K w W cm ci sz mt fr F) (fr':Nat):ShAt K w (W.setCell ⟨K+3,2,none⟩ (.int .u64 fr')) cm ci sz mt fr' F:=
 ⟨h.bel.trans ((Below.refl K W).setCell (p:=⟨K+3,2,none⟩) (by show K<=K+3;omega) _),by simpa [World.setCell] using h.size,(Below.heap_setCell _ _ _ _ (by show K≠K+3;omega)).trans h.b0,(Below.heap_setCell _ _ _ _ (by show K+1≠K+3;omega)).trans h.b1,(Below.heap_setCell _ _ _ _ (by show K+2≠K+3;omega)).trans h.b2,by have:=heap_setCell_same W (K+3) 2 _ _ (.int .u64 fr') h.b3;simpa using this⟩
theorem ShAt.flds {K:Nat} {w W:World} {cm ci:Array Value} {sz:Int} {mt fr:Nat} {F:Value} (h:ShAt K w W cm ci sz mt fr F) (F':Value):ShAt K w (W.setCell ⟨K+3,3,none⟩ F') cm ci sz mt fr F':=
 ⟨h.bel.trans ((Below.refl K W).setCell (p:=⟨K+3,3,none⟩) (by show K<=K+3;omega) _),by simpa [World.setCell] using h.size,(Below.heap_setCell _ _ _ _ (by show K≠K+3;omega)).trans h.b0,(Below.heap_setCell _ _ _ _ (by show K+1≠K+3;omega)).trans h.b1,(Below.heap_setCell _ _ _ _ (by show K+2≠K+3;omega)).trans h.b2,by have:=heap_setCell_same W (K+3) 3 _ _ F' h.b3;simpa using this⟩
theorem ShAt.fz {K:Nat} {w W:World} {cm ci:Array Value} {sz:Int} {mt fr:Nat} {F:Value} (h:ShAt K w W cm ci sz mt fr F) (j:Nat):W.frozen? ⟨K+3,j,none⟩=false:=frozen_of_row W (K+3) j _ _ h.b3
theorem zvg:(prog.info? 106).map (fun i=>(i.zero,i.size,i.bytes))=some (some (.agg #[.slice none 0 0,.int .u64 0]),2,32):=by kernel_rfl
theorem zas (W:World) (u v:Value) (t:TypeId):∀ B,W.heap.size=B->∀ (j:Nat) (x:Value),([u,v]:List Value)[j]? =some x->(W.alloc (.cells #[u,v] t)).cell? ((⟨B,0,none⟩:Addr).add j)=some x:=by
 rintro _ rfl j x hx
 match j,hx with
 | 0,hx=>obtain rfl:u=x:=by simpa using hx
         exact zj rfl rfl
 | 1,hx=>obtain rfl:v=x:=by simpa using hx
         exact zj rfl rfl
 | j+2,hx=>simp at hx
theorem zwp {w:World} {k:Nat} {p q r s:Value} {t:TypeId} (h:w.heap[k]? =some (.cells #[p,q,r,s] t)) (a b c d:Value):((((w.setCell ⟨k,0,none⟩ a).setCell ⟨k,1,none⟩ b).setCell ⟨k,2,none⟩ c).setCell ⟨k,3,none⟩ d).heap[k]? =some (.cells #[a,b,c,d] t):=by have h1:=heap_setCell_same w k 0 _ _ a h;have h2:=heap_setCell_same _ k 1 _ _ b h1;have h3:=heap_setCell_same _ k 2 _ _ c h2;have h4:=heap_setCell_same _ k 3 _ _ d h3;simpa using h4
def ShpO (B:Nat) (w0 w:World) (v:Value) (s:Shp):Prop:=∃ sf C,v=.agg #[.int .i64 s.size,.int .u64 (s.mtch:Nat),.int .u64 (s.free:Nat),sf]/\(1<=s.size/\s.size<=32)/\s.mtch<18446744073709551616/\s.free<18446744073709551616/\w.ownsRow B 106 2 sf s.fields.length C.flatten/\z48 2 fldE w0 C s.fields/\s.fields.length<=4
theorem ShpO.shp {B:Nat} {w0 w:World} {v:Value} {s:Shp} (h:ShpO B w0 w v s) (hb:Below w0.heap.size w0 w):ShpV w v s:=by obtain ⟨sf,C,h1,h2,h3,h4,h5,h6,h7⟩:=h;exact ⟨sf,h1,h2,h3,h4,zdf h5 (h6.kept fun cs x hx=>hx.kept hb) (by unfold maxLen;omega)⟩
theorem zaj (w0 w:World) (hb0:Below w0.heap.size w0 w) (v vi:Value) (m:Mach) (hm:z1j w0 v m) (i:MIns) (hi:InsV w0 vi i) (hok:zug m i):
 Calls prog 23 #[v,vi] w fun e w'=>∃ sv,e=.returned sv/\ShpO w.heap.size w0 w' sv (z1p m i)/\Below w.heap.size w w':=by
 obtain ⟨hwd,hno,hP,hBk,hb64,hb16⟩:=hok;obtain ⟨cs0,rfl,sr,sb,su,si,hcs,h1,h2,h3,hR,hB,hU,hI⟩:=hm;obtain rfl:cs0= #[.string m.name,.int .i64 m.word,.int .i64 m.address,sr,sb,su,si]:=by cases cs0;simp_all
 obtain ⟨ci0,rfl,so,se,hci,k1,k2,k3,hO,hE,k4,k5,k6,k7⟩:=hi;obtain rfl:ci0= #[.string i.name,.int .u64 (i.mask:Nat),.int .u64 (i.mtch:Nat),so,se,.int .i64 i.unit,.int .i64 i.busy,.int .i64 i.lat,.int .i64 i.slots]:=by cases ci0;simp_all
 have HO:=hid hO;have HB:=hid hB;obtain ⟨Ab,cb,rfl,_⟩:=id hB;obtain ⟨Ao,co,rfl,_⟩:=id hO;obtain ⟨nb,hnb⟩:∃ z,m.banks.length=z:=⟨_,rfl⟩;obtain ⟨n,hn⟩:∃ z,i.opers.length=z:=⟨_,rfl⟩;have HN:=hid hn;have HNB:=hid hnb;rw [hn] at HO hno;rw [hnb] at HB hb16;rw [hn,hnb];obtain ⟨cm,hcm⟩:∃ z:Array Value,z= #[.string m.name,.int .i64 m.word,.int .i64 m.address,sr,.slice Ab nb cb,su,si]:=⟨_,rfl⟩;obtain ⟨ci,hci2⟩:∃ z:Array Value,z= #[.string i.name,.int .u64 (i.mask:Nat),.int .u64 (i.mtch:Nat),.slice Ao n co,se,.int .i64 i.unit,.int .i64 i.busy,.int .i64 i.lat,.int .i64 i.slots]:=⟨_,rfl⟩;have s8:wrap64 (8*m.word)=8*m.word:=zg _ (by omega) (by omega);obtain ⟨K,hK⟩:∃ K,w.heap.size=K:=⟨_,rfl⟩;obtain ⟨L,hL⟩:∃ z,i.opers=z:=⟨_,rfl⟩;obtain ⟨sz,hsz⟩:∃ z,8*m.word=z:=⟨_,rfl⟩;obtain ⟨mt,hmt⟩:∃ z,i.mtch=z:=⟨_,rfl⟩;rw [hL] at HO HN hP hBk;rw [hsz] at hP;have s9:wrap64 (8*m.word)=sz:=by rw [s8,hsz]
 have HP:=hid hP;have HBK:=hid hBk;have HB64:=hid hb64;obtain ⟨FL,hFL⟩:∃ z,(z1p m i).fields=z:=⟨_,rfl⟩;have HFL:=hid (show FL=L.map fun o=>⟨o.pieces,valR m o⟩ by rw [<- hFL,<-hL];rfl);have HSH:=hid (show z1p m i=⟨sz,mt,z4p L n,FL⟩ by rw [<- hFL,<-hsz,<-hmt,<-HN.out,<-hL];unfold z4p;rw [List.take_length];rfl)
 have HSZ:=hid (show 1<=sz/\sz<=32 by omega);have HMT:=hid (show mt<18446744073709551616 by rw [<- hmt];exact k3);obtain ⟨W4,hW4⟩:∃ z,z=(((w.alloc (.cells cm 27)).alloc (.cells ci 60)).alloc (.cells #[.int .i64 0,.int .u64 0,.int .u64 0,.slice none 0 0] 76)).alloc (.cells #[.int .i64 sz,.int .u64 (mt:Nat),.int .u64 0,.slice none 0 0] 76):=⟨_,rfl⟩;have hS4:ShAt K w W4 cm ci sz mt 0 (.slice none 0 0):=by
  subst hW4;refine ⟨?_,by simp [hK],?_,?_,?_,?_⟩
  ·exact ((((Below.refl K w).alloc (by omega) _).alloc (by simp [hK]) _).alloc (by simp [hK]<;>omega) _).alloc (by simp [hK]<;>omega) _
  ·rw [Below.heap_alloc _ _ _ (by simp [hK]<;>omega),Below.heap_alloc _ _ _ (by simp [hK]<;>omega),Below.heap_alloc _ _ _ (by simp [hK]),<-hK];exact heap_alloc_new _ _
  ·rw [Below.heap_alloc _ _ _ (by simp [hK]<;>omega),Below.heap_alloc _ _ _ (by simp [hK])];have:=heap_alloc_new (w.alloc (.cells cm 27)) (.cells ci 60);simpa [hK] using this
  ·rw [Below.heap_alloc _ _ _ (by simp [hK])];have:=heap_alloc_new ((w.alloc (.cells cm 27)).alloc (.cells ci 60)) (.cells #[.int .i64 0,.int .u64 0,.int .u64 0,.slice none 0 0] 76);simpa [hK] using this
  ·have:=heap_alloc_new (((w.alloc (.cells cm 27)).alloc (.cells ci 60)).alloc (.cells #[.int .i64 0,.int .u64 0,.int .u64 0,.slice none 0 0] 76)) (.cells #[.int .i64 sz,.int .u64 (mt:Nat),.int .u64 0,.slice none 0 0] 76);simpa [hK] using this
 have HS4:=hid hS4;have HW4:=hid hW4;have HCM:=hid hcm;rw [hmt] at hci2;have HCI:=hid hci2;rw [hmt,HSH.out];clear s8;obtain ⟨i0,hi0,hz0,hz1,hz2⟩:=info_parts zvg;have HI0:=hid hi0;have HZ0:=hid hz0;have HZ1:=hid hz1;have HZ2:=hid hz2;have hn4:n<=9223372036854775807:=by omega
 have HN4:=hid hno;have HKB:=hid (show ∀ X,Below K w X->Below w0.heap.size w0 X from fun X hX=>hb0.trans (hX.mono (by rw [<- hK];exact hb0.size)));have HKB2:=hid (show ∀ X,Below K w X->Below w.heap.size w X from fun X hX=>by rw [hK];exact hX);clear hb0 hcs hci h1 h2 h3 hR hB hU hI k1 k2 k3 hO hE k4 k5 k6 k7 hn hnb hP hBk hb64 hL hsz hmt hFL hS4 hW4 hcm hci2 hi0 hz0 hz1 hz2 hwd;go_enter Tryz.func23,Tryz.ntmps23
 go_wp2
 have e4:=HW4.out;rw [HCM.out,HCI.out] at e4;rw [<- e4,show K+1+1+1=K+3 from rfl,show K+1+1=K+2 from rfl,s9];clear e4 s9;go_loopw [20] (fun vi wr=>∃ j:Nat,vi=.int .i64 j/\j<=n/\Hid (∃ C F,ShAt K w wr cm ci sz mt (z4p L j) F/\wr.ownsRow (K+4) 106 2 F j C.flatten/\z48 2 fldE w0 C (FL.take j))) (fun vi _=>n-(intOf vi).toNat)
 case atStart=>exact ⟨0,rfl,Nat.zero_le _,hid ⟨[],.slice none 0 0,HS4.out,World.ownsRow_nil _ _ _ _,z48.nil⟩⟩
 case round=>
  obtain ⟨j,rfl,hj,HJ⟩:=hrel;obtain ⟨C,F,hS,hown,hOw⟩:=HJ.out;obtain ⟨Af,nf,cf,rfl⟩:∃ A k c,F=.slice A k c:=by
   rcases hown.2 with ⟨h,_⟩|⟨g,cap,cur,h,_⟩
   ·exact ⟨_,_,_,h⟩
   ·exact ⟨_,_,_,h⟩
  have HS:=hid hS;have HOWN:=hid hown;have HOW:=hid hOw;by_cases hlt:j<n
  ·obtain ⟨o,ho⟩:∃ x,L[j]? =some x:=⟨_,List.getElem?_eq_getElem (by rw [HN.out];exact hlt)⟩;have hom:=List.mem_of_getElem? ho;have hbw:=HKB.out _ hS.bel;obtain ⟨A',c',e1,_,_,_,hall⟩:=HO.out;obtain ⟨b,off,cs,e2,hb,hcl,hcell,hEo⟩:=hall j o ho;obtain ⟨rfl,rfl⟩:Ao=A'/\co=c':=by cases e1;exact ⟨rfl,rfl⟩
   subst e2;obtain ⟨sp,hcs,hon,hok,hob,hos,hop,hot⟩:=hEo;obtain ⟨Ap,cp,hsp,hp1,hp2,hp3⟩:=zbz hop;subst hsp;have hPO:=HP.out o hom;obtain ⟨lp,hlp⟩:∃ z,o.pieces.length=z:=⟨_,rfl⟩;have hcw:∀ k u,cs[k]? =some u->wr.cell? ⟨b,off+j*6+k,none⟩=some u:=fun k u hk=>by rw [hbw.cell hb];exact hcell k u hk
   subst hcs;rw [hlp] at hcw;have c0:wr.cell? ⟨b,off+j*6,none⟩=some (.string o.name):=by simpa using hcw 0 _ rfl
   have c1:wr.cell? ⟨b,off+j*6+1,none⟩=some (.int .u8 (o.kind:Nat)):=hcw 1 _ rfl;have c2:wr.cell? ⟨b,off+j*6+2,none⟩=some (.int .i64 o.bank):=hcw 2 _ rfl;have c3:wr.cell? ⟨b,off+j*6+3,none⟩=some (.int .i64 o.scale):=hcw 3 _ rfl;have c4:wr.cell? ⟨b,off+j*6+4,none⟩=some (.slice Ap lp cp):=hcw 4 _ rfl;have c5:wr.cell? ⟨b,off+j*6+5,none⟩=some (.int .i64 o.tied):=hcw 5 _ rfl;obtain ⟨W5,hW5⟩:∃ z,z=wr.alloc (.cells #[.string o.name,.int .u8 (o.kind:Nat),.int .i64 o.bank,.int .i64 o.scale,.slice Ap lp cp,.int .i64 o.tied] 63):=⟨_,rfl⟩;obtain ⟨T,hT⟩:∃ z,wr.heap.size=z:=⟨_,rfl⟩;have hT4:K+4<=T:=by rw [<- hT];exact hS.size
   have hb5:Below T wr W5:=by rw [hW5];exact (Below.refl _ _).alloc (by omega) _
   have hs5:W5.heap.size=T+1:=by rw [hW5];simp [hT]
   have hblk5:W5.heap[T]? =some (.cells #[.string o.name,.int .u8 (o.kind:Nat),.int .i64 o.bank,.int .i64 o.scale,.slice Ap lp cp,.int .i64 o.tied] 63):=by rw [hW5,<-hT];exact heap_alloc_new _ _
   have hS5:=hS.later (hb5.mono hT4);have q0:=zb hS5.b3 (i:=0) rfl;have d4:=zb hblk5 (i:=4) rfl;obtain ⟨mk0,hmk⟩:∃ z,z3e 0 o.pieces=z:=⟨_,rfl⟩;have hmlt:mk0<4294967296:=by rw [<- hmk];exact hPO.mask_lt
   have hflt:=zlp HP.out j;have hfr:z4p L (j+1)=z4p L j|||mk0:=by rw [znx ho,hmk]
   obtain ⟨f0,hf0⟩:∃ z,z4p L j=z:=⟨_,rfl⟩;have hbK:Below w0.heap.size w0 W5:=hbw.trans (hb5.mono (by have:=hbw.size;omega));have HMK:=hid ((zly sz Ap cp o.pieces W5 (hp3.1.later hbK) hp3.2 hp1 hp2).mono (R':=fun e w'=>e=.returned (.tuple #[.int .u64 (mk0:Nat),.int .i64 0])/\Below W5.heap.size W5 w') fun e w' ⟨g1,g2⟩=>⟨by rw [g1,hPO.mask,hmk],g2⟩);rw [hlp] at HMK;rw [hW5] at HMK q0 d4;have HW5:=hid hW5;rw [hf0] at hflt hfr;have HFR:=hid hfr;have hor:bits .or .u64 (f0:Int) (mk0:Int)=((f0|||mk0:Nat):Int):=u64_or_nat f0 mk0 (by omega) (by omega);have HAFT:=hid (show ∀ X,Below W5.heap.size W5 X->ShAt K w X cm ci sz mt f0 (.slice Af nf cf)/\X.heap[T]? =some (.cells #[.string o.name,.int .u8 (o.kind:Nat),.int .i64 o.bank,.int .i64 o.scale,.slice Ap lp cp,.int .i64 o.tied] 63)/\X.ownsRow (K+4) 106 2 (.slice Af nf cf) j C.flatten/\T+1<=X.heap.size from fun X hX=>by rw [<- hf0];have h5:Below wr.heap.size wr W5:=(by rw [hT];exact hb5);exact ⟨hS5.later (hX.mono (by omega)),(hX.block _ (by omega)).trans hblk5,z1z (z1z HOWN.out h5) hX,by have:=hX.size;omega⟩)
   have HT:=hid hT;have HT4:=hid hT4;have HLT:=hid hlt;have hin:(j:Int)<(n:Int):=by omega
   have HO1:=hid ho;have HOP:=hid (show zd 2 z2g w0 (.slice Ap lp cp) o.pieces by rw [<- hlp];exact hop);have HLP:=hid hlp;have HMKE:=hid hmk;clear hS hown hOw HJ hall hcell hcw hcl e1 hb5 hs5 hblk5 hS5 hbK hW5 hfr hf0 hmk hlp hom hbw hPO hp1 hp2 hp3 hop hos hT;go_wp2_with (go_at_call 48;(with_reducible refine HMK.out.mono ?_);rintro e w6 ⟨rfl,hb6⟩;rw [<- HW5.out] at hb6;obtain ⟨g1,g2,g3,g4⟩:=HAFT.out _ hb6;have y2:=zb g1.b3 (i:=2) rfl;have y3:=g1.fz 2)
   rw [HT.out];obtain ⟨w7,hw7⟩:∃ z,z=w6.setCell ⟨K+3,2,none⟩ (.int .u64 ((f0|||mk0:Nat):Int)):=⟨_,rfl⟩;have n1:ShAt K w w7 cm ci sz mt (f0|||mk0) (.slice Af nf cf):=by rw [hw7];exact g1.free _
   have n2:w7.heap[T]? =some (.cells #[.string o.name,.int .u8 (o.kind:Nat),.int .i64 o.bank,.int .i64 o.scale,.slice Ap lp cp,.int .i64 o.tied] 63):=by rw [hw7,Below.heap_setCell _ _ _ _ (by show T≠K+3;have:=HT4.out;omega)];exact g2
   have n3:w7.ownsRow (K+4) 106 2 (.slice Af nf cf) j C.flatten:=by rw [hw7];exact ownsRow_setCell_below g3 (by show K+3<K+4;omega) _
   have n4:T+1<=w7.heap.size:=by rw [hw7];simpa [World.setCell] using g4
   rw [<- hw7];clear g1 g2 g3 g4 y2 y3 hw7 hb6 hor;obtain ⟨oc,hoc⟩:∃ z,ones 8 mk0=z:=⟨_,rfl⟩;have ho64:oc<=64:=by rw [<- hoc];exact z00t mk0
   have HOC:=hid (show ∀ X,Calls prog 49 #[.int .u64 mk0] X fun e w'=>e=.returned (.int .i64 (oc:Nat))/\X=w' from fun X=>by rw [<- hoc];exact zd7 mk0 (by omega) X);have HOCE:=hid hoc;have HN1:=hid n1;have HN2:=hid n2;have HN3:=hid n3;have d4:=zb n2 (i:=4) rfl;have d0:=zb n2 (i:=0) rfl;clear n1 n2 n3 q0;obtain ⟨U,hU⟩:∃ z,w7.heap.size=z:=⟨_,rfl⟩;obtain ⟨pv,hpw,hpv⟩:∃ z:Nat,IntKind.u64.wrap (2^oc)=(z:Int)/\z=2^oc%18446744073709551616:=⟨_,by have:=z3h (2^oc) _ rfl;simpa using this,rfl⟩;have HPV:=hid hpv;clear hpv;obtain ⟨qk,hqk⟩:∃ q,(((o.kind:Nat):Int)==1)=q:=⟨_,rfl⟩;obtain ⟨qt,hqt⟩:∃ q,(o.tied== -1)=q:=⟨_,rfl⟩;obtain ⟨okind,hokind⟩:∃ z:Int,((o.kind:Nat):Int)=z:=⟨_,rfl⟩;obtain ⟨X,hX⟩:∃ z,z=(w7.alloc (.cells #[.slice Ap lp cp,.int .u64 (pv:Nat)] 106)).drew:=⟨_,rfl⟩;have hbX:Below w7.heap.size w7 X:=by rw [hX];exact ((Below.refl _ _).alloc (Nat.le_refl _) _).drew
   have hUK:K+4<=U:=by have:=HT4.out;omega
   have x1:ShAt K w X cm ci sz mt (f0|||mk0) (.slice Af nf cf):=HN1.out.later (hbX.mono (by omega));have x2:=(hbX.block T (by omega)).trans HN2.out;have x3:X.ownsRow (K+4) 106 2 (.slice Af nf cf) j C.flatten:=z1z HN3.out hbX;have x4:X.heap[U]? =some (.cells #[.slice Ap lp cp,.int .u64 (pv:Nat)] 106):=by rw [hX,<-hU];exact heap_alloc_new _ _
   have x5:X.heap.size=U+1:=by rw [hX];simp [World.drew,hU]
   have HNEXT:=hid (show ∀ (Y:World) (val:Nat),ShAt K w Y cm ci sz mt (f0|||mk0) (.slice Af nf cf)->Y.ownsRow (K+4) 106 2 (.slice Af nf cf) j C.flatten->val=valR m o->∀ v' w9,w9.ownsRow (K+4) 106 2 v' (j+1) (C.flatten++[.slice Ap lp cp,.int .u64 (val:Nat)])->(Y.alloc (.cells #[.slice Ap lp cp,.int .u64 (val:Nat)] 106)).grownBy w9 (Value.slice Af nf cf).ownBlock->
    ShAt K w w9 cm ci sz mt (f0|||mk0) (.slice Af nf cf)/\∃ C2 F2,ShAt K w (w9.setCell ⟨K+3,3,none⟩ v') cm ci sz mt (z4p L (j+1)) F2/\(w9.setCell ⟨K+3,3,none⟩ v').ownsRow (K+4) 106 2 F2 (j+1) C2.flatten/\z48 2 fldE w0 C2 (FL.take (j+1)) from fun Y val hY hoY hval v' w9 h9 hg=>by
    have hb9:Below (K+4) Y w9:=((Below.refl _ _).alloc hY.size _).grown hg (by have:=hY.size;simp;omega) (fun r hr=>(hoY.lt r hr).1);have hS9:=hY.later hb9;refine ⟨hS9,C++[[.slice Ap lp cp,.int .u64 (val:Nat)]],v',?_,?_,?_⟩
    ·rw [HFR.out];exact hS9.flds v'
    ·rw [List.flatten_append];refine ownsRow_setCell_below ?_ (by show K+3<K+4;omega) _;simpa using h9
    ·have ht:FL.take (j+1)=FL.take j++[⟨o.pieces,valR m o⟩]:=by
      rw [List.take_add_one,HFL.out,List.getElem?_map,HO1.out];rfl
     rw [ht];refine HOW.out.snoc rfl ⟨_,by rw [hval],HOP.out,?_⟩;exact zzp m o HB64.out)
   have HREG:=hid (show (okind==1)=true->(o.tied== -1)=true->∃ (bk lr:Nat) (Ar:Option Addr) (cr Bb ob:Nat),o.bank=(bk:Int)/\bk<nb/\Ab=some ⟨Bb,ob,none⟩/\X.cell? ⟨Bb,ob+bk*2+1,none⟩=some (.slice Ar lr cr)/\lr=valR m o/\lr<=64 from fun g1 g2=>by
    rw [<- hokind] at g1;have g3:o.kind=1:=by have:((o.kind:Nat):Int)=1:=(by simpa using g1);omega
    have g4:o.tied= -1:=(by simpa using g2);obtain ⟨g5,B,g6⟩:=HBK.out o (List.mem_of_getElem? HO1.out) g3 g4;obtain ⟨A9,c9,e9,_,_,_,hall⟩:=HB.out;obtain ⟨Bb,ob,cs9,e10,hb9,hl9,hc9,hE9⟩:=hall _ B g6;obtain ⟨sr9,hcs9,_,Ar,cr,hsr,_⟩:=hE9;obtain rfl:Ab=A9:=by cases e9;rfl
    subst hcs9;subst hsr;refine ⟨o.bank.toNat,B.regs.length,Ar,cr,Bb,ob,by omega,?_,e10,?_,?_,HB64.out B (List.mem_of_getElem? g6)⟩
    ·rw [<- HNB.out];exact (List.getElem?_eq_some_iff.1 g6).1
    ·have:=hc9 1 _ rfl;rw [(HKB.out _ x1.bel).cell hb9];exact this
    ·unfold valR;rw [if_pos ⟨g3,g4⟩,g6];rfl)
   have X5:=hid (show ∀ u,(X.setCell ⟨U,1,none⟩ u).ownsRow (K+4) 106 2 (.slice Af nf cf) j C.flatten from fun u=>ownsRow_setCell_other x3 (a:=⟨U,1,none⟩) (by intro e;have:=(HN3.out.lt U e).2;omega) u)
   have d1:=zb x2 (i:=1) rfl;have d2:=zb x2 (i:=2) rfl;have k4:=zb x1.b0 (i:=4) (by rw [HCM.out];rfl);have d5:=zb x2 (i:=5) rfl;rw [hokind] at d1 hqk;have HQK:=hid hqk;have HOKI:=hid hokind;have HQT:=hid hqt;have u0:=zb x4 (i:=0) rfl;have u1:=zb x4 (i:=1) rfl;have t3:=zb x1.b3 (i:=3) rfl;have X1:=hid x1;have X2:=hid x2;have X3:=hid x3;have X4:=hid x4;have HX:=hid hX;clear x1 x2 x3 x4 hbX hX
   first|(go_region_held3 (fun w'=>w'.cell? ⟨T,4,none⟩=some (.slice Ap lp cp))
    (first|assumption|go_keep)
    (first|(go_at_call 49;go_loud ((with_reducible refine (HOC.out _).mono ?_);rintro e w8 ⟨rfl,rfl⟩))))|fail "stood"
   all_goals (
    rw [<- HX.out]
    cases qk with
    | false=>
      have hvv:pv=valR m o:=by have hk:=HQK.out;have e3:=HPV.out;unfold valR ocR;rw [if_neg (by rintro ⟨h1,_⟩;have h2:okind=1:=(by rw [<- HOKI.out,h1];rfl);rw [h2] at hk;cases hk),HMKE.out,HOCE.out];exact e3
      have HVV:=hid hvv;clear hvv;go_wp2_with (at_builtin;refine Hid.out ?_)
      refine hid ?_;refine wpList_append_own _ rfl _ _ 74 rfl (K+4) 106 i0 (.agg #[.slice none 0 0,.int .u64 0]) 2 32 Tryz.underlying74 HI0.out HZ0.out HZ1.out HZ2.out rfl (by decide) _ j C.flatten rfl (World.ownsRow.alloc X3.out _) ⟨_,0,none⟩ 1 1 [.slice Ap lp cp,.int .u64 (pv:Nat)] rfl rfl (zas _ _ _ _ _ (by first|exact x5|simpa [World.setCell] using x5)) (by intro u hu;simp at hu;rcases hu with rfl|rfl<;>rfl) (by have:=HN4.out;have:=HLT.out;unfold maxLen;omega) (by have:=HN4.out;have:=HLT.out;omega) (by have:=X1.out.size;simp;omega) ?_;intro v' w9 hown' hgrow _;obtain ⟨g9,c9,rfl⟩:=ownsRow_succ hown';obtain ⟨h9,C2,F2,h10,h11,h12⟩:=HNEXT.out X pv X1.out X3.out HVV.out _ w9 hown' hgrow;have HNX:=hid (show ∃ C F,ShAt K w (w9.setCell ⟨K+3,3,none⟩ (.slice (some ⟨g9,0,none⟩) (j+1) c9)) cm ci sz mt (z4p L (j+1)) F/\(w9.setCell ⟨K+3,3,none⟩ (.slice (some ⟨g9,0,none⟩) (j+1) c9)).ownsRow (K+4) 106 2 F (j+1) C.flatten/\z48 2 fldE w0 C (FL.take (j+1)) from ⟨C2,F2,h10,h11,h12⟩);have v3:=zb h9.b3 (i:=3) rfl;have v4:=h9.fz 3;clear hown' hgrow h9 h10 h11 h12;go_wp2
      go_roundw
      case rel=>exact ⟨j+1,by first|rfl|go_num|(congr 1),by have:=HLT.out;omega,HNX⟩
      case measure=>simp only [intOf];have:=HLT.out;omega
    | true=>
      cases qt with
      | false=>
        have hvv:pv=valR m o:=by have hk:=HQT.out;have e3:=HPV.out;unfold valR ocR;rw [if_neg (by rintro ⟨_,h1⟩;rw [h1] at hk;cases hk),HMKE.out,HOCE.out];exact e3
        have HVV:=hid hvv;clear hvv;go_wp2_with (at_builtin;refine Hid.out ?_)
        refine hid ?_;refine wpList_append_own _ rfl _ _ 74 rfl (K+4) 106 i0 (.agg #[.slice none 0 0,.int .u64 0]) 2 32 Tryz.underlying74 HI0.out HZ0.out HZ1.out HZ2.out rfl (by decide) _ j C.flatten rfl (World.ownsRow.alloc X3.out _) ⟨_,0,none⟩ 1 1 [.slice Ap lp cp,.int .u64 (pv:Nat)] rfl rfl (zas _ _ _ _ _ (by first|exact x5|simpa [World.setCell] using x5)) (by intro u hu;simp at hu;rcases hu with rfl|rfl<;>rfl) (by have:=HN4.out;have:=HLT.out;unfold maxLen;omega) (by have:=HN4.out;have:=HLT.out;omega) (by have:=X1.out.size;simp;omega) ?_;intro v' w9 hown' hgrow _;obtain ⟨g9,c9,rfl⟩:=ownsRow_succ hown';obtain ⟨h9,C2,F2,h10,h11,h12⟩:=HNEXT.out X pv X1.out X3.out HVV.out _ w9 hown' hgrow;have HNX:=hid (show ∃ C F,ShAt K w (w9.setCell ⟨K+3,3,none⟩ (.slice (some ⟨g9,0,none⟩) (j+1) c9)) cm ci sz mt (z4p L (j+1)) F/\(w9.setCell ⟨K+3,3,none⟩ (.slice (some ⟨g9,0,none⟩) (j+1) c9)).ownsRow (K+4) 106 2 F (j+1) C.flatten/\z48 2 fldE w0 C (FL.take (j+1)) from ⟨C2,F2,h10,h11,h12⟩);have v3:=zb h9.b3 (i:=3) rfl;have v4:=h9.fz 3;clear hown' hgrow h9 h10 h11 h12;go_wp2
        go_roundw
        case rel=>exact ⟨j+1,by first|rfl|go_num|(congr 1),by have:=HLT.out;omega,HNX⟩
        case measure=>simp only [intOf];have:=HLT.out;omega
      | true=>
        obtain ⟨bk,lr,Ar,cr,Bb,ob,hbk,hlt2,hAb,y1,hvv,hl64⟩:=HREG.out HQK.out HQT.out;have HVV:=hid hvv;subst hAb;rw [hbk] at d2;have hwl:IntKind.u64.wrap (lr:Int)=(lr:Int):=by have:=z3h lr lr (by omega);exact this
        have u0':=frozen_of_row X U 1 _ _ X4.out;have hin2:(bk:Int)<(nb:Int):=(by omega);have z1:ShAt K w (X.setCell ⟨U,1,none⟩ (.int .u64 (lr:Nat))) cm ci sz mt (f0|||mk0) (.slice Af nf cf):=X1.out.later ((Below.refl _ _).setCell (p:=⟨U,1,none⟩) (by show K+4<=U;omega) _);have z2:(X.setCell ⟨U,1,none⟩ (.int .u64 (lr:Nat))).ownsRow (K+4) 106 2 (.slice Af nf cf) j C.flatten:=X5.out _;have z3:(X.setCell ⟨U,1,none⟩ (.int .u64 (lr:Nat))).heap[U]? =some (.cells #[.slice Ap lp cp,.int .u64 (lr:Nat)] 106):=by have:=heap_setCell_same X U 1 _ _ (.int .u64 (lr:Nat)) X4.out;simpa using this
        have z4:=zb z3 (i:=0) rfl;have z5:=zb z3 (i:=1) rfl;have z6:=zb z1.b3 (i:=3) rfl;have Z1:=hid z1;have Z2:=hid z2;clear z1 z2 z3 hvv;go_wp2_with (at_builtin;refine Hid.out ?_)
        refine hid ?_;refine wpList_append_own _ rfl _ _ 74 rfl (K+4) 106 i0 (.agg #[.slice none 0 0,.int .u64 0]) 2 32 Tryz.underlying74 HI0.out HZ0.out HZ1.out HZ2.out rfl (by decide) _ j C.flatten rfl (World.ownsRow.alloc Z2.out _) ⟨_,0,none⟩ 1 1 [.slice Ap lp cp,.int .u64 (lr:Nat)] rfl rfl (zas _ _ _ _ _ (by first|exact x5|simpa [World.setCell] using x5)) (by intro u hu;simp at hu;rcases hu with rfl|rfl<;>rfl) (by have:=HN4.out;have:=HLT.out;unfold maxLen;omega) (by have:=HN4.out;have:=HLT.out;omega) (by have:=Z1.out.size;simp;omega) ?_;intro v' w9 hown' hgrow _;obtain ⟨g9,c9,rfl⟩:=ownsRow_succ hown';obtain ⟨h9,C2,F2,h10,h11,h12⟩:=HNEXT.out (X.setCell ⟨U,1,none⟩ (.int .u64 (lr:Nat))) lr Z1.out Z2.out HVV.out _ w9 hown' hgrow;have HNX:=hid (show ∃ C F,ShAt K w (w9.setCell ⟨K+3,3,none⟩ (.slice (some ⟨g9,0,none⟩) (j+1) c9)) cm ci sz mt (z4p L (j+1)) F/\(w9.setCell ⟨K+3,3,none⟩ (.slice (some ⟨g9,0,none⟩) (j+1) c9)).ownsRow (K+4) 106 2 F (j+1) C.flatten/\z48 2 fldE w0 C (FL.take (j+1)) from ⟨C2,F2,h10,h11,h12⟩);have v3:=zb h9.b3 (i:=3) rfl;have v4:=h9.fz 3;clear hown' hgrow h9 h10 h11 h12;go_wp2
        go_roundw
        case rel=>exact ⟨j+1,by first|rfl|go_num|(congr 1),by have:=HLT.out;omega,HNX⟩
        case measure=>simp only [intOf];have:=HLT.out;omega)
  ·obtain rfl:j=n:=by omega
   have q0:=zb hS.b3 (i:=0) rfl;have q1:=zb hS.b3 (i:=1) rfl;have q2:=zb hS.b3 (i:=2) rfl;have q3:=zb hS.b3 (i:=3) rfl;have r0:=zb hS.b2 (i:=0) rfl;have r1:=zb hS.b2 (i:=1) rfl;have r2:=zb hS.b2 (i:=2) rfl;have r3:=zb hS.b2 (i:=3) rfl;have z0:=frozen_of_row wr (K+2) 0 _ _ hS.b2;have z1:=frozen_of_row wr (K+2) 1 _ _ hS.b2;have z2:=frozen_of_row wr (K+2) 2 _ _ hS.b2;have z3:=frozen_of_row wr (K+2) 3 _ _ hS.b2;have HFIN:=hid (show ∀ a b c d,ShpO w.heap.size w0 ((((wr.setCell ⟨K+2,0,none⟩ a).setCell ⟨K+2,1,none⟩ b).setCell ⟨K+2,2,none⟩ c).setCell ⟨K+2,3,none⟩ d) (.agg #[.int .i64 sz,.int .u64 (mt:Nat),.int .u64 (z4p L j:Nat),.slice Af nf cf]) ⟨sz,mt,z4p L j,FL⟩/\Below w.heap.size w ((((wr.setCell ⟨K+2,0,none⟩ a).setCell ⟨K+2,1,none⟩ b).setCell ⟨K+2,2,none⟩ c).setCell ⟨K+2,3,none⟩ d) from fun a b c d=>by have hb:Below w.heap.size w ((((wr.setCell ⟨K+2,0,none⟩ a).setCell ⟨K+2,1,none⟩ b).setCell ⟨K+2,2,none⟩ c).setCell ⟨K+2,3,none⟩ d):=HKB2.out _ ((((hS.bel.setCell (p:=⟨K+2,0,none⟩) (by show K<=K+2;omega) _).setCell (p:=⟨K+2,1,none⟩) (by show K<=K+2;omega) _).setCell (p:=⟨K+2,2,none⟩) (by show K<=K+2;omega) _).setCell (p:=⟨K+2,3,none⟩) (by show K<=K+2;omega) _);have ho:=ownsRow_setCell_below (ownsRow_setCell_below (ownsRow_setCell_below (ownsRow_setCell_below hown (a:=⟨K+2,0,none⟩) (by show K+2<K+4;omega) a) (a:=⟨K+2,1,none⟩) (by show K+2<K+4;omega) b) (a:=⟨K+2,2,none⟩) (by show K+2<K+4;omega) c) (a:=⟨K+2,3,none⟩) (by show K+2<K+4;omega) d;have hlen:FL.length=j:=(by rw [HFL.out,List.length_map,HN.out]);rw [<- hlen,List.take_length] at hOw;rw [<- hlen] at ho;refine ⟨⟨_,C,rfl,HSZ.out,HMT.out,by have:=zlp HP.out j;show z4p L j<_;omega,by rw [hK];exact World.ownsRow.mono ho (by omega),hOw,by show FL.length<=4;have:=HN4.out;omega⟩,hb⟩)
   have HB2:=hid hS.b2;clear hS hown hOw HJ;go_wp2
   have e5:=zwp HB2.out (.int .i64 sz) (.int .u64 (mt:Nat)) (.int .u64 (z4p L j:Nat)) (.slice Af nf cf);have f0:=zb e5 (i:=0) rfl;have f1:=zb e5 (i:=1) rfl;have f2:=zb e5 (i:=2) rfl;have f3:=zb e5 (i:=3) rfl;refine bodyPost_ret (v:=.agg #[.int .i64 sz,.int .u64 (mt:Nat),.int .u64 (z4p L j:Nat),.slice Af nf cf]) (by simp [results,Tryz.results23,go_sem,f0,f1,f2,f3]) rfl ⟨_,rfl,HFIN.out _ _ _ _⟩
theorem zl0 (w:World) (v vi:Value) (m:Mach) (hm:z1j w v m) (i:MIns) (hi:InsV w vi i) (hok:zug m i):
 Calls prog 23 #[v,vi] w fun e w'=>∃ sv,e=.returned sv/\ShpV w' sv (z1p m i)/\Below w.heap.size w w':=
 (zaj w w (Below.refl _ _) v vi m hm i hi hok).mono fun e w' ⟨sv,h1,h2,h3⟩=>⟨sv,h1,h2.shp h3,h3⟩
theorem zrn (W:World) (s v:Value):∀ B,W.heap.size=B->(W.alloc (.cells #[s,v] 106)).cell? ⟨B,0,none⟩=some s/\(W.alloc (.cells #[s,v] 106)).cell? ⟨B,1,none⟩=some v:=by rintro _ rfl;simp only [World.cell?];rw [heap_alloc_new];exact ⟨rfl,rfl⟩
theorem zs5 (w:World) (v:Value) (s:Shp) (hv:ShpV w v s) (hok:zpx s) (x:Nat) (hx:x<2^s.size.toNat):
 Calls prog 24 #[v,.int .u64 x] w fun e w'=>e=.returned (.bool (hasR s x))/\Below w.heap.size w w':=by
 obtain ⟨sf,rfl,hsz,hm,hf,hF⟩:=hv;have hx64:x<18446744073709551616:=by have:=z4y hsz.2;omega
 have HF0:=hid hF;obtain ⟨A,c,rfl,hn1,hn2,hn3,_⟩:=hF;obtain ⟨r,hr⟩:∃ r,hasR s x=r:=⟨_,rfl⟩;rw [hr];obtain ⟨n,hn⟩:∃ n,s.fields.length=n:=⟨_,rfl⟩;have HN:=hid hn;rw [hn] at HF0 hn1 hn2 ⊢;obtain ⟨W1,hW1⟩:∃ W1,W1=w.alloc (.cells #[.int .i64 s.size,.int .u64 (s.mtch:Nat),.int .u64 (s.free:Nat),.slice A n c] 76):=⟨_,rfl⟩;have hb1:Below w.heap.size w W1:=by rw [hW1];exact (Below.refl _ _).alloc (Nat.le_refl _) _
 have hl1:w.heap.size<W1.heap.size:=by rw [hW1];simp
 have hblk1:W1.heap[w.heap.size]? =some (.cells #[.int .i64 s.size,.int .u64 (s.mtch:Nat),.int .u64 (s.free:Nat),.slice A n c] 76):=by rw [hW1];exact heap_alloc_new _ _
 have HQ:=hid (show ∀ X,Below W1.heap.size W1 X->X.cell? ⟨w.heap.size,0,none⟩=some (.int .i64 s.size)/\X.cell? ⟨w.heap.size,1,none⟩=some (.int .u64 (s.mtch:Nat))/\X.cell? ⟨w.heap.size,2,none⟩=some (.int .u64 (s.free:Nat))/\X.cell? ⟨w.heap.size,3,none⟩=some (.slice A n c) from fun X hX=>by have e1:=(hX.block _ hl1).trans hblk1;exact ⟨zb e1 rfl,zb e1 rfl,zb e1 rfl,zb e1 rfl⟩)
 have HGR:=hid (show ∀ X,Below W1.heap.size W1 X->Below w.heap.size w X from fun X hX=>hb1.trans (hX.mono hb1.size));have HRW:=hid (show ∀ X,Below W1.heap.size W1 X->zd 2 fldE X (.slice A n c) s.fields from fun X hX=>HF0.out.kept (fun cs x hx=>fldE.kept hx (HGR.out X hX)) (HGR.out X hX));have HGT:=hid (show ∀ (f:Fld) (sp:Value) X,f∈s.fields->zd 2 z2g X sp f.pieces->Calls prog 50 #[.int .i64 s.size,.int .u64 x,sp] X fun e w'=>e=.returned (.tuple #[.int .u64 (getN x f.pieces:Nat),.int .i64 0])/\Below X.heap.size X w' from fun f sp X hf hp=>by obtain ⟨Ap,cp,rfl,h1,h2,h3,h4⟩:=zbz hp;exact (zrv s.size x Ap cp f.pieces X h3 h4 h1 h2 hx64).mono fun e w' ⟨k1,k2⟩=>⟨by rw [k1,(hok.2 f hf).get hx],k2⟩)
 obtain ⟨q,hq⟩:∃ q,decide (x&&&(18446744073709551615-s.free)=s.mtch)=q:=⟨_,rfl⟩;have hr2:(q&&s.fields.all fun f=>decide (getN x f.pieces<f.values))=r:=by rw [<- hr,<-hq];rfl
 have HR2:=hid hr2;have hand:bits .andNot .u64 (x:Int) (s.free:Int)=((x&&&(18446744073709551615-s.free):Nat):Int):=u64_andNot_nat x s.free hx64 hf;obtain ⟨y,hy⟩:∃ y,(x&&&(18446744073709551615-s.free))=y:=⟨_,rfl⟩;rw [hy] at hand hq;obtain ⟨sm,hsm⟩:∃ z,s.mtch=z:=⟨_,rfl⟩;obtain ⟨sz,hsz2⟩:∃ z,s.size=z:=⟨_,rfl⟩;obtain ⟨sfr,hsf⟩:∃ z,s.free=z:=⟨_,rfl⟩;obtain ⟨L,hL⟩:∃ z,s.fields=z:=⟨_,rfl⟩;have hne:(((y:Nat):Int)!=((sm:Nat):Int))= !q:=by
  rw [<- hq,hsm];by_cases h:y=sm
  ·simp [h]
  ·have:¬ ((y:Int)=(sm:Int)):=by omega
   simp [h,bne,this]
 rw [hsf] at hand;rw [hL] at HRW HGT HN HR2;rw [hsm,hsz2,hsf] at HQ hblk1 hW1 ⊢;rw [hsz2] at HGT;have HW1:=hid hW1;have HAN:=hid hand;have HNE:=hid hne;have hn4:n<=9223372036854775807:=by have:=hok.1;rw [hL,HN.out] at this;omega
 have HF1:=hid (Below.refl W1.heap.size W1);obtain ⟨q0,q1,q2,q3⟩:=HQ.out _ HF1.out;rw [hW1] at q0 q1 q2 q3;have HX:=hid hx64;clear hr hr2 hn hW1 hb1 hl1 hblk1 hand hy hne hq hsm hsz2 hsf hL hx hok HF0 hn3 hm hf hsz hx64
 cases q with
 | false=>
   have h1:=HAN.out;have h2:=HNE.out;have hr3:r=false:=by rw [<- HR2.out];rfl
   subst hr3;go_enter Tryz.func24,Tryz.ntmps24
   go_wp2
   exact bodyPost_ret (v:=.bool false) (by simp [results,Tryz.results24,go_sem]) rfl ⟨rfl,HGR.out _ (by rw [HW1.out];exact Below.refl _ _)⟩
 | true=>
   have h1:=HAN.out;have h2:=HNE.out;have HG:=hid (show ((L.drop 0).all fun f=>decide (getN x f.pieces<f.values))=r by rw [<- HR2.out,List.drop_zero];rfl);go_enter Tryz.func24,Tryz.ntmps24
   go_wp2
   go_loopw [19] (fun vi wr=>∃ i:Nat,vi=.int .i64 i/\i<=n/\Hid (Below W1.heap.size W1 wr/\((L.drop i).all fun f=>decide (getN x f.pieces<f.values))=r)) (fun vi _=>n-(intOf vi).toNat)
   case atStart=>exact ⟨0,rfl,Nat.zero_le _,hid ⟨by rw [HW1.out];exact Below.refl _ _,HG.out⟩⟩
   case round=>
    obtain ⟨i,rfl,hi,HJ⟩:=hrel;clear q0 q1 q2 q3;obtain ⟨q0,q1,q2,q3⟩:=HQ.out _ HJ.out.1;by_cases hlt:i<n
    ·obtain ⟨f,hfi⟩:∃ x,L[i]? =some x:=⟨_,List.getElem?_eq_getElem (by rw [HN.out];exact hlt)⟩;obtain ⟨A',c',e1,_,_,_,hall⟩:=HRW.out wr HJ.out.1;obtain ⟨b,o,cs,e2,hb,hcl,hcell,hE⟩:=hall i f hfi;obtain ⟨rfl,rfl⟩:A=A'/\c=c':=by cases e1;exact ⟨rfl,rfl⟩
     subst e2;obtain ⟨sp,rfl,hsp,hval⟩:=hE;obtain ⟨Ap,cp,hspe,_⟩:=id hsp;obtain ⟨lf,hlf⟩:∃ z,f.pieces.length=z:=⟨_,rfl⟩;rw [hlf] at hspe;subst hspe;have c0:wr.cell? ⟨b,o+i*2,none⟩=some (.slice Ap lf cp):=(by simpa using hcell 0 _ rfl);have c1:wr.cell? ⟨b,o+i*2+1,none⟩=some (.int .u64 (f.values:Nat)):=hcell 1 _ rfl;have hd:L.drop i=f::L.drop (i+1):=by
      rw [List.drop_eq_getElem_cons (by rw [HN.out];exact hlt)]
      congr 1
      exact Option.some.inj ((List.getElem?_eq_getElem _).symm.trans hfi)
     have hj2:=HJ.out.2;rw [hd,List.all_cons] at hj2;have hJ1:=HJ.out.1;obtain ⟨W2,hW2⟩:∃ z,z=wr.alloc (.cells #[.slice Ap lf cp,.int .u64 (f.values:Nat)] 106):=⟨_,rfl⟩;have hb2:Below wr.heap.size wr W2:=(by rw [hW2];exact (Below.refl _ _).alloc (Nat.le_refl _) _);have hw2:Below W1.heap.size W1 W2:=hJ1.trans (hb2.mono hJ1.size);have hp2:zd 2 z2g W2 (.slice Ap lf cp) f.pieces:=hsp.kept (fun cs x hx=>z2g.kept hx hb2) hb2;have hl2:wr.heap.size<W2.heap.size:=(by rw [hW2];simp);have hblk2:W2.heap[wr.heap.size]? =some (.cells #[.slice Ap lf cp,.int .u64 (f.values:Nat)] 106):=(by rw [hW2];exact heap_alloc_new _ _);obtain ⟨d0,d1⟩:=zrn wr (.slice Ap lf cp) (.int .u64 (f.values:Nat)) _ rfl;obtain ⟨g,hg⟩:∃ g,getN x f.pieces=g:=⟨_,rfl⟩;obtain ⟨fv,hfv⟩:∃ g,f.values=g:=⟨_,rfl⟩;have HC2:=hid (show ∀ X,Below W2.heap.size W2 X->X.cell? ⟨wr.heap.size,1,none⟩=some (.int .u64 (fv:Nat)) from fun X hX=>by rw [<- hfv];exact zb ((hX.block _ hl2).trans hblk2) rfl)
     have HGE:=hid ((HGT.out f (.slice Ap lf cp) W2 (List.mem_of_getElem? hfi) hp2).mono (R':=fun e w'=>e=.returned (.tuple #[.int .u64 (g:Nat),.int .i64 0])/\Below W1.heap.size W1 w'/\Below W2.heap.size W2 w') fun e w' ⟨k1,k2⟩=>⟨by rw [k1,hg],hw2.trans (k2.mono hw2.size),k2⟩);rw [hW2] at HGE;have HW2:=hid hW2;rw [hg] at hj2;rw [hfv] at hj2 c1 d0 d1 HGE HW2 hval;obtain ⟨k,hk⟩:∃ k,decide (g<fv)=k:=⟨_,rfl⟩;rw [hk] at hj2;have hge:decide ((g:Int)≥(fv:Int))= !k:=by
      rw [<- hk];by_cases h:g<fv
      ·have h2:¬ ((g:Int)≥(fv:Int)):=(by omega);simp [h,h2]
      ·have h2:((g:Int)≥(fv:Int)):=(by omega);simp [h,h2]
     have HGG:=hid hge;have HJ2:=hid hj2;have HLT:=hid hlt;have hin:(i:Int)<(n:Int):=(by omega);have HVL:=hid hval;obtain ⟨q0',q1',q2',q3'⟩:=HQ.out _ hw2;rw [hW2,hfv] at q0' q1' q2' q3';clear hall hcell hfi e1 hcl hd hj2 hg hfv hk hge hJ1 hW2 hb2 hw2 hp2 hl2 hblk2 hsp HJ hval
     cases k with
     | false=>
       have hr2:r=false:=(by rw [<- HJ2.out];rfl);subst hr2;have hge:=HGG.out;have hge2:fv<=g:=(by simpa using hge);go_wp2_with (go_at_call 50;(with_reducible refine HGE.out.mono ?_);rintro e w4 ⟨rfl,hb4,hb5⟩;rw [<- HW2.out] at hb5;have e1:=HC2.out _ hb5)
       exact bodyPost_ret (v:=.bool false) (by simp [results,Tryz.results24,go_sem]) rfl ⟨rfl,HGR.out _ hb4⟩
     | true=>
       have hge:=HGG.out;have hge2:¬ fv<=g:=(by simpa using hge);go_wp2_with (go_at_call 50;(with_reducible refine HGE.out.mono ?_);rintro e w4 ⟨rfl,hb4,hb5⟩;rw [<- HW2.out] at hb5;have e1:=HC2.out _ hb5)
       go_roundw
       case rel=>exact ⟨i+1,by first|rfl|go_num|(congr 1),by have:=HLT.out;omega,hid ⟨hb4,by rw [<- HJ2.out,Bool.true_and]⟩⟩
       case measure=>simp only [intOf];have:=HLT.out;omega
    ·obtain rfl:i=n:=by omega
     have hj2:=HJ.out.2;rw [List.drop_eq_nil_of_le (by rw [HN.out];exact Nat.le_refl _)] at hj2;obtain rfl:r=true:=by rw [<- hj2];rfl
     have HJ1:=hid (HGR.out _ HJ.out.1);clear hj2 HJ;go_wp2
     exact bodyPost_ret (v:=.bool true) (by simp [results,Tryz.results24,go_sem]) rfl ⟨rfl,HJ1.out⟩
end Go.Proofs.YtofhpahihneipaaGreatDoor
