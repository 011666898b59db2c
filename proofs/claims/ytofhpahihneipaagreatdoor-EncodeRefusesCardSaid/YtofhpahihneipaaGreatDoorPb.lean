import Derived.Test.YtofhpahihneipaaGreatDoorPa
import Derived.Laws.BytesString
import Derived.Laws.Strings
import Derived.KernelRfl
import Derived.Laws.StructEq
import Derived.Calls
import Derived.Below
import Derived.LaidSub
set_option linter.unusedVariables false
set_option linter.unusedSimpArgs false
set_option warningAsError false
noncomputable section
namespace Go.Play
theorem zwz (z:Int) (m:Nat) (s:Bool):upTo z m s=true↔(z<=m/\(0<=z∨(s=true/\ -(m+1:Int)<=z))):=by
 cases z with
 | ofNat n=>
   show Nat.ble n m=true↔_;rw [Nat.ble_eq];show n<=m↔((n:Int)<=m/\(0<=(n:Int)∨_))
   omega
 | negSucc n=>
   have e:Int.negSucc n= -(n+1:Int):=by rfl
   show z01c s n m=true↔_
   cases s with
   | false=>
     show (false=true)↔_
     rw [e];simp<;>omega
   | true=>show Nat.ble n m=true↔_;rw [Nat.ble_eq,e];simp<;>omega
theorem zdo {k:IntKind} {z:Int} (h1:k.min<=z) (h2:z<=k.max):k.wrap z=z:=by
 cases k<;>simp only [IntKind.min,IntKind.max,IntKind.wrap,IntKind.bits,IntKind.signed,Bool.true_and,Bool.false_and,if_true,if_false,Bool.false_eq_true] at h1 h2 ⊢ <;>
  first
  | (rw [Int.emod_eq_of_lt (by omega) (by omega)])
  | (split<;>rename_i h3<;>simp only [decide_eq_true_eq,ge_iff_le,Nat.reduceSub,Int.reducePow] at * <;> omega)
theorem zbl {k:IntKind} {z:Int} (h:fits k z=true):k.min<=z/\z<=k.max:=by cases k<;>(have h':=(zwz z _ _).1 h;simp only [IntKind.min,IntKind.max,IntKind.bits,IntKind.signed,if_true,if_false,Bool.false_eq_true,false_and,or_false] at h' ⊢;omega)
theorem zmp (k:IntKind) (z:Int):zl9 k z=k.wrap z:=by
 unfold zl9
 cases h:fits k z with
 | true=>exact (zdo (zbl h).1 (zbl h).2).symm
 | false=>rfl
theorem z00c (a b:Int):iEq a b=(a==b):=by
 rw [Bool.eq_iff_iff,beq_iff_eq]
 cases a with
 | ofNat m=>cases b with
   | ofNat n=>show Nat.beq m n=true↔_;rw [Nat.beq_eq];simp<;>omega
   | negSucc n=>show false=true↔_;simp
 | negSucc m=>cases b with
   | ofNat n=>show false=true↔_;simp
   | negSucc n=>show Nat.beq m n=true↔_;rw [Nat.beq_eq];simp
theorem z00d (a b:Int):iLe a b=decide (a<=b):=by
 rw [Bool.eq_iff_iff,decide_eq_true_iff]
 cases a with
 | ofNat m=>cases b with
   | ofNat n=>show Nat.ble m n=true↔_;rw [Nat.ble_eq];simp
   | negSucc n=>show false=true↔_;have e:Int.negSucc n= -(n+1:Int):=rfl;rw [e];simp;omega
 | negSucc m=>cases b with
   | ofNat n=>show true=true↔_;have e:Int.negSucc m= -(m+1:Int):=rfl;rw [e];simp;omega
   | negSucc n=>show Nat.ble n m=true↔_;rw [Nat.ble_eq];have e:Int.negSucc n= -(n+1:Int):=rfl;have e':Int.negSucc m= -(m+1:Int):=rfl;rw [e,e'];omega
theorem zvq {k k':IntKind} (h:Nat.beq (kIdx k) (kIdx k')=true):k=k':=by cases k<;>cases k'<;>first|rfl|cases h
theorem zna:∀ (a b:List UInt8),z9m a b=(a==b):=by
 intro a
 induction a with
 | nil=>intro b;cases b<;>rfl
 | cons x a ih=>
   intro b
   cases b with
   | nil=>rfl
   | cons y b=>
     show Bool.rec (motive:=fun _=>(List UInt8->Bool)->List UInt8->Bool) (fun _ _=>false) (fun ih b=>ih b) (Nat.beq (UInt8.toNat x) (UInt8.toNat y)) (z9m a) b=_
     cases hb:Nat.beq (UInt8.toNat x) (UInt8.toNat y) with
     | true=>
       have e:x=y:=UInt8.toNat_inj.1 (Nat.eq_of_beq_eq_true hb);subst e;show z9m a b=_
       rw [ih];simp
     | false=>
       have hne:x≠y:=fun e=>by rw [e,Nat.beq_refl] at hb;cases hb
       simp [hne]
section
variable {P:Program} {G:Glob} {M:Nat->Prop} {ρ:Env} {h:H} {w:World}
theorem znr {op:BinOp} {xT:TypeId} {x y:Operand} {a b v:Value} (hv:zco a op b=some v):(do eqGuard op xT x y a b;Go.binOp op xT a b:Sem Value).run P w=.ok v w:=by
 cases a with
 | int k m=>
   cases b with
   | int k' n=>
     change zsf (Nat.beq (kIdx k) (kIdx k')) op k m n=some v at hv
     cases hk:Nat.beq (kIdx k) (kIdx k') with
     | false=>rw [hk] at hv;cases hv
     | true=>
       obtain rfl:=zvq hk;rw [hk] at hv;change zxg op k m n=some v at hv;have e:∀ u:Value,some u=some v->u=v:=fun u hu=>by cases hu;rfl
       have hg:(eqGuard op xT x y (.int k m) (.int k n)).run P w=.ok () w:=by unfold eqGuard;split<;>rfl
       cases op<;>first
        | (cases hv;done)
        | (have hv:=e _ hv;subst hv
           simp only [Sem.run_bind,hg,Result.andThen_ok,Go.binOp,ne_eq,not_true_eq_false,if_false,Op.intArith,Op.intCmp,Sem.run_pure,zmp,z00c,z00d,zt3,bne,GT.gt,GE.ge]<;>
           first
           | rfl
           | (congr 2;rw [Bool.eq_iff_iff];simp only [Bool.not_eq_true',decide_eq_false_iff_not,decide_eq_true_eq];omega))
   | _=>cases hv
 | string s=>
   cases b with
   | string t=>
     change zxu op s t=some v at hv;have e:∀ u:Value,some u=some v->u=v:=fun u hu=>by cases hu;rfl
     have hg:(eqGuard op xT x y (.string s) (.string t)).run P w=.ok () w:=by unfold eqGuard;split<;>rfl
     cases op<;>first
      | (cases hv;done)
      | (have hv:=e _ hv;subst hv
         simp only [Sem.run_bind,hg,Result.andThen_ok,Go.binOp,Op.stringOp,Sem.run_pure,zna,ByteArray.toList_eq,zt3])
   | _=>cases hv
 | _=>cases hv
theorem zgq {d:Option TypeDesc} (h:zcz d=true):∃ e,d=some (.slice e):=by
 cases d with
 | none=>cases h
 | some t=>cases t<;>first|exact ⟨_,rfl⟩|cases h
theorem zo8 {d:Option TypeDesc} (h:isMap d=true):∃ k e,d=some (.map k e):=by
 cases d with
 | none=>cases h
 | some t=>cases t<;>first|exact ⟨_,_,rfl⟩|cases h
theorem ER.length {l:List (SV×SV×Nat)} {m:List MapEntry} (h:ER ρ l m):l.length=m.length:=by
 induction h with
 | nil=>rfl
 | cons _ _ _ ih=>simp [ih]
theorem zz2 (s:Sim P G M ρ h w) {o:Pa} {b:Loc} {es:List (SV×SV×Nat)} {k:Nat} {own:Bool} (hb:ρ o=some b) (ho:hget h o=.mapo es k own):∃ xs:Array MapEntry,w.heap[b.block]? =some (.map xs k)/\ER ρ es xs.toList:=by
 have hlive:=s.live o b hb;rw [ho] at hlive
 cases hk:w.heap[b.block]? with
 | none=>rw [hk] at hlive;cases hlive
 | some ob=>rw [hk] at hlive;cases hlive with|@mapo _ _ _ _ xs he=>exact ⟨xs,rfl,he⟩
theorem zph {r:Nat} {xs:Array MapEntry} {k:Nat} (hk:w.heap[r]? =some (.map xs k)):(getObj r).run P w=.ok (.map xs k) w:=by simp [getObj,Sem.run,hk]
theorem zsl (s:Sim P G M ρ h w) (ts:Array TypeId) (ty:TypeId) {y:Value}:zn P G M ρ h w ((Builtin.len_ ts ty #[y]).run P w) (zsk P h ts):=by
 unfold zsk
 cases hd:undT (argT ts) P with
 | none=>exact .bad
 | some d=>
   obtain ⟨t,h0',hu⟩:=z4m hd;have h0:=z5a h0'
   cases d with
   | array n e=>
     refine .quiet s (x:=goInt n) ?_ (.lit _)
     simp only [Builtin.len_,h0,List.getElem?_toArray,List.getElem?_cons_zero,Sem.run_bind,z1g hu,Result.andThen_ok,Sem.run_pure]
   | pointer a=>
     simp only []
     cases hd2:undO P a with
     | none=>exact .bad
     | some d2=>
       cases d2 with
       | array n e=>
         refine .quiet s (x:=goInt n) ?_ (.lit _)
         simp only [Builtin.len_,h0,List.getElem?_toArray,List.getElem?_cons_zero,Sem.run_bind,z1g hu,Result.andThen_ok,z1g hd2,Sem.run_pure]
       | _=>exact .bad
   | _=>exact .bad
theorem z00h (s:Sim P G M ρ h w) (ts:Array TypeId) (ty:TypeId) {x:SV} {y:Value} (hx:VR ρ x y):zn P G M ρ h w ((Builtin.len_ ts ty #[y]).run P w) (z00g x P h ts ty):=by
 have slc:∀ (a:Option Addr) (n c:Nat),zcz (undT (argT ts) P)=true->(Builtin.len_ ts ty #[.slice a n c]).run P w=.ok (goInt n) w:=by intro a n c hs;obtain ⟨e,he⟩:=zgq hs;obtain ⟨t,h0',hu⟩:=z4m he;have h0:=z5a h0';simp only [Builtin.len_,h0,List.getElem?_toArray,List.getElem?_cons_zero,Sem.run_bind,z1g hu,Result.andThen_ok,Sem.run_pure]
 cases x with
 | slc o off n cap ex=>
   refine z3s (Q:=zn P G M ρ h w _) (e:=.val (.lit (.int .i64 (.ofNat n))) h) .bad fun hs=>?_
   cases hx;exact .quiet s (slc _ _ _ hs) (.lit _)
 | eslc=>
   refine z3s (Q:=zn P G M ρ h w _) (e:=.val (.lit (.int .i64 (.ofNat 0))) h) .bad fun hs=>?_
   cases hx;exact .quiet s (slc _ _ _ hs) (.lit _)
 | lit v=>
   cases hx
   cases y with
   | string str=>
     refine z3s (Q:=zn P G M ρ h w _) (e:=.val (.lit (.int .i64 (.ofNat str.size))) h) .bad fun hs=>?_;obtain ⟨t,h0',hu⟩:=z4m (zob hs);have h0:=z5a h0';refine .quiet s (x:=goInt str.size) ?_ (.lit _)
     simp only [Builtin.len_,h0,List.getElem?_toArray,List.getElem?_cons_zero,Sem.run_bind,z1g hu,Result.andThen_ok,Sem.run_pure]
   | _=>exact .still s _
 | mapv o=>
   cases hx with
   | @mapv _ b hb=>
     change zn P G M ρ h w _ (zxi (hget h o) P h ts)
     cases ho:hget h o with
     | mapo es k own=>
       refine z3s (Q:=zn P G M ρ h w _) (e:=.val (.lit (.int .i64 (.ofNat es.length))) h) .bad fun hs=>?_;obtain ⟨_,_,he⟩:=zo8 hs;obtain ⟨t,h0',hu⟩:=z4m he;have h0:=z5a h0';obtain ⟨xs,hk,her⟩:=zz2 s hb ho;refine .quiet s (x:=goInt xs.size) ?_ (by rw [her.length,Array.length_toList];exact .lit _)
       simp only [Builtin.len_,h0,List.getElem?_toArray,List.getElem?_cons_zero,Sem.run_bind,z1g hu,Result.andThen_ok,zph hk,Sem.run_pure]
     | _=>exact .bad
 | _=>exact zsl s ts ty
theorem zie {l:List SV}:∀ {bs:List UInt8} {xs:List Value},z6l l=some bs->VRL ρ l xs->∃ ns:List Int,xs=ns.map (Value.int .u8)/\ns.map (fun n=>UInt8.ofNat n.toNat)=bs/\∀ n∈ns,0<=n:=by
 induction l with
 | nil=>intro bs xs hb hx;cases hb;cases hx;exact ⟨[],rfl,rfl,by simp⟩
 | cons v l ih=>
   intro bs xs hb hx
   cases hx with
   | @cons _ x _ xs hv ht=>
     change bytes1 (zqd v) (z6l l)=some bs at hb
     cases hbv:zqd v with
     | none=>rw [hbv] at hb;cases hb
     | some u=>
       rw [hbv] at hb
       cases hbl:z6l l with
       | none=>rw [hbl] at hb;cases hb
       | some us=>
         rw [hbl] at hb;cases hb;obtain ⟨ns,h1,h2,h3⟩:=ih hbl ht
         cases v with
         | lit y=>
           cases hv
           cases x with
           | int k z=>
             cases k with
             | u8=>
               cases z with
               | ofNat n=>
                 cases hbv;exact ⟨(n:Int)::ns,by rw [h1];rfl,by rw [List.map_cons,h2];rfl,fun m hm=>by
                  cases hm with
                  | head=>omega
                  | tail _ hm=>exact h3 m hm⟩
               | negSucc n=>cases hbv
             | _=>cases hbv
           | _=>cases hbv
         | _=>cases hbv
theorem zrq:∀ (ns:List Int) (s:ByteArray),(ns.foldl (fun r n=>r.push (UInt8.ofNat n.toNat)) s)=⟨(s.data.toList++ns.map fun n=>UInt8.ofNat n.toNat).toArray⟩:=by
 intro ns
 induction ns with
 | nil=>intro s;obtain ⟨⟨l⟩⟩:=s;simp
 | cons n ns ih=>intro s;rw [List.foldl_cons,ih];obtain ⟨⟨l⟩⟩:=s;simp [ByteArray.push]
theorem zjr {d:Option TypeDesc} (h:zxh d=true):d=some (.int .u8):=by
 cases d with
 | none=>cases h
 | some t=>cases t<;>first|(cases h;done)|skip
           rename_i k;cases k<;>first|rfl|cases h
theorem zqe {l:Option (List SV)} {Q:Eff->Prop} (hbad:Q .bad) (hK:∀ l' bs,l=some l'->z6l l'=some bs->Q (.val (.lit (.string ⟨bs.toArray⟩)) h)):Q (zx7 l h):=by
 cases l with
 | none=>exact hbad
 | some l'=>
   show Q (strE (z6l l') h)
   cases hb:z6l l' with
   | none=>exact hbad
   | some bs=>exact hK l' bs rfl hb
theorem zng (s:Sim P G M ρ h w) (src dst:TypeId) {o:Pa} {b:Loc} (off n cap':Nat) (hb:ρ o=some b):
 zn P G M ρ h w ((Go.convert src dst (.slice (some ⟨b.block,b.off+off,none⟩) n cap')).run P w) (zig P h src dst o off n):=by
 unfold zig
 cases hu:undO P src with
 | none=>exact .bad
 | some d=>
   cases d with
   | slice el=>
     cases hv:undO P dst with
     | none=>exact .bad
     | some d2=>
       cases d2 with
       | string=>
         refine z3s (Q:=zn P G M ρ h w _) .bad fun hk=>?_;have hel:=zjr hk;refine zqe (Q:=zn P G M ρ h w _) .bad fun l bs hl hbs=>?_;obtain ⟨xs,h1,h2,h3⟩:=z7f s hb hl;obtain ⟨ns,rfl,h5,_⟩:=zie hbs h2;have hrun:=z35 (P:=P) (a:=⟨b.block,b.off+off,none⟩) h1 (fun j v hj=>by rw [z67];exact h3 j v hj);refine .quiet s (x:=.string ⟨bs.toArray⟩) ?_ (.lit _);rw [run_convert_bytes_string w src dst el _ _ _ (z7q hu) (z7q hel) (z7q hv),run_bytesToString w _ _ _ ns hrun,zrq,h5]
         rfl
       | _=>exact .bad
   | _=>exact .bad
theorem zrr {b n:Nat} {c:Array Value} {e:TypeId} (hk:w.heap[b]? =some (.cells c e (0,0))) (off:Nat) (hn:n≠0):Turn w (w.freeze ⟨b,off,none⟩ n) b (.cells c e (off,off+n)):=by
 have hlt:=z4r hk;unfold World.freeze;rw [if_neg hn];refine ⟨rfl,rfl,rfl,by simp,fun k hk'=>?_,?_⟩
 ·show (w.heap.modify b _)[k]? =_;rw [Array.getElem?_modify,if_neg (Ne.symm hk')]
 ·show (w.heap.modify b _)[b]? =_;rw [Array.getElem?_modify,if_pos rfl,hk];rfl
theorem zo9 {n:Option Nat} (h:zyt n=true):n=some 1:=by
 unfold zyt at h;split at h
 ·rfl
 ·cases h
theorem znh (s:Sim P G M ρ h w) (src dst:TypeId) (str:ByteArray):zn P G M ρ h w ((Go.convert src dst (.string str)).run P w) (zih P h src dst str):=by
 unfold zih;split
 ·rename_i el hu hv;split
  ·rename_i hel;refine z3s (Q:=zn P G M ρ h w _) .bad fun hone=>?_;refine z3s (Q:=zn P G M ρ h w _) .bad fun hsml=>?_;have hsml:str.size<=16777216:=Nat.le_of_ble_eq_true hsml;have hs1:=zo9 hone;have hes:P.cellsOf el=1:=z3g hs1;rw [z6u];let q:Question:=.appendCap str.size 0 el;let cap:=q.cut (w.tape w.drawn q);have hcap:str.size<=cap:=by show str.size<=str.size+_;omega
   have hcapm:cap<=9223372036854775807:=by have hlt:=Nat.mod_lt (w.tape w.drawn q) (show 0<2^63-str.size by omega);show str.size+(w.tape w.drawn q)%(2^63-str.size)<=9223372036854775807;omega
   let xs:Array Value:=str.data.map (fun b=>Value.int .u8 b.toNat)++Array.replicate (cap-str.size) (.int .u8 0);have hxz:xs.size=cap:=by have:str.data.size=str.size:=rfl;simp only [xs,Array.size_append,Array.size_map,Array.size_replicate,this];omega
   let w1:World:={ w with drawn:=w.drawn+1 };let w2:World:={ w1 with heap:=w1.heap.push (.cells xs el) };have hk2:w2.heap[w.heap.size]? =some (.cells xs el (0,0)):=by simp [w2,w1]
   have hfr:=zrr hk2 xs.size (n:=1) (by omega);let w3:=w2.freeze ⟨w.heap.size,xs.size,none⟩ 1;have s1:Sim P G M ρ h w1:=s.drew rfl;have g1:Grow M ρ h w ρ h w1:=.drew rfl rfl rfl rfl;let b:Loc:=⟨w.heap.size,0,cap,1⟩;have hle:Env.le ρ (ρ.put (nOf h) b):=Env.put_le b s.none_at;have hw2z:w2.heap.size=w.heap.size+1:=by simp [w2,w1]
   obtain ⟨s3,g3⟩:=s1.push (w':=w3) (b:=b) (ob:=.cells (z7u str) el false) (hfr.os) (hfr.tape) (hfr.output) (by rw [show w3.heap.size=w2.heap.size from hfr.size,hw2z];show w.heap.size<=_;omega) (by show w.heap.size<w3.heap.size;rw [show w3.heap.size=w2.heap.size from hfr.size,hw2z];omega)
    (fun k hk hl=>by have hl:k<w.heap.size:=hl;rw [show w3.heap[k]? =w2.heap[k]? from hfr.other k hk];show (w.heap.push _)[k]? =_;rw [Array.getElem?_push,if_neg (by omega)])
    (s.fresh _ (Nat.le_refl _)) (fun o' b' hb' _ e'=>by have:=s.size o' b' hb';rw [e'] at this;exact absurd this (Nat.lt_irrefl _))
    (by
      rw [show w3.heap[b.block]? =_ from hfr.here];have hrel:=ze0 (ρ:=ρ.put (nOf h) b) str;refine .cells (show P.cellsOf el=1 from hes) (Nat.zero_mod _) (fun e=>by cases e) (show 0+cap<=xs.size by omega) (show (z7u str).length<=cap by rw [hrel.length,List.length_map,Array.length_toList];exact hcap) fun i v hi=>?_;obtain ⟨x,hx,hv⟩:=hrel.get i v hi;have hlt:i<str.data.size:=by
       rcases Nat.lt_or_ge i str.data.size with h1|h1
       ·exact h1
       ·rw [List.getElem?_eq_none (by simpa using h1)] at hx;cases hx
      refine ⟨x,?_,hv⟩;show xs[0+i]? =some x;rw [Nat.zero_add];show (str.data.map _++_)[i]? =_;rw [Array.getElem?_append_left (by simpa using hlt)];simpa using hx)
   refine ⟨_,w3,.slice (some ⟨w.heap.size,0,none⟩) str.size cap,?_,?_,s3,g1.trans g3⟩
   ·have hf:(Question.appendCap str.size 0 el).forced=false:=rfl;have hsh:w2.shape? w.heap.size=some (el,xs.size):=zwq hk2;simp only [Go.convert,Sem.run_bind,z1g hu,z1g hv,Result.andThen_ok,z1g hel,Conv.stringToBytes,run_choose,hf,Bool.false_eq_true,if_false,newRow,run_newObj,Sem.run_pure,markStringish,run_shape]
    show Result.andThen (Sem.run P (match w2.shape? w.heap.size with
     | some (_,n)=>freeze { block:=w.heap.size,off:=n } 1
     | x=>pure ()) w2) _=_
    rw [hsh];rfl
   ·exact VR.slc (b:=b) 0 str.size str.size false cap (Env.put_self _ _ _) hcap (fun e=>by cases e) fun _=>⟨by show 0+cap*1<=cap;omega,hcapm⟩
  ·exact .bad
 ·exact .still s _
end
end Go.Play
namespace Go.Play
section
variable {P:Program} {G:Glob} {M:Nat->Prop} {ρ:Env} {h:H} {w:World}
theorem zzw (s:Sim P G M ρ h w) (op:BinOp) (xT:TypeId) (x y:Operand) {a b:SV} {a' b':Value} (ha:VR ρ a a') (hb:VR ρ b b'):
 zn P G M ρ h w ((do eqGuard op xT x y a' b';Go.binOp op xT a' b':Sem Value).run P w) (bin1 a a P h op xT x y b):=by
 cases a with
 | lit v=>
   cases b with
   | lit u=>
     cases ha;cases hb;change zn P G M ρ h w _ (zx6 (zco a' op b') P h op xT x y a' b')
     cases hf:zco a' op b' with
     | none=>exact .still s _
     | some r=>exact .quiet s (znr hf) (.lit _)
   | _=>exact .bad
 | _=>exact .bad
end
end Go.Play
namespace Go.Play
section
variable {P:Program} {G:Glob} {M:Nat->Prop} {ρ:Env} {h:H} {w:World}
theorem zy4 (s:Sim P G M ρ h w) (src dst:TypeId) {a:SV} {x:Value} (ha:VR ρ a x):zn P G M ρ h w ((Go.convert src dst x).run P w) (conv1 a P h src dst):=by
 cases a with
 | lit v=>
   cases ha
   cases x with
   | int k z=>
     change zn P G M ρ h w _ (zql (undO P dst) P h src dst k z)
     cases hv:undO P dst with
     | none=>exact .bad
     | some d=>
       cases d with
       | int k'=>
         refine z3s (Q:=zn P G M ρ h w _) (e:=.val (.lit (.int k' (zl9 k' z))) h) .bad fun hs=>?_
         cases hu:undO P src with
         | none=>rw [hu] at hs;cases hs
         | some d2=>
           refine .quiet s (x:=.int k' (k'.wrap z)) ?_ (by rw [zmp];exact .lit _)
           simp only [Go.convert,Sem.run_bind,z1g hu,z1g hv,Result.andThen_ok,Conv.intToInt,Sem.run_pure]
       | _=>exact .still s _
   | string str=>exact znh s src dst str
   | _=>exact .still s _
 | slc o off n cap ex=>cases ha with|@slc _ b _ _ _ _ cap' hb=>exact zng s src dst off n cap' hb
 | _=>exact .bad
end
end Go.Play
namespace Go.Play
section
variable {P:Program} {G:Glob} {M:Nat->Prop} {ρ:Env} {h:H} {w:World}
theorem zxe {tm:T SV} {ts:Array Value} (ht:TR ρ tm ts) {f:Operand->Value} (hf:∀ i,f (.tmp i)=ts.getD i undef) (hc:∀ v,f (.const v)=v) (hg:∀ g,f (.global g)=.pointer (some ⟨g,0,none⟩)) (hu:∀ g,f (.func g)=.func (.func g) #[] #[]) (x:Operand):VR ρ (ev x tm) (f x):=by
 cases x with
 | tmp i=>rw [hf];exact ht i
 | const v=>rw [hc];exact .lit v
 | global g=>rw [hg];exact .lit _
 | func g=>rw [hu];exact .fn .nil .nil
theorem ziv {tm:T SV} {f:Operand->Value} (hev:∀ x,VR ρ (ev x tm) (f x)):∀ l:List Operand,VRL ρ (evL l tm) (l.map f):=by
 intro l
 induction l with
 | nil=>exact .nil
 | cons x l ih=>exact .cons (hev x) ih
theorem zoz:Extern.allNextRows.lookup "internal/abi.NoEscape"=none:=by kernel_rfl
theorem zoy:Extern.allNextRows.lookup ""=none:=by kernel_rfl
theorem zcs:Extern.allGenericRows.lookup "internal/abi.NoEscape"=none:=by kernel_rfl
theorem zl6:Extern.allTypedRows.lookup "internal/abi.NoEscape"=none:=by kernel_rfl
theorem zpz:Extern.allRows.lookup "internal/abi.NoEscape"=some Extern.AbiNoEscape.same:=by kernel_rfl
theorem z6x {f:FuncId} {fn:Func} (hf:P.funcs[f]? =some fn) (hb:fn.body=none) (hn:fn.name= "internal/abi.NoEscape") (ho:fn.origin= "") (y:Value):(callFunc f #[y]).run P w=.ok (.value y) w:=by
 have h1:(fn.name== "runtime.NumGoroutine")=false:=by rw [hn];decide
 have h2:Extern.findNext fn=none:=by simp only [Extern.findNext,hn,ho,zoz,zoy];rfl
 have h3:Extern.find fn=some Extern.AbiNoEscape.same:=by simp only [Extern.find,hn,ho,zcs,zl6,zpz];rfl
 simp only [callFunc,Sem.run_bind,run_program,Result.andThen_ok,hf,h1,Bool.false_eq_true,if_false,hb,Option.isNone_none,if_true,h2,h3,Sem.run_pure,mark,Sem.run];rfl
theorem z3x.next (s:Sim P G M ρ h w) (q:Sem Next):z3x P G M ρ h w (q.run P w) (zka P h q):=by
 unfold zka
 cases hq:Play.still P q with
 | ok a=>
   cases a with
   | value v=>exact .quiet s (zmj hq) (.lit v)
   | _=>trivial
 | panic v=>exact ⟨v,zal hq,.lit v⟩
 | no=>trivial
theorem zur (s:Sim P G M ρ h w) {f:FuncId} {l:List SV} {xs:Array Value} (hl:VRL ρ l xs.toList):z3x P G M ρ h w ((callFunc f xs).run P w) (call1 (z95 P f) P h f l):=by
 cases hf:z95 P f with
 | none=>trivial
 | some fn=>
   rw [z78] at hf;change z3x P G M ρ h w _ (call2 fn.body P h f fn l)
   cases hb:fn.body with
   | none=>
     change z3x P G M ρ h w _ (call3 (lits l) P h f fn l)
     cases hv:lits l with
     | none=>
       change z3x P G M ρ h w _ (escape fn l h);unfold escape;split
       ·rename_i v;split
        ·rename_i hnm;rw [Bool.and_eq_true,beq_iff_eq,beq_iff_eq] at hnm;obtain ⟨ys⟩:=xs;simp only at hl
         cases hl with
         | @cons _ y _ _ hy t=>cases t;exact .quiet s (z6x hf hb hnm.1 hnm.2 y) hy
        ·trivial
       ·trivial
     | some vs=>
       have:=zsp hv hl;have e:xs=vs.toArray:=(by rw [<- this]);subst e
       exact .next s _
   | some c=>
     change z3x P G M ρ h w _ (call2b (fn.name== "runtime.NumGoroutine") f l)
     cases hn:fn.name== "runtime.NumGoroutine" with
     | true=>trivial
     | false=>refine ⟨xs,?_,hl⟩;simp only [callFunc,Sem.run_bind,run_program,Result.andThen_ok,hf,hn,Bool.false_eq_true,if_false,hb,Option.isNone_some,Sem.run_pure]
theorem zut (s:Sim P G M ρ h w) {g:SV} {g':Value} (hg:VR ρ g g') {l:List SV} {xs:Array Value} (hl:VRL ρ l xs.toList):
 z3x P G M ρ h w ((do let d<-Deferred.ofValue g' xs;invoke d.target d.args:Sem Next).run P w) (zus g P h l):=by
 cases g with
 | fn f a b=>
   cases hg with
   | @fn _ _ _ a' b' ha hb=>
     have hrel:VRL ρ (appS (appS a l) b) ((a'++xs)++b').toList:=by rw [z9i,z9i,Array.toList_append,Array.toList_append];exact (ha.append hl).append hb
     exact zur s hrel
 | yld o=>
   cases hg with
   | @yld _ b hb=>
     refine ⟨b,xs,hb,?_,hl⟩
     simp only [Deferred.ofValue,Sem.run_bind,Sem.run_pure,Result.andThen_ok,invoke,Array.empty_append]
 | _=>trivial
theorem zxy {l:List SV} {xs:Array Value} (hl:VRL ρ l xs.toList) {K:SV->Eff} {Q:Eff->Prop} (hbad:Q .bad) (hK:∀ v y,xs= #[y]->VR ρ v y->Q (K v)):Q (arg1 l K):=by
 obtain ⟨ys⟩:=xs;simp only at hl
 cases hl with
 | nil=>exact hbad
 | @cons v y l ys h t=>
   cases t with
   | nil=>exact hK v y rfl h
   | cons h2 t2=>exact hbad
theorem zxz {l:List SV} {xs:Array Value} (hl:VRL ρ l xs.toList) {K:SV->SV->Eff} {Q:Eff->Prop} (hbad:Q .bad) (hK:∀ u v x y,xs= #[x,y]->VR ρ u x->VR ρ v y->Q (K u v)):Q (arg2 l K):=by
 obtain ⟨ys⟩:=xs;simp only at hl
 cases hl with
 | nil=>exact hbad
 | @cons v y l ys h t=>
   cases t with
   | nil=>exact hbad
   | cons h2 t2=>
     cases t2 with
     | nil=>exact hK _ _ _ _ rfl h h2
     | cons h3 t3=>exact hbad
theorem zn8 (s:Sim P G M ρ h w) (b:Builtin) (ts:Array TypeId) (ty:TypeId) (cs:Array Bool) {l:List SV} {xs:Array Value} (hl:VRL ρ l xs.toList):
 z3x P G M ρ h w ((builtin b ts ty cs xs).run P w) (zdz b P h ts ty l):=by
 cases b with
 | append=>exact zxz (Q:=z3x P G M ρ h w _) hl trivial fun u v x y e hu hv=>by rw [e];exact (zq3 s ts ty hu hv).eff
 | len=>exact zxy (Q:=z3x P G M ρ h w _) hl trivial fun v y e hv=>by rw [e];exact (z00h s ts ty hv).eff
 | _=>trivial
theorem zib (s:Sim P G M ρ h w) (b:Builtin) (ts:Array TypeId) (ty:TypeId) (cs:Array Bool) {l:List SV} {xs:Array Value} (hl:VRL ρ l xs.toList):
 z3x P G M ρ h w ((builtin b ts ty cs xs).run P w) (z97 b P h ts ty l):=by
 have H:=zn8 s b ts ty cs hl
 cases b with
 | _=>exact H
theorem ztb (s:Sim P G M ρ h w) (c:Call) (ty:TypeId) {tm:T SV} {f:Operand->Value} (hev:∀ x,VR ρ (ev x tm) (f x)):
 z3x P G M ρ h w ((do let d<-resolve f c ty;invoke d.target d.args:Sem Next).run P w) (zm7 c.callee P tm h ty c.argTypes c.args.toList):=by
 obtain ⟨callee,args,argTypes⟩:=c;have hl:VRL ρ (evL args.toList tm) (args.map f).toList:=by rw [Array.toList_map];exact ziv hev _
 cases callee with
 | value g=>exact zut s (hev g) hl
 | invoke r n=>trivial
 | builtin b=>
   have:=zib s b argTypes ty (args.map fun|.const _=>true|_=>false) hl
   exact this
theorem zmh (s:Sim P G M ρ h w) (o:Oper) {tm:T SV} {f:Operand->Value} (hev:∀ x,VR ρ (ev x tm) (f x)):
 z3x P G M ρ h w ((execOp f o).run P w) (sop o.op o.type P G tm h):=by
 obtain ⟨dst,op,ty,pos,after,guard⟩:=o
 cases op with
 | move x=>exact .quiet s rfl (hev x)
 | assign x=>exact .quiet s rfl (hev x)
 | alloc el=>exact (zui s el).eff
 | box el x=>exact (zzy s el (hev x)).eff
 | build t p=>exact (zuq s t hev p).eff
 | buildSlice t n p=>exact (zce s t n hev p).eff
 | load t a=>exact (zyu s t (hev a)).eff
 | store t a x=>exact (zwu s t (hev a) (hev x)).eff
 | nilCheck x=>exact zkb s (hev x) rfl rfl
 | binOp op xT x y yT=>exact (zzw s op xT x y (hev x) (hev y)).eff
 | convert a b x=>exact (zy4 s a b (hev x)).eff
 | makeFunc fn a b=>
   refine (zk1 s fn (a':=a.map f) (b':=b.map f) ?_ ?_).eff
   ·rw [Array.toList_map];exact ziv hev _
   ·rw [Array.toList_map];exact ziv hev _
 | fieldAddr t x i=>exact (zee s t (hev x) i).eff
 | indexAddr t x i=>exact (zgk s t (hev x) (hev i)).eff
 | call c=>exact ztb s c ty hev
 | _=>trivial
end
end Go.Play
namespace Go.Play
inductive IR (ρ:Env) (n:Nat):SI->Item->Prop
 | code {c:Code} (h:z1n c n=true):IR ρ n (.code c) (.code c)
 | inBlock (id:Nat):IR ρ n (.inBlock id) (.inBlock id)
 | inLoop {c:Code} (h:z1n c n=true):IR ρ n (.inLoop c) (.inLoop c)
 | inScope {c:Code} (h:z1n c n=true):IR ρ n (.inScope c) (.inScope c)
 | inReg {ops:Array Oper} {l:List Oper} {is:List Nat} (h:is.map (ops[·]?)=l.map some) (ho:z8d l n=true):IR ρ n (.inReg ops l) (.inRegion ops is)
 | inRF {o:Pa} {b:Loc} (h:ρ o=some b):IR ρ n (.inRF o) (.inRangeFunc b.block)
 | endRF {o:Pa} {b:Loc} (h:ρ o=some b):IR ρ n (.endRF o) (.endRangeFunc b.block)
 | beginRound:IR ρ n .beginRound .beginRound
inductive IL (ρ:Env) (n:Nat):List SI->List Item->Prop
 | nil:IL ρ n [] []
 | cons {i:SI} {x:Item} {l:List SI} {k:List Item} (h:IR ρ n i x) (t:IL ρ n l k):IL ρ n (i::l) (x::k)
inductive CR (ρ:Env):List (SV×Bool)->List PanicEntry->Prop
 | nil:CR ρ [] []
 | cons {v:SV} {x:Value} {r:Bool} {l:List (SV×Bool)} {es:List PanicEntry} (h:VR ρ v x) (t:CR ρ l es):CR ρ ((v,r)::l) ({ v:=x,recovered:=r }::es)
inductive MR (ρ:Env):SMode->FrameMode->Prop
 | run:MR ρ .run .run
 | ret:MR ρ .ret .returning
 | pan {l:List (SV×Bool)} {es:List PanicEntry} (h:CR ρ l es):MR ρ (.pan l) (.panicking es)
def RoR (ρ:Env):Option Pa->Option Nat->Prop
 | none,r=>r=none
 | some l,r=>∃ b,ρ l=some b/\r=some b.block
def FIR (ρ:Env):FI->Frame->Prop
 | .mk fn kind ro,fr=>fr.fn=fn/\fr.kind=kind/\RoR ρ ro fr.roundOf
structure FR (ρ:Env) (fi:FI) (tm:T SV) (todo:List SI) (de:List SDef) (mode:SMode) (fr:Frame):Prop where
 fi:FIR ρ fi fr
 tmps:TR ρ tm fr.tmps
 todo:IL ρ fr.tmps.size todo fr.todo
 defers:DRL ρ de fr.defers
 mode:MR ρ mode fr.mode
def SFR (ρ:Env):SF->Frame->Prop
 | .mk fi tm todo de mode,fr=>FR ρ fi tm todo de mode fr
def fiOf:SF->FI|.mk fi _ _ _ _=>fi
inductive SR (ρ:Env) (f0:FuncId) (base:List Frame):SF->List SF->Frame->List Frame->Prop
 | last {f:SF} {fr:Frame} (h:SFR ρ f fr) (hf:fiOf f=.mk f0 .normal none):SR ρ f0 base f [] fr base
 | cons {f g:SF} {cs:List SF} {fr gr:Frame} {crs:List Frame} (h:SFR ρ f fr) (t:SR ρ f0 base g cs gr crs):SR ρ f0 base f (g::cs) fr (gr::crs)
theorem zbt {l:List Oper} {n m:Nat} (hnm:n<=m) (h:z8d l n=true):z8d l m=true:=by
 induction l with
 | nil=>rfl
 | cons o l ih=>
   change andB (zt9 (z74 o) n) (z8d l n)=true at h;show andB (zt9 (z74 o) m) (z8d l m)=true;rw [z2u,Bool.and_eq_true] at h ⊢;refine ⟨?_,ih h.2⟩;have h1:=h.1
   cases hd:z74 o with
   | none=>rfl
   | some d=>rw [hd] at h1;exact Nat.ble_eq_true_of_le (Nat.le_trans (Nat.le_of_ble_eq_true h1) hnm)
theorem zke {l:List Tmp} {n m:Nat} (hnm:n<=m) (h:zaa l n=true):zaa l m=true:=by
 induction l with
 | nil=>rfl
 | cons o l ih=>change andB (Nat.ble (Nat.succ o) n) (zaa l n)=true at h;show andB (Nat.ble (Nat.succ o) m) (zaa l m)=true;rw [z2u,Bool.and_eq_true] at h ⊢;exact ⟨Nat.ble_eq_true_of_le (Nat.le_trans (Nat.le_of_ble_eq_true h.1) hnm),ih h.2⟩
theorem z5y (a b:Code) (n:Nat):z1n (.seq a b) n=(z1n a n&&z1n b n):=(z2u _ _)
theorem za9 (c:Operand) (a b:Code) (n:Nat):z1n (.cond c a b) n=(z1n a n&&z1n b n):=(z2u _ _)
theorem zt8 (f:Operand) (ps:Array Tmp) (a b:Code) (n:Nat):z1n (.rangeFunc f ps a b) n=(zaa ps.toList n&&(z1n a n&&z1n b n)):=by show andB _ (andB _ _)=_;rw [z2u,z2u];rfl
theorem z4v {n m:Nat} (hnm:n<=m):∀ {c:Code},z1n c n=true->z1n c m=true:=by
 intro c
 induction c with
 | region id ops d=>exact zbt hnm
 | seq a b iha ihb=>intro h;rw [z5y,Bool.and_eq_true] at h ⊢;exact ⟨iha h.1,ihb h.2⟩
 | cond c a b iha ihb=>intro h;rw [za9,Bool.and_eq_true] at h ⊢;exact ⟨iha h.1,ihb h.2⟩
 | block id a ih=>exact ih
 | loop a ih=>exact ih
 | rangeFunc f ps a b iha ihb=>intro h;rw [zt8,Bool.and_eq_true,Bool.and_eq_true] at h ⊢;exact ⟨zke hnm h.1,iha h.2.1,ihb h.2.2⟩
 | scope a ih=>exact ih
 | _=>intro _;rfl
theorem zeg {n:Nat} (l:Nat):∀ {c rest:Code},findLabel c l=some rest->z1n c n=true->z1n rest n=true:=by
 intro c
 induction c with
 | seq a b iha ihb=>
   intro rest hf hc;rw [z5y,Bool.and_eq_true] at hc;unfold findLabel at hf
   cases ha:findLabel a l with
   | some r=>rw [ha] at hf;cases hf;rw [z5y,iha ha hc.1,hc.2];rfl
   | none=>rw [ha] at hf;exact ihb hf hc.2
 | label l'=>
   intro rest hf hc;unfold findLabel at hf;split at hf
   ·cases hf;rfl
   ·cases hf
 | _=>intro rest hf hc;unfold findLabel at hf;cases hf
section
variable {ρ ρ':Env}
theorem IR.mono (hle:Env.le ρ ρ') {n m:Nat} (hnm:n<=m) {i:SI} {x:Item} (h:IR ρ n i x):IR ρ' m i x:=by
 cases h with
 | code h=>exact .code (z4v hnm h)
 | inBlock id=>exact .inBlock id
 | inLoop h=>exact .inLoop (z4v hnm h)
 | inScope h=>exact .inScope (z4v hnm h)
 | inReg h ho=>exact .inReg h (zbt hnm ho)
 | inRF h=>exact .inRF (hle _ _ h)
 | endRF h=>exact .endRF (hle _ _ h)
 | beginRound=>exact .beginRound
theorem IL.mono (hle:Env.le ρ ρ') {n m:Nat} (hnm:n<=m) {l:List SI} {k:List Item} (h:IL ρ n l k):IL ρ' m l k:=by
 induction h with
 | nil=>exact .nil
 | cons h _ ih=>exact .cons (h.mono hle hnm) ih
theorem CR.mono (hle:Env.le ρ ρ') {l:List (SV×Bool)} {es:List PanicEntry} (h:CR ρ l es):CR ρ' l es:=by
 induction h with
 | nil=>exact .nil
 | cons h _ ih=>exact .cons (h.mono hle) ih
theorem CR.quiet {l:List (SV×Bool)} {es:List PanicEntry} (h:CR ρ l es):∀ e∈es,e.goexit=false:=by
 induction h with
 | nil=>intro e he;cases he
 | cons h _ ih=>intro e he;cases he with
   | head=>rfl
   | tail _ hm=>exact ih e hm
theorem MR.mono (hle:Env.le ρ ρ') {m:SMode} {x:FrameMode} (h:MR ρ m x):MR ρ' m x:=by
 cases h with
 | run=>exact .run
 | ret=>exact .ret
 | pan h=>exact .pan (h.mono hle)
theorem RoR.mono (hle:Env.le ρ ρ') {o:Option Pa} {r:Option Nat} (h:RoR ρ o r):RoR ρ' o r:=by
 cases o with
 | none=>exact h
 | some l=>obtain ⟨b,h1,h2⟩:=h;exact ⟨b,hle _ _ h1,h2⟩
theorem FIR.mono (hle:Env.le ρ ρ') {fi:FI} {fr:Frame} (h:FIR ρ fi fr):FIR ρ' fi fr:=by obtain ⟨fn,kind,ro⟩:=fi;exact ⟨h.1,h.2.1,h.2.2.mono hle⟩
theorem FR.mono (hle:Env.le ρ ρ') {fi:FI} {tm:T SV} {todo:List SI} {de:List SDef} {mode:SMode} {fr:Frame} (h:FR ρ fi tm todo de mode fr):FR ρ' fi tm todo de mode fr:=
 ⟨h.fi.mono hle,h.tmps.mono hle,h.todo.mono hle (Nat.le_refl _),h.defers.mono hle,h.mode.mono hle⟩
theorem SFR.mono (hle:Env.le ρ ρ') {f:SF} {fr:Frame} (h:SFR ρ f fr):SFR ρ' f fr:=by obtain ⟨fi,tm,todo,de,mode⟩:=f;exact FR.mono hle h
theorem SR.mono (hle:Env.le ρ ρ') {f0:FuncId} {base:List Frame} {f:SF} {cs:List SF} {fr:Frame} {crs:List Frame} (h:SR ρ f0 base f cs fr crs):SR ρ' f0 base f cs fr crs:=by
 induction h with
 | last h hf=>exact .last (h.mono hle) hf
 | cons h _ ih=>exact .cons (h.mono hle) ih
theorem SR.top {f0:FuncId} {base:List Frame} {f:SF} {cs:List SF} {fr:Frame} {crs:List Frame} (h:SR ρ f0 base f cs fr crs):SFR ρ f fr:=by
 cases h with
 | last h _=>exact h
 | cons h _=>exact h
theorem SR.re {f0:FuncId} {base:List Frame} {f f':SF} {cs:List SF} {fr fr':Frame} {crs:List Frame} (h:SR ρ f0 base f cs fr crs) (hle:Env.le ρ ρ') (hf:SFR ρ' f' fr') (hfi:fiOf f'=fiOf f):SR ρ' f0 base f' cs fr' crs:=by
 cases h with
 | last _ h2=>exact .last hf (hfi.trans h2)
 | cons _ t=>exact .cons hf (t.mono hle)
theorem TR.set {tm:T SV} {ts:Array Value} (h:TR ρ tm ts) {d:Tmp} (hd:d<ts.size) {v:SV} {x:Value} (hv:VR ρ v x):TR ρ (sset' (pa d) v tm) (ts.setIfInBounds d x):=by
 intro i;rw [z45];by_cases hi:i=d
 ·subst hi;rw [if_pos rfl];have:(ts.setIfInBounds i x).getD i undef=x:=by simp [Array.getD,hd]
  rw [this];exact hv
 ·rw [if_neg fun e=>hi (zby e)];have:(ts.setIfInBounds d x).getD i undef=ts.getD i undef:=by
   simp only [Array.getD_eq_getD_getElem?,Array.getElem?_setIfInBounds_ne (Ne.symm hi)]
  rw [this];exact h i
theorem z5s (o:Oper):z74 o=o.dst:=by cases o;rfl
theorem zbs {o:Oper} {l:List Oper} {n:Nat} (h:z8d (o::l) n=true):(∀ d,o.dst=some d->d<n)/\z8d l n=true:=by change andB (zt9 (z74 o) n) (z8d l n)=true at h;rw [z2u,Bool.and_eq_true] at h;refine ⟨fun d hd=>?_,h.2⟩;have h1:=h.1;rw [z5s,hd] at h1;exact Nat.le_of_ble_eq_true h1
theorem ztz {o:Oper} {tm:T SV} {ts:Array Value} (h:TR ρ tm ts) (hd:∀ d,o.dst=some d->d<ts.size) {v:SV} {x:Value} (hv:VR ρ v x) (K:T SV->Res):
 ∃ tm',setO (z74 o) v tm K=K tm'/\TR ρ tm' (match o.dst with|some d=>ts.setIfInBounds d x|none=>ts):=by
 rw [z5s]
 cases hdst:o.dst with
 | none=>exact ⟨tm,rfl,h⟩
 | some d=>exact ⟨sset' (pa d) v tm,zdj _ _ _ _,h.set (hd d hdst) hv⟩
theorem zmg (o:Oper) (ts:Array Value) (x:Value):(match o.dst with|some d=>ts.setIfInBounds d x|none=>ts).size=ts.size:=by
 cases o.dst with
 | none=>rfl
 | some d=>simp
theorem zeh {f:SF} {fr:Frame} {v:SV} {x:Value} (hf:SFR ρ f fr) (hv:VR ρ v x) {K:SF->Res} {Q:Res->Prop} (hbad:Q .bad) (hK:∀ f',SFR ρ f' (fr.finish x)->fiOf f'=fiOf f->Q (K f')):Q (z9v f v K):=by
 obtain ⟨fi,tm,todo,de,mode⟩:=f;obtain ⟨h1,h2,h3,h4,h5⟩:=hf;show Q (finish1 todo fi tm de mode v K)
 cases todo with
 | nil=>exact hbad
 | cons i k=>
   show Q (finish2 i fi tm k de mode v K);generalize hft:fr.todo=ft at h3
   cases h3 with
   | @cons _ _ _ fk hi hk=>
     cases hi with
     | @inReg ops l is h ho=>
       show Q (finish3 l ops fi tm k de mode v K)
       cases l with
       | nil=>exact hbad
       | cons o rest=>
         cases is with
         | nil=>cases h
         | cons j js=>
           simp only [List.map_cons,List.cons.injEq] at h;obtain ⟨hd,ho'⟩:=zbs ho;obtain ⟨tm',e,ht⟩:=ztz h2 hd hv (fun tm=>K (.mk fi tm (.inReg ops rest::k) de mode));show Q (setO (z74 o) v tm _);rw [e];refine hK _ ?_ rfl;have hfin:fr.finish x={ fr with tmps:=(match o.dst with|some d=>fr.tmps.setIfInBounds d x|none=>fr.tmps),todo:=.inRegion ops js::fk }:=by simp only [Frame.finish,hft,h.1,Option.bind_some];cases o.dst<;>rfl
           rw [hfin];have hz:=zmg o fr.tmps x;refine ⟨?_,ht,?_,h4,h5⟩
           ·cases fi;exact h1
           ·simp only [hz];exact .cons (.inReg h.2 ho') hk
     | @inRF l b h=>
       refine hK _ ?_ rfl;have hfin:fr.finish x={ fr with todo:=.endRangeFunc b.block::fk }:=(by simp only [Frame.finish,hft]);rw [hfin]
       exact ⟨by cases fi;exact h1,h2,.cons (.endRF h) hk,h4,h5⟩
     | _=>exact hbad
theorem zyi {n id:Nat} {l:List SI} {k:List Item} (h:IL ρ n l k):match zv6 l id with
 | none=>exitTo id k=none
 | some l'=>∃ k',exitTo id k=some k'/\IL ρ n l' k':=by
 induction h with
 | nil=>rfl
 | @cons i x l k hi ht ih=>
   show match exit2 i id l (zv6 l id) with|none=>_|some l'=>_
   cases hi with
   | inBlock id'=>
     show match exit1 (Nat.beq id' id) l (zv6 l id) with|none=>_|some l'=>_
     cases hb:Nat.beq id' id with
     | true=>
       have:(id'==id)=true:=by rw [beq_iff_eq];exact Nat.eq_of_beq_eq_true hb
       exact ⟨k,by simp [exitTo,this],ht⟩
     | false=>
       have:(id'==id)=false:=by rw [beq_eq_false_iff_ne];intro e;rw [e] at hb;simp at hb
       simp only [exitTo,this];exact ih
   | _=>simp only [exitTo];exact ih
theorem zyn {n lb:Nat} {l:List SI} {k:List Item} (h:IL ρ n l k):match zo3 lb l with
 | none=>gotoIn lb k=none
 | some l'=>∃ k',gotoIn lb k=some k'/\IL ρ n l' k':=by
 induction h with
 | nil=>rfl
 | @cons i x l k hi ht ih=>
   cases hi with
   | @inScope c hc=>
     simp only [zo3,gotoIn]
     cases hfl:findLabel c lb with
     | none=>exact ih
     | some rest=>exact ⟨_,rfl,.cons (.code (zeg lb hfl hc)) (.cons (.inScope hc) ht)⟩
   | _=>simp only [zo3,gotoIn];exact ih
theorem zc9 {tm:T SV} {ts:Array Value} (h:TR ρ tm ts) (ops:Array Oper) (j:Nat):syielded ops tm j=yielded ops ts j:=by
 have key:∀ d:Nat,zlf (sget (pa d) tm)=match ts[d]? with|some (.bool b)=>some b|_=>none:=by
  intro d;have hd:=h d;have hget:ts.getD d undef=(ts[d]?).getD undef:=by rw [Array.getD_eq_getD_getElem?]
  rw [hget] at hd;generalize hv:sget (pa d) tm=v at hd
  cases ht:ts[d]? with
  | none=>rw [ht] at hd;cases hd<;>rfl
  | some x=>
    rw [ht] at hd;simp only [Option.getD_some] at hd
    cases hd with
    | lit=>cases x<;>rfl
    | any h=>cases x<;>first|(cases h;done)|rfl
    | _=>rfl
 unfold syielded yielded;rw [zt4,Array.getElem?_toList]
 cases ops[j]? with
 | none=>rfl
 | some o=>
   show yield2 (z74 o) tm=_;rw [z5s];simp only [Option.bind_some]
   cases o.dst with
   | none=>rfl
   | some d=>exact key d
end
end Go.Play
namespace Go.Play
def zr (P:Program) (G:Glob) (M:Nat->Prop) (ρ:Env) (h:H) (w:World) (f0:FuncId) (base:List Frame) (m:Machine):Res->Prop
 | .next f cs h'=>∃ ρ' w' fr crs,Steps P m (lone fr crs w')/\SR ρ' f0 base f cs fr crs/\Sim P G M ρ' h' w'/\Grow M ρ h w ρ' h' w'
 | .done v h'=>∃ ρ' w' fr x,Steps P m (lone fr base w')/\fr.fn=f0/\fr.leaving P w' (.returned x)/\VR ρ' v x/\Sim P G M ρ' h' w'/\Grow M ρ h w ρ' h' w'
 | .pan c h'=>∃ ρ' w' fr es,Steps P m (lone fr base w')/\fr.fn=f0/\fr.leaving P w' (.panicked es)/\CR ρ' c es/\Sim P G M ρ' h' w'/\Grow M ρ h w ρ' h' w'
 | .bad=>True
section
variable {P:Program} {G:Glob} {M:Nat->Prop} {ρ ρ1:Env} {h h1:H} {w w1:World} {f0:FuncId} {base:List Frame}
theorem zr.bad {m:Machine}:zr P G M ρ h w f0 base m .bad:=trivial
theorem zr.after {m m1:Machine} {r:Res} (hst:Steps P m m1) (hg:Grow M ρ h w ρ1 h1 w1) (k:zr P G M ρ1 h1 w1 f0 base m1 r):zr P G M ρ h w f0 base m r:=by
 cases r with
 | next f cs h'=>obtain ⟨ρ',w',fr,crs,k1,k2,k3,k4⟩:=k;exact ⟨ρ',w',fr,crs,hst.trans k1,k2,k3,hg.trans k4⟩
 | done v h'=>obtain ⟨ρ',w',fr,x,k1,k2,k3,k4,k5,k6⟩:=k;exact ⟨ρ',w',fr,x,hst.trans k1,k2,k3,k4,k5,hg.trans k6⟩
 | pan v h'=>obtain ⟨ρ',w',fr,x,k1,k2,k3,k4,k5,k6⟩:=k;exact ⟨ρ',w',fr,x,hst.trans k1,k2,k3,k4,k5,hg.trans k6⟩
 | bad=>trivial
theorem zr.steps {m m1:Machine} {r:Res} (hst:Steps P m m1) (k:zr P G M ρ h w f0 base m1 r):zr P G M ρ h w f0 base m r:=k.after hst .refl
theorem zr.here (s:Sim P G M ρ h w) {f:SF} {cs:List SF} {fr:Frame} {crs:List Frame} (hs:SR ρ f0 base f cs fr crs):zr P G M ρ h w f0 base (lone fr crs w) (.next f cs h):=
 ⟨ρ,w,fr,crs,.refl _ _,hs,s,.refl⟩
theorem zlc:∀ (args:List SV) (t:T SV) (i:Pa) (K:T SV->Res),∃ t',zi7 args t i K=K t'/\∀ p:Pa,sget p t'=if i.num<=p.num/\p.num<i.num+args.length then args.getD (p.num-i.num) z2h else sget p t:=by
 intro args
 induction args with
 | nil=>intro t i K;exact ⟨t,rfl,fun p=>by rw [if_neg (by simp only [List.length_nil];omega)]⟩
 | cons v l ih=>
   intro t i K;obtain ⟨t',e,hg⟩:=ih (sset' i v t) (Pa.succ i) K;refine ⟨t',?_,fun p=>?_⟩
   ·show sset i v t (fun t=>zi7 l t (Pa.succ i) K)=_;rw [zdj];exact e
   ·rw [hg p,Pa.num_succ,z45];simp only [List.length_cons];by_cases h1:p=i
    ·subst h1;rw [if_neg (by omega),if_pos rfl,if_pos (by omega)];simp
    ·have hne:p.num≠i.num:=fun e=>h1 (Pa.num_inj e);rw [if_neg h1];by_cases h2:i.num+1<=p.num/\p.num<i.num+1+l.length
     ·rw [if_pos h2,if_pos (by omega)];obtain ⟨k,hk⟩:∃ k,p.num-i.num=k+1:=⟨p.num-i.num-1,by omega⟩;rw [hk,show p.num-(i.num+1)=k by omega];simp
     ·rw [if_neg h2,if_neg (by omega)]
theorem zlk {f:FuncId} {args:List SV} {xs:Array Value} {kind:CallKind} (hl:VRL ρ args xs.toList) {K:SF->Res} {Q:Res->Prop} (hbad:Q .bad)
 (hK:∀ f',SFR ρ f' (Frame.enter P f xs kind)->fiOf f'=.mk f kind none->(∃ fn,P.funcs[f]? =some fn/\fn.body.isSome=true)->Q (K f')):Q (z56 P f args kind K):=by
 unfold z56
 cases hf:z95 P f with
 | none=>exact hbad
 | some fn=>
   rw [z78] at hf;show Q (enter2 fn.body f fn.ntmps args kind K)
   cases hb:fn.body with
   | none=>exact hbad
   | some c=>
     show Q (enter3 (z1n c fn.ntmps) c f args kind K)
     cases hc:z1n c fn.ntmps with
     | false=>exact hbad
     | true=>
       show Q (zi7 args .nil .e fun tm=>K (.mk (.mk f kind none) tm [.code c] [] .run));obtain ⟨t',e,hg⟩:=zlc args .nil .e (fun tm=>K (.mk (.mk f kind none) tm [.code c] [] .run));rw [e];have hfr:Frame.enter P f xs kind={ fn:=f,tmps:=xs++Array.replicate (fn.ntmps-xs.size) undef,todo:=[.code c],defers:=[],mode:=.run,kind }:=by simp [Frame.enter,hf,hb]
       refine hK _ ?_ rfl ⟨fn,hf,by rw [hb];rfl⟩;rw [hfr];refine ⟨⟨rfl,rfl,rfl⟩,?_,.cons (.code (z4v ?_ hc)) .nil,.nil,.run⟩
       ·intro i;rw [hg (pa i),zmd,zxm];have hn:Pa.num .e=0:=rfl;have hlen:args.length=xs.size:=(by rw [hl.length,Array.length_toList]);simp only [hn,Nat.zero_le,true_and,Nat.zero_add,Nat.sub_zero,Array.getD_eq_getD_getElem?];by_cases hi:i<args.length
        ·rw [if_pos hi];obtain ⟨x,hx,hv⟩:=hl.get i args[i] (by simp [hi]);rw [Array.getElem?_append_left (by omega),<-Array.getElem?_toList,hx];simp only [List.getD_eq_getElem?_getD,List.getElem?_eq_getElem hi,Option.getD_some];exact hv
        ·rw [if_neg hi,Array.getElem?_append_right (by omega)];have:((Array.replicate (fn.ntmps-xs.size) undef)[i-xs.size]?).getD undef=undef:=by
          rw [Array.getElem?_replicate];split<;>rfl
         rw [this];exact .lit _
       ·simp;omega
theorem z9j {fr:Frame} {crs:List Frame} {l:List SI} {n:Nat} (hl:IL ρ n l fr.todo) {q:Sem Next} {g:FuncId} {xs:Array Value} {w':World} (hr:q.run P w=.ok (.enter g xs) w'):
 (stepG.apply P true fr crs none q w).bare=.go { frame:=Frame.enter P g xs .normal,callers:=fr::crs,status:=.running,dying:=none } w':=by
 obtain ⟨fn,tmps,todo,defers,mode,kind,ro⟩:=fr
 cases hl with
 | nil=>simp only [stepG.apply,Sem.runT_eq,hr,GStep.bare_after,if_true];rfl
 | cons hi _=>cases hi<;>(simp only [stepG.apply,Sem.runT_eq,hr,GStep.bare_after,if_true];rfl)
theorem zw1 {m:FrameMode} (h:MR ρ .run m):m=.run:=by cases h;rfl
theorem zuj (s:Sim P G M ρ h w) {fi:FI} {tm:T SV} {todo:List SI} {de:List SDef} {cs:List SF} {fr:Frame} {crs:List Frame} (hs:SR ρ f0 base (.mk fi tm todo de .run) cs fr crs)
 {q:Sem Next} {e:Eff} (he:z3x P G M ρ h w (q.run P w) e) {fr0:Frame} {w0:World}
 (hgo:(stepG P true { frame:=fr0,callers:=crs,status:=.running,dying:=none } w0).bare=(stepG.apply P true fr crs none q w).bare):
 zr P G M ρ h w f0 base (lone fr0 crs w0) (effE e P fi tm todo de cs h):=by
 have hf:=hs.top
 cases e with
 | val v h'=>
   obtain ⟨ρ',w',s',g',hr⟩:=he;change zr P G M ρ h w f0 base _ (z9v (.mk fi tm todo de .run) v fun f=>.next f cs h');have key:∀ x,VR ρ' v x->Go.step P (lone fr0 crs w0)=.next (lone (fr.finish x) crs w')->zr P G M ρ h w f0 base (lone fr0 crs w0) (z9v (.mk fi tm todo de .run) v fun f=>.next f cs h'):=by intro x hv hst;refine zeh (SFR.mono g'.keep hf) hv .bad fun f' hf' hfi=>?_;exact ⟨ρ',w',_,crs,.one hst,hs.re g'.keep hf' hfi,s',g'⟩
   rcases hr with ⟨x,hr,hv⟩|⟨hr,rfl⟩
   ·exact key x hv (step_lone_go (by rw [hgo];simp only [stepG.apply,Sem.runT_eq,hr,GStep.bare_after,if_true];rfl))
   ·exact key undef (.lit _) (step_lone_go (by rw [hgo];simp only [stepG.apply,Sem.runT_eq,hr,GStep.bare_after,if_true];rfl))
 | enter g args=>
   obtain ⟨xs,hr,hl⟩:=he;change zr P G M ρ h w f0 base _ (z56 P g args .normal fun f=>.next f (.mk fi tm todo de .run::cs) h);refine zlk hl .bad fun f' hf' hfi _=>?_;refine ⟨ρ,w,_,fr::crs,.one (step_lone_go ?_),.cons hf' hs,s,.refl⟩
   rw [hgo];exact z9j hf.todo hr
 | _=>exact .bad
end
end Go.Play
namespace Go.Play
section
variable {P:Program} {G:Glob} {M:Nat->Prop} {ρ ρ1:Env} {h h1:H} {w w1:World} {f0:FuncId} {base:List Frame}
theorem zpd (s:Sim P G M ρ h w) {tm:T SV} {ts:Array Value} (ht:TR ρ tm ts) {r:ResultVar} {v:SV} (hr:zde r P G h tm=some v):
 ∃ x,((match r with|.tmp t=>pure (ts.getD t undef)|.cell a t=>do loadVar t (<- asAddr (ts.getD a undef))):Sem Value).run P w=.ok x w/\VR ρ v x:=by
 cases r with
 | tmp t=>cases hr;exact ⟨_,rfl,ht t⟩
 | cell a t=>
   change zkr (zoj (zu P t) (sget (pa a) tm) G h) (aggT P t)=some v at hr
   cases hn:zu P t with
   | none=>rw [hn] at hr;cases hr
   | some n=>
     rw [hn] at hr;change zkr (zoi (sget (pa a) tm) G h n) (aggT P t)=some v at hr
     cases hl:zoi (sget (pa a) tm) G h n with
     | none=>rw [hl] at hr;cases hr
     | some l=>
       rw [hl] at hr;change zor (aggT P t) l=some v at hr;obtain ⟨bk,o,hx0,xs,hlen,hrel,hx⟩:=zbp s (ht a) hl
       cases hb:aggT P t with
       | none=>rw [hb] at hr;cases hr
       | some b=>
         rw [hb] at hr;have hrun:=zc3 (P:=P) (w:=w) (bk:=bk) (o:=o) (xs:=xs) hb (by rw [hlen];exact hn) hx;have hadr:∀ {α:Type} (k:Addr->Sem α),((asAddr (ts.getD a undef)) >>= k).run P w=(k ⟨bk,o,none⟩).run P w:=by intro α k;rw [hx0];rfl
         rcases zh0 hrel hr with ⟨rfl,hv⟩|⟨rfl,x,rfl,hv⟩
         ·exact ⟨_,by simp only [];rw [hadr];exact hrun.1 rfl,hv⟩
         ·exact ⟨_,by simp only [];rw [hadr];exact hrun.2 rfl x rfl,hv⟩
theorem zks (s:Sim P G M ρ h w) {tm:T SV} {ts:Array Value} (ht:TR ρ tm ts):∀ (l:List ResultVar) {vs:List SV},z4z l P G h tm=some vs->
 ∃ xs:List Value,(l.mapM (fun r=>(match r with|.tmp t=>pure (ts.getD t undef)|.cell a t=>do loadVar t (<- asAddr (ts.getD a undef)):Sem Value))).run P w=.ok xs w/\VRL ρ vs xs:=by
 intro l
 induction l with
 | nil=>intro vs hv;cases hv;exact ⟨[],rfl,.nil⟩
 | cons r l ih=>
   intro vs hv;change zxb (zde r P G h tm) (z4z l P G h tm)=some vs at hv
   cases h1:zde r P G h tm with
   | none=>rw [h1] at hv;cases hv
   | some v=>
     rw [h1] at hv;change ze7 (z4z l P G h tm) v=some vs at hv
     cases h2:z4z l P G h tm with
     | none=>rw [h2] at hv;cases hv
     | some us=>rw [h2] at hv;cases hv;obtain ⟨x,hx,hvx⟩:=zpd s ht h1;obtain ⟨xs,hxs,hrel⟩:=ih h2;refine ⟨x::xs,?_,.cons hvx hrel⟩;rw [List.mapM_cons];simp only [Sem.run_bind,hx,Result.andThen_ok,hxs,Sem.run_pure]
theorem zpe (s:Sim P G M ρ h w) {tm:T SV} {ts:Array Value} (ht:TR ρ tm ts) {fn:FuncId} {v:SV} (hv:results1 (z95 P fn) P G h tm=some v):
 ∃ f x,P.funcs[fn]? =some f/\(results f ts).run P w=.ok x w/\VR ρ v x:=by
 cases hf:z95 P fn with
 | none=>rw [hf] at hv;cases hv
 | some f=>
   rw [hf] at hv;change tupO (z4z f.results.toList P G h tm)=some v at hv
   cases hl:z4z f.results.toList P G h tm with
   | none=>rw [hl] at hv;cases hv
   | some vs=>
     rw [hl] at hv;cases hv;obtain ⟨xs,hxs,hrel⟩:=zks s ht _ hl;rw [z78] at hf;have hm:(f.results.mapM (fun r=>(match r with|.tmp t=>pure (ts.getD t undef)|.cell a t=>do loadVar t (<- asAddr (ts.getD a undef)):Sem Value))).run P w=.ok xs.toArray w:=by rw [Array.mapM_eq_mapM_toList];simp only [Sem.run_map,hxs,Result.andThen_ok]
     refine ⟨f,if hz:xs.toArray.size=1 then xs.toArray[0] else .tuple xs.toArray,hf,?_,?_⟩
     ·unfold results;simp only [Sem.run_bind];refine (congrArg (fun r=>Result.andThen r _) hm).trans ?_;rfl
     ·cases hrel with
      | nil=>exact .tup .nil
      | cons h1 t=>
        cases t with
        | nil=>exact h1
        | cons h2 t=>rw [dif_neg (by simp)];exact .tup (.cons h1 (.cons h2 t))
theorem SR.inv {f:SF} {cs:List SF} {fr:Frame} {crs:List Frame} (hs:SR ρ f0 base f cs fr crs):
 (cs=[]/\crs=base/\fiOf f=.mk f0 .normal none)∨∃ g cs' gr crs',cs=g::cs'/\crs=gr::crs'/\SR ρ f0 base g cs' gr crs':=by
 cases hs with
 | last _ hf=>exact .inl ⟨rfl,rfl,hf⟩
 | cons _ t=>exact .inr ⟨_,_,_,_,rfl,rfl,t⟩
theorem z2k {fr cr:Frame} {crs:List Frame} {x:Value}:(doReturn P true fr (cr::crs) none x w).bare=doReturn P true fr (cr::crs) none x w:=by unfold doReturn;cases fr.kind<;>rfl
theorem ziq (s:Sim P G M ρ h w) {kind:CallKind} {fr:Frame} (hk:fr.kind=kind) {c:SF} {rest:List SF} {cr:Frame} {crs:List Frame} (t:SR ρ f0 base c rest cr crs) {v:SV} {x:Value} (hv:VR ρ v x)
 {fr0:Frame} {w0:World} (hgo:(stepG P true { frame:=fr0,callers:=cr::crs,status:=.running,dying:=none } w0).bare=(doReturn P true fr (cr::crs) none x w).bare):
 zr P G M ρ h w f0 base (lone fr0 (cr::crs) w0) (zea kind c rest v h):=by
 cases kind with
 | normal=>
   refine zeh t.top hv .bad fun f' hf' hfi=>?_;refine ⟨ρ,w,_,_,.one (step_lone_go ?_),t.re (.refl _) hf' hfi,s,.refl⟩
   rw [hgo,z2k];simp only [doReturn,hk]
 | deferred=>
   change zr P G M ρ h w f0 base _ (zai c rest h);obtain ⟨fi,tm,todo,de,mode⟩:=c;have hc:=t.top;have hm:=hc.mode;generalize hmm:cr.mode=cm at hm;have hfi:∀ m,FIR ρ fi { cr with mode:=m }:=by have:=hc.fi;cases fi;exact fun _=>this
   cases hm with
   | run=>exact .bad
   | ret=>
     change zr P G M ρ h w f0 base _ (.next (.mk fi tm todo de .ret) rest h);refine ⟨ρ,w,cr,crs,.one (step_lone_go ?_),t,s,.refl⟩
     rw [hgo,z2k];simp only [doReturn,hk,hmm]
   | pan hcr=>
     cases hcr with
     | nil=>
       change zr P G M ρ h w f0 base _ (.next (.mk fi tm todo de (.pan [])) rest h);refine ⟨ρ,w,cr,crs,.one (step_lone_go ?_),t,s,.refl⟩
       rw [hgo,z2k];simp only [doReturn,hk,hmm]
     | @cons u y r l es hu ht=>
       cases r with
       | false=>
         change zr P G M ρ h w f0 base _ (.next (.mk fi tm todo de (.pan ((u,false)::l))) rest h);refine ⟨ρ,w,cr,crs,.one (step_lone_go ?_),t,s,.refl⟩
         rw [hgo,z2k];simp only [doReturn,hk,hmm]
       | true=>
         change zr P G M ρ h w f0 base _ (.next (.mk fi tm todo de .ret) rest h);have hdrop:es.dropWhile (fun e=> !e.goexit)=[]:=by
          have hq:=ht.quiet;clear ht hmm hgo
          induction es with
          | nil=>rfl
          | cons e es ih=>rw [List.dropWhile_cons,hq e (by simp)];simpa using ih fun e' he'=>hq e' (by simp [he'])
         refine ⟨ρ,w,{ cr with mode:=.returning },crs,.one (step_lone_go ?_),t.re (.refl _) ⟨hfi _,hc.tmps,hc.todo,hc.defers,.ret⟩ rfl,s,.refl⟩
         rw [hgo,z2k];simp only [doReturn,hk,hmm,hdrop]
 | _=>exact .bad
theorem zhs {fr:Frame} {crs:List Frame} (hm:fr.mode=.returning) (hd:fr.defers=[]) {fn:Func} (hf:P.funcs[fr.fn]? =some fn) {x:Value} (hr:(results fn fr.tmps).run P w=.ok x w):
 (stepG P true { frame:=fr,callers:=crs,status:=.running,dying:=none } w).bare=(doReturn P true fr crs none x w).bare:=by
 simp [stepG,unwind,hm,hd,hf,hr]
theorem z014 (s:Sim P G M ρ h w) {fn:FuncId} {kind:CallKind} {tm:T SV} {todo:List SI} {cs:List SF} {fr:Frame} {crs:List Frame} (hs:SR ρ f0 base (.mk (.mk fn kind none) tm todo [] .ret) cs fr crs):
 zr P G M ρ h w f0 base (lone fr crs w) (retO (results1 (z95 P fn) P G h tm) cs kind h):=by
 cases hv:results1 (z95 P fn) P G h tm with
 | none=>exact .bad
 | some v=>
   have hf:=hs.top;obtain ⟨hfn,hk,_⟩:=hf.fi;obtain ⟨f,x,h1,h2,h3⟩:=zpe s hf.tmps hv;rw [<- hfn] at h1;have hm:fr.mode=.returning:=by have:=hf.mode;generalize fr.mode=m at this;cases this;rfl
   have hd:fr.defers=[]:=by have:=hf.defers;generalize fr.defers=d at this;cases this;rfl
   have hgo:=zhs (crs:=crs) hm hd h1 h2;change zr P G M ρ h w f0 base _ (zeb cs kind v h);rcases hs.inv with ⟨rfl,rfl,hfi⟩|⟨g,cs',gr,crs',rfl,rfl,t⟩
   ·have hfi:FI.mk fn kind none=.mk f0 .normal none:=hfi;injection hfi with e1 e2;subst e1 e2;exact ⟨ρ,w,fr,x,.refl _ _,hfn,⟨hm,hd,hk,f,h1,h2⟩,h3,s,.refl⟩
   ·exact ziq s hk t h3 hgo
theorem zd2 (s:Sim P G M ρ h w) {fi:FI} {tm:T SV} {todo:List SI} {de:List SDef} {cs:List SF} {fr:Frame} {crs:List Frame} (hs:SR ρ f0 base (.mk fi tm todo de .run) cs fr crs)
 (jump:Option Code) (hj:∀ c,jump=some c->∀ n,z1n c n=true)
 (hst:zse jump=true->fr.roundOf=none->Go.step P (lone fr crs w)=.next (lone { fr with mode:=.returning } crs w))
 (hrd:∀ l v w',fr.roundOf=some l->(Instr.endRound l jump).run P w=.ok v w'->(stepG P true { frame:=fr,callers:=crs,status:=.running,dying:=none } w).bare=(doReturn P true fr crs none v w').bare):
 zr P G M ρ h w f0 base (lone fr crs w) (leave fi P G tm todo de cs h jump):=by
 have hf:=hs.top;obtain ⟨fn,kind,ro⟩:=fi;obtain ⟨hfn,hk,hro⟩:=hf.fi
 cases ro with
 | none=>
   change zr P G M ρ h w f0 base _ (leave3 (zse jump) de P G fn kind tm todo cs h)
   cases hr:zse jump with
   | false=>exact .bad
   | true=>
     have hst:=hst hr hro;have hs':SR ρ f0 base (.mk (.mk fn kind none) tm todo de .ret) cs { fr with mode:=.returning } crs:=hs.re (.refl _) (f':=.mk (.mk fn kind none) tm todo de .ret) ⟨hf.fi,hf.tmps,hf.todo,hf.defers,.ret⟩ rfl;refine zr.steps (.one hst) ?_
     cases de with
     | nil=>exact z014 s hs'
     | cons d ds=>exact .here s hs'
 | some l=>exact .bad
end
end Go.Play
namespace Go.Play
def zms (P:Program) (G:Glob) (R:RunF):Prop:=
 ∀ (M:Nat->Prop) (ρ:Env) (h:H) (w:World) (f0:FuncId) (base:List Frame) (f:SF) (cs:List SF) (fr:Frame) (crs:List Frame),(∃ fn,P.funcs[f0]? =some fn)->Sim P G M ρ h w->SR ρ f0 base f cs fr crs->zr P G M ρ h w f0 base (lone fr crs w) (R f cs h)
def zds (P:Program) (G:Glob) (R:RunF):Prop:=
 ∀ (M:Nat->Prop) (ρ:Env) (h:H) (w:World) (f0:FuncId) (base:List Frame) (fi:FI) (tm:T SV) (id:Nat) (ops:Array Oper) (k:List SI) (de:List SDef) (cs:List SF) (fr:Frame) (crs:List Frame),(∃ fn,P.funcs[f0]? =some fn)->Sim P G M ρ h w->
  SR ρ f0 base (.mk fi tm (.code (.region id ops true)::k) de .run) cs fr crs->zr P G M ρ h w f0 base (lone fr crs w) (z007 (plan ops) ops P G (.mk fi de cs R) tm k h)
section
variable {P:Program} {G:Glob} {M:Nat->Prop} {ρ ρ1:Env} {h h1:H} {w w1:World} {f0:FuncId} {base:List Frame}
theorem zy {n:Nat} {i:SI} {l:List SI} {ft:List Item} (h:IL ρ n (i::l) ft):∃ x k,ft=x::k/\IR ρ n i x/\IL ρ n l k:=by cases h with|cons h t=>exact ⟨_,_,rfl,h,t⟩
theorem zrf {fi:FI} {fr:Frame} (h:FIR ρ fi fr) (k:List Item):FIR ρ fi { fr with todo:=k }:=by cases fi;exact h
theorem SR.to {fi:FI} {tm:T SV} {todo todo':List SI} {de:List SDef} {cs:List SF} {fr:Frame} {crs:List Frame} (hs:SR ρ f0 base (.mk fi tm todo de .run) cs fr crs) {k:List Item} (hk:IL ρ fr.tmps.size todo' k):
 SR ρ f0 base (.mk fi tm todo' de .run) cs { fr with todo:=k } crs:=
 hs.re (.refl _) (f':=.mk fi tm todo' de .run) ⟨zrf hs.top.fi k,hs.top.tmps,hk,hs.top.defers,hs.top.mode⟩ rfl
theorem SR.mode {fi:FI} {tm:T SV} {todo:List SI} {de:List SDef} {cs:List SF} {fr:Frame} {crs:List Frame} (hs:SR ρ f0 base (.mk fi tm todo de .run) cs fr crs):fr.mode=.run:=zw1 hs.top.mode
theorem z4u (s:Sim P G M ρ h w) {fi:FI} {tm:T SV} {todo:List SI} {de:List SDef} {cs:List SF} {fr:Frame} {crs:List Frame} (R:RunF) (hs:SR ρ f0 base (.mk fi tm todo de .run) cs fr crs):
 zr P G M ρ h w f0 base (lone fr crs w) (zd5 (.mk fi de cs R) tm todo h):=.here s hs
theorem zkx (d:Option Tmp) (op:Op) (ty:TypeId) (P:Program) (G:Glob) (o:Oper) (rest:List Oper) (c:Cx) (tm:T SV) (h:H) (K:T SV->H->Res):
 zwn (comp2 d op ty P G) o rest P c tm h K=zc2 (sop op ty P G tm h) (sop op ty P G tm h) d o rest P c tm h K:=by
 cases d with
 | none=>rfl
 | some d=>cases op<;>rfl
theorem zpg (o:Oper) (P:Program) (G:Glob) (rest:List Oper) (c:Cx) (tm:T SV) (h:H) (K:T SV->H->Res):
 zwn (comp o P G) o rest P c tm h K=match o.guard with
  | none=>zc2 (sop o.op o.type P G tm h) (sop o.op o.type P G tm h) o.dst o rest P c tm h K
  | some (j,want)=>match z79 (syielded (zth c) tm j) want with
    | true=>zc2 (sop o.op o.type P G tm h) (sop o.op o.type P G tm h) o.dst o rest P c tm h K
    | false=>setO o.dst z2h tm fun tm=>K tm h:=by
 obtain ⟨dst,op,ty,pos,after,guard⟩:=o
 cases guard with
 | none=>exact zkx dst op ty P G _ rest c tm h K
 | some g=>obtain ⟨j,want⟩:=g;show zxr (z79 (syielded (zth c) tm j) want) dst (sop op ty P G) _ rest P c tm h K=_;simp only [];generalize z79 (syielded (zth c) tm j) want=b;cases b<;>rfl
theorem zgi (y:Option Bool) (want:Bool):z79 y want=(y==some want):=by
 cases y with
 | none=>rfl
 | some b=>cases b<;>cases want<;>rfl
theorem z4l {fr:Frame} {crs:List Frame} (hm:fr.mode=.run) {ops:Array Oper} {i:Nat} {is:List Nat} {k:List Item} (ht:fr.todo=.inRegion ops (i::is)::k) {o:Oper} (ho:ops[i]? =some o)
 (hw:Region.wanted o (yielded ops fr.tmps)=true) (hd:fr.roundOf=none∨∀ c,o.op≠.defer c):
 stepG P true { frame:=fr,callers:=crs,status:=.running,dying:=none } w=stepG.apply P true fr crs none (execOp fr.eval o) w:=by
 simp only [stepG,hm,stepG.exec,ht,ho,Option.map_some,hw,Option.getD_some,if_true,stepG.oper,Frame.oper?];rcases hd with hd|hd
 ·rw [hd]
 ·cases hr:fr.roundOf with
  | none=>rfl
  | some l=>obtain ⟨dst,op,ty,pos,after,guard⟩:=o;cases op<;>first|rfl|exact absurd rfl (hd _)
theorem z51 {fr:Frame} {crs:List Frame} (hm:fr.mode=.run) {ops:Array Oper} {i:Nat} {is:List Nat} {k:List Item} (ht:fr.todo=.inRegion ops (i::is)::k) {o:Oper} (ho:ops[i]? =some o)
 (hw:Region.wanted o (yielded ops fr.tmps)=false):Go.step P (lone fr crs w)=.next (lone (fr.finish undef) crs w):=
 step_lone_go (by simp [stepG,hm,stepG.exec,ht,ho,hw])
theorem zll {tm:T SV} {fr:Frame} (ht:TR ρ tm fr.tmps) (x:Operand):VR ρ (ev x tm) (fr.eval x):=
 zxe ht (fun _=>rfl) (fun _=>rfl) (fun _=>rfl) (fun _=>rfl) x
theorem z80 {fi:FI} {tm:T SV} {ops:Array Oper} {o:Oper} {rest:List Oper} {k:List SI} {de:List SDef} {cs:List SF} {fr:Frame} {crs:List Frame}
 (hs:SR ρ f0 base (.mk fi tm (.inReg ops (o::rest)::k) de .run) cs fr crs) (hle:Env.le ρ ρ1) {v:SV} {x:Value} (hv:VR ρ1 v x) (K:T SV->Res):
 ∃ tm',setO o.dst v tm K=K tm'/\SR ρ1 f0 base (.mk fi tm' (.inReg ops rest::k) de .run) cs (fr.finish x) crs:=by
 obtain ⟨it,kt,hft,hi,hk⟩:=zy hs.top.todo
 cases hi with
 | @inReg _ _ is he ho=>
   cases is with
   | nil=>cases he
   | cons j js=>
     simp only [List.map_cons,List.cons.injEq] at he;obtain ⟨hd,ho'⟩:=zbs ho;obtain ⟨tm',e,ht⟩:=ztz (hs.top.tmps.mono hle) hd hv K;rw [z5s] at e;refine ⟨tm',e,?_⟩;have hfin:fr.finish x={ fr with tmps:=(match o.dst with|some d=>fr.tmps.setIfInBounds d x|none=>fr.tmps),todo:=.inRegion ops js::kt }:=by simp only [Frame.finish,hft,he.1,Option.bind_some];cases o.dst<;>rfl
     rw [hfin];have hz:=zmg o fr.tmps x;refine hs.re hle (f':=.mk fi tm' (.inReg ops rest::k) de .run) ⟨?_,ht,?_,hs.top.defers.mono hle,hs.top.mode.mono hle⟩ rfl
     ·have:=hs.top.fi.mono hle;cases fi;exact this
     ·have hil:IL ρ1 fr.tmps.size (.inReg ops rest::k) (.inRegion ops js::kt):=.cons (.inReg he.2 ho') (hk.mono hle (Nat.le_refl _));rw [<- hz] at hil;exact hil
theorem zhr {op:Op} {c:Call} (h:op=.defer c) (ty:TypeId) (tm:T SV) (h0:H):sop op ty P G tm h0=.bad∨∃ d,sop op ty P G tm h0=.defer d:=by subst h;exact .inl rfl
theorem zhm (R:RunF) {fi:FI} {de:List SDef} {cs:List SF} {ops:Array Oper} {k:List SI}:∀ (l:List Oper) {ρ:Env} {tm:T SV} {h:H} {w:World} {fr:Frame} {crs:List Frame},Sim P G M ρ h w->
 SR ρ f0 base (.mk fi tm (.inReg ops l::k) de .run) cs fr crs->zr P G M ρ h w f0 base (lone fr crs w) (z7j l P G (.mk ops (.mk fi de cs R) k) tm h):=by
 intro l
 induction l with
 | nil=>
   intro ρ tm h w fr crs s hs;obtain ⟨it,kt,hft,hi,hk⟩:=zy hs.top.todo
   cases hi with
   | @inReg _ _ is he ho=>
     cases is with
     | cons j js=>cases he
     | nil=>
       have hst:Go.step P (lone fr crs w)=.next (lone { fr with todo:=kt } crs w):=step_lone_go (by simp [stepG,hs.mode,stepG.exec,hft])
       exact zr.steps (.one hst) (z4u s R (hs.to hk))
 | cons o rest ih=>
   intro ρ tm h w fr crs s hs;obtain ⟨it,kt,hft,hi,hk⟩:=zy hs.top.todo
   cases hi with
   | @inReg _ _ is he ho=>
     cases is with
     | nil=>cases he
     | cons j js=>
       simp only [List.map_cons,List.cons.injEq] at he;have hoj:=he.1;change zr P G M ρ h w f0 base _ (zwn (comp o P G) o rest P (.mk ops (.mk fi de cs R) k) tm h (z7j rest P G (.mk ops (.mk fi de cs R) k)));rw [zpg];have done:Region.wanted o (yielded ops fr.tmps)=true->zr P G M ρ h w f0 base (lone fr crs w) (zc2 (sop o.op o.type P G tm h) (sop o.op o.type P G tm h) o.dst o rest P (.mk ops (.mk fi de cs R) k) tm h (z7j rest P G (.mk ops (.mk fi de cs R) k))):=by
        intro hw;have he:=zmh s o (zll hs.top.tmps);have hcase:(fr.roundOf=none∨∀ c,o.op≠.defer c)∨(∃ l,fr.roundOf=some l)/\∃ c,o.op=.defer c:=by
         cases hr:fr.roundOf with
         | none=>exact .inl (.inl rfl)
         | some l=>
           by_cases hc:∃ c,o.op=.defer c
           ·exact .inr ⟨⟨l,rfl⟩,hc⟩
           ·exact .inl (.inr fun c e=>hc ⟨c,e⟩)
        rcases hcase with hcase|⟨⟨l,hl⟩,c,hc⟩
        ·have hgo:=z4l (P:=P) (w:=w) (crs:=crs) hs.mode hft hoj hw hcase;have hap:=zuj s hs he (fr0:=fr) (w0:=w) (by rw [hgo]);generalize sop o.op o.type P G tm h=e at he hap
         cases e with
         | val v h'=>
           obtain ⟨ρ',w',s',g',hr⟩:=he;change zr P G M ρ h w f0 base _ (setO o.dst v tm fun tm=>z7j rest P G (.mk ops (.mk fi de cs R) k) tm h');have key:∀ x,VR ρ' v x->Go.step P (lone fr crs w)=.next (lone (fr.finish x) crs w')->zr P G M ρ h w f0 base (lone fr crs w) (setO o.dst v tm fun tm=>z7j rest P G (.mk ops (.mk fi de cs R) k) tm h'):=by intro x hv hst;obtain ⟨tm',e,hs'⟩:=z80 hs g'.keep hv (fun tm=>z7j rest P G (.mk ops (.mk fi de cs R) k) tm h');rw [e];exact (ih s' hs').after (.one hst) g'
           rcases hr with ⟨x,hr,hv⟩|⟨hr,rfl⟩
           ·exact key x hv (step_lone_go (by rw [hgo];simp only [stepG.apply,Sem.runT_eq,hr,GStep.bare_after,if_true];rfl))
           ·exact key undef (.lit _) (step_lone_go (by rw [hgo];simp only [stepG.apply,Sem.runT_eq,hr,GStep.bare_after,if_true];rfl))
         | bad=>exact .bad
         | _=>exact hap
        ·rcases zhr (P:=P) (G:=G) hc o.type tm h with e|⟨d,e⟩<;>(rw [e];exact .bad)
       cases hg:o.guard with
       | none=>exact done (by unfold Region.wanted;rw [hg])
       | some g=>
         obtain ⟨j',want⟩:=g;have hwd:Region.wanted o (yielded ops fr.tmps)=z79 (syielded ops tm j') want:=by unfold Region.wanted;rw [hg,zc9 hs.top.tmps,zgi]
         simp only [zth]
         cases hb:z79 (syielded ops tm j') want with
         | true=>exact done (by rw [hwd,hb])
         | false=>simp only [];have hst:=z51 (P:=P) (w:=w) (crs:=crs) hs.mode hft hoj (by rw [hwd,hb]);obtain ⟨tm',e,hs'⟩:=z80 hs (.refl _) (.lit undef) (fun tm=>z7j rest P G (.mk ops (.mk fi de cs R) k) tm h);refine zr.steps (.one hst) ?_;show zr P G M ρ h w f0 base _ (setO o.dst z2h tm _);rw [show z2h=SV.lit undef from rfl,e];exact ih s hs'
end
end Go.Play
namespace Go.Play
section
variable {P:Program} {G:Glob} {M:Nat->Prop} {ρ ρ1:Env} {h h1:H} {w w1:World} {f0:FuncId} {base:List Frame}
theorem z8o {fi:FI} {tm:T SV} {todo todo':List SI} {de:List SDef} {cs:List SF} {fr:Frame} {crs:List Frame} (hs:SR ρ f0 base (.mk fi tm todo de .run) cs fr crs) {k:List Item} (hk:IL ρ fr.tmps.size todo' k)
 (hst:fr.mode=.run->Go.step P (lone fr crs w)=.next (lone { fr with todo:=k } crs w)) {r:Res}
 (hr:SR ρ f0 base (.mk fi tm todo' de .run) cs { fr with todo:=k } crs->zr P G M ρ h w f0 base (lone { fr with todo:=k } crs w) r):zr P G M ρ h w f0 base (lone fr crs w) r:=
 zr.steps (.one (hst hs.mode)) (hr (hs.to hk))
theorem zlm (s:Sim P G M ρ h w) (R:RunF) {fi:FI} {tm:T SV} {c:Code} {k:List SI} {de:List SDef} {cs:List SF} {fr:Frame} {crs:List Frame} {kt:List Item}
 (hs:SR ρ f0 base (.mk fi tm (.code c::k) de .run) cs fr crs) (hft:fr.todo=.code c::kt) (hj:∀ n,z1n c n=true) {o:Option (List SI)} {o':Option (List Item)}
 (ho:match o with|none=>o'=none|some l'=>∃ k',o'=some k'/\IL ρ fr.tmps.size l' k')
 (hgo:∀ k',o'=some k'->Go.step P (lone fr crs w)=.next (lone { fr with todo:=k' } crs w))
 (hne:zse (some c)=false)
 (hrd:o'=none->∀ l v w',fr.roundOf=some l->(Instr.endRound l (some c)).run P w=.ok v w'->(stepG P true { frame:=fr,callers:=crs,status:=.running,dying:=none } w).bare=(doReturn P true fr crs none v w').bare):
 zr P G M ρ h w f0 base (lone fr crs w) (zyh o P G (.mk fi de cs R) tm (.code c::k) h c):=by
 cases o with
 | none=>
   change zr P G M ρ h w f0 base _ (leave fi P G tm (.code c::k) de cs h (some c))
   exact zd2 s hs (some c) (fun c' e=>by cases e;exact hj) (fun e=>by rw [hne] at e;cases e) (hrd ho)
 | some l'=>obtain ⟨k',hk',hl⟩:=ho;exact z8o hs hl (fun _=>hgo k' hk') fun hs'=>z4u s R hs'
theorem zak {R:RunF} (hf0:∃ fn,P.funcs[f0]? =some fn) (hR:zds P G R) {fi:FI} {de:List SDef} {cs:List SF}:∀ (c:Code) {ρ:Env} {tm:T SV} {h:H} {w:World} {k:List SI} {fr:Frame} {crs:List Frame},Sim P G M ρ h w->
 SR ρ f0 base (.mk fi tm (.code c::k) de .run) cs fr crs->zr P G M ρ h w f0 base (lone fr crs w) (z7n c P G (.mk fi de cs R) tm k h):=by
 intro c
 induction c with
 | skip=>
   intro ρ tm h w k fr crs s hs;obtain ⟨it,kt,hft,hi,hk⟩:=zy hs.top.todo
   cases hi with
   | code hc=>exact z8o hs hk (fun hm=>step_lone_go (by simp [stepG,hm,stepG.exec,hft])) fun hs'=>z4u s R hs'
 | region id ops draw=>
   intro ρ tm h w k fr crs s hs
   cases draw with
   | true=>exact hR M ρ h w f0 base fi tm id ops k de cs fr crs hf0 s hs
   | false=>
     obtain ⟨it,kt,hft,hi,hk⟩:=zy hs.top.todo
     cases hi with
     | code hc=>
       have hl:(List.range ops.size).map (ops[·]?)=ops.toList.map some:=by
        apply List.ext_getElem?;intro i;by_cases hi:i<ops.size
        ·simp [hi]
        ·simp [hi,Nat.not_lt.1 hi]
       exact z8o hs (todo':=.inReg ops ops.toList::k) (.cons (.inReg hl hc) hk) (fun hm=>step_lone_go (by simp [stepG,hm,stepG.exec,hft])) fun hs'=>zhm R ops.toList s hs'
 | seq a b iha ihb=>
   intro ρ tm h w k fr crs s hs;obtain ⟨it,kt,hft,hi,hk⟩:=zy hs.top.todo
   cases hi with
   | code hc=>
     rw [z5y,Bool.and_eq_true] at hc
     exact z8o hs (todo':=.code a::.code b::k) (.cons (.code hc.1) (.cons (.code hc.2) hk)) (fun hm=>step_lone_go (by simp [stepG,hm,stepG.exec,hft])) fun hs'=>iha s hs'
 | cond x a b iha ihb=>
   intro ρ tm h w k fr crs s hs;obtain ⟨it,kt,hft,hi,hk⟩:=zy hs.top.todo
   cases hi with
   | code hc=>
     rw [za9,Bool.and_eq_true] at hc;change zr P G M ρ h w f0 base _ (z003 (ev x tm) fun t=>z002 t (z7n a) (z7n b) P G (.mk fi de cs R) tm k h);have hv:=zll hs.top.tmps x;generalize hev:ev x tm=v at hv
     cases v with
     | lit y=>
       generalize hfe:fr.eval x=y' at hv;cases hv
       cases y with
       | bool t=>
         cases t with
         | true=>exact z8o hs (todo':=.code a::k) (.cons (.code hc.1) hk) (fun hm=>step_lone_go (by simp [stepG,hm,stepG.exec,hft,hfe])) fun hs'=>iha s hs'
         | false=>exact z8o hs (todo':=.code b::k) (.cons (.code hc.2) hk) (fun hm=>step_lone_go (by simp [stepG,hm,stepG.exec,hft,hfe])) fun hs'=>ihb s hs'
       | _=>exact .bad
     | _=>exact .bad
 | block id a ih=>
   intro ρ tm h w k fr crs s hs;obtain ⟨it,kt,hft,hi,hk⟩:=zy hs.top.todo
   cases hi with
   | code hc=>exact z8o hs (todo':=.code a::.inBlock id::k) (.cons (.code hc) (.cons (.inBlock id) hk)) (fun hm=>step_lone_go (by simp [stepG,hm,stepG.exec,hft])) fun hs'=>ih s hs'
 | loop a ih=>
   intro ρ tm h w k fr crs s hs;obtain ⟨it,kt,hft,hi,hk⟩:=zy hs.top.todo
   cases hi with
   | code hc=>exact z8o hs (todo':=.code a::.inLoop a::k) (.cons (.code hc) (.cons (.inLoop hc) hk)) (fun hm=>step_lone_go (by simp [stepG,hm,stepG.exec,hft])) fun hs'=>ih s hs'
 | rangeFunc g ps a b iha ihb=>
   intro ρ tm h w k fr crs s hs
   exact .bad
 | exit id=>
   intro ρ tm h w k fr crs s hs;obtain ⟨it,kt,hft,hi,hk⟩:=zy hs.top.todo
   cases hi with
   | code hc=>
     have hm:=hs.mode
     exact zlm s R hs hft (fun _=>rfl) (zyi hk) (fun k' e=>step_lone_go (by simp [stepG,hm,stepG.exec,hft,e])) rfl
      (fun e l v w' hr hrun=>by simp only [stepG,hm,stepG.exec,hft,e,Option.elim,hr,Sem.runT_eq,hrun,GStep.bare_after])
 | scope a ih=>
   intro ρ tm h w k fr crs s hs;obtain ⟨it,kt,hft,hi,hk⟩:=zy hs.top.todo
   cases hi with
   | code hc=>exact z8o hs (todo':=.code a::.inScope a::k) (.cons (.code hc) (.cons (.inScope hc) hk)) (fun hm=>step_lone_go (by simp [stepG,hm,stepG.exec,hft])) fun hs'=>ih s hs'
 | label l=>
   intro ρ tm h w k fr crs s hs;obtain ⟨it,kt,hft,hi,hk⟩:=zy hs.top.todo
   cases hi with
   | code hc=>exact z8o hs hk (fun hm=>step_lone_go (by simp [stepG,hm,stepG.exec,hft])) fun hs'=>z4u s R hs'
 | goto l=>
   intro ρ tm h w k fr crs s hs;obtain ⟨it,kt,hft,hi,hk⟩:=zy hs.top.todo
   cases hi with
   | code hc=>
     have hm:=hs.mode
     exact zlm s R hs hft (fun _=>rfl) (zyn hk) (fun k' e=>step_lone_go (by simp [stepG,hm,stepG.exec,hft,e])) rfl
      (fun e l v w' hr hrun=>by simp only [stepG,hm,stepG.exec,hft,e,Option.elim,hr,Sem.runT_eq,hrun,GStep.bare_after])
 | ret=>
   intro ρ tm h w k fr crs s hs;obtain ⟨it,kt,hft,hi,hk⟩:=zy hs.top.todo
   cases hi with
   | code hc=>
     have hm:=hs.mode;change zr P G M ρ h w f0 base _ (leave fi P G tm (.code .ret::k) de cs h (some .ret))
     exact zd2 s hs (some .ret) (fun c e=>by cases e;exact fun _=>rfl) (fun _ hr=>step_lone_go (by simp [stepG,hm,stepG.exec,hft,hr]))
      (fun l v w' hr hrun=>by simp only [stepG,hm,stepG.exec,hft,hr,Sem.runT_eq,hrun,GStep.bare_after])
 | refuse why=>intro ρ tm h w k fr crs s hs;exact .bad
theorem zl2 {R:RunF} (hf0:∃ fn,P.funcs[f0]? =some fn) (hR:zds P G R) (s:Sim P G M ρ h w) {fi:FI} {tm:T SV} {i:SI} {k:List SI} {de:List SDef} {cs:List SF} {fr:Frame} {crs:List Frame}
 (hs:SR ρ f0 base (.mk fi tm (i::k) de .run) cs fr crs):zr P G M ρ h w f0 base (lone fr crs w) (zmi i P G (.mk fi de cs R) tm k h):=by
 obtain ⟨it,kt,hft,hi,hk⟩:=zy hs.top.todo
 cases i with
 | code c=>exact zak hf0 hR c s hs
 | inReg ops l=>exact zhm R l s hs
 | inBlock id=>cases hi;exact z8o hs hk (fun hm=>step_lone_go (by simp [stepG,hm,stepG.exec,hft])) fun hs'=>z4u s R hs'
 | inScope c=>cases hi;exact z8o hs hk (fun hm=>step_lone_go (by simp [stepG,hm,stepG.exec,hft])) fun hs'=>z4u s R hs'
 | inLoop c=>
   cases hi with
   | inLoop hc=>exact z8o hs (todo':=.code c::.inLoop c::k) (.cons (.code hc) (.cons (.inLoop hc) hk)) (fun hm=>step_lone_go (by simp [stepG,hm,stepG.exec,hft])) fun hs'=>zak hf0 hR c s hs'
 | inRF l=>exact .bad
 | endRF l=>exact .bad
 | beginRound=>exact .bad
theorem zzm {R:RunF} (hf0:∃ fn,P.funcs[f0]? =some fn) (hR:zds P G R) (s:Sim P G M ρ h w) {f:SF} {cs:List SF} {fr:Frame} {crs:List Frame} (hs:SR ρ f0 base f cs fr crs):
 zr P G M ρ h w f0 base (lone fr crs w) (step f R P G cs h):=by
 obtain ⟨fi,tm,todo,de,mode⟩:=f
 cases mode with
 | run=>
   show zr P G M ρ h w f0 base _ (zu2 todo P G (.mk fi de cs R) tm h)
   cases todo with
   | nil=>
     change zr P G M ρ h w f0 base _ (leave fi P G tm [] de cs h none);have hm:=hs.mode;have hft:fr.todo=[]:=by have:=hs.top.todo;generalize fr.todo=ft at this;cases this;rfl
     exact zd2 s hs none (fun c e=>by cases e) (fun _ hr=>step_lone_go (by simp [stepG,hm,stepG.exec,hft,hr]))
      (fun l v w' hr hrun=>by simp only [stepG,hm,stepG.exec,hft,hr,Sem.runT_eq,hrun,GStep.bare_after])
   | cons i k=>exact zl2 hf0 hR s hs
 | ret=>exact .bad
 | pan chain=>exact .bad
theorem zzf (hD:∀ R,zms P G R->zds P G R):∀ n,zms P G (runF P G n):=by
 intro n
 induction n with
 | zero=>intro M ρ h w f0 base f cs fr crs hf0 s hs;exact .here s hs
 | succ n ih=>
   intro M ρ h w f0 base f cs fr crs hf0 s hs;have h1:=zzm hf0 (hD _ ih) s hs;show zr P G M ρ h w f0 base _ (runR (step f (runF P G n) P G cs h) (runF P G n));generalize step f (runF P G n) P G cs h=r at h1
   cases r with
   | next f' cs' h'=>
     obtain ⟨ρ',w',fr',crs',k1,k2,k3,k4⟩:=h1
     exact (ih M ρ' h' w' f0 base f' cs' fr' crs' hf0 k3 k2).after k1 k4
   | _=>exact h1
end
end Go.Play
namespace Go.Play
def Env.below (ρ:Env) (N:Nat):Env:=fun o=>if o.num<N then ρ o else none
theorem z6z {ρ:Env} {N:Nat} {o:Pa} {b:Loc} (h:ρ o=some b) (hN:o.num<N):ρ.below N o=some b:=by unfold Env.below;rw [if_pos hN];exact h
theorem z3p {ρ:Env} {N:Nat} {o:Pa} {b:Loc} (h:ρ.below N o=some b):o.num<N/\ρ o=some b:=by
 unfold Env.below at h;split at h
 ·rename_i hn;exact ⟨hn,h⟩
 ·cases h
mutual
theorem VR.cut {ρ0:Env} {N:Nat} (hN:∀ o b,ρ0 o=some b->o.num<N):∀ {v:SV} {x0:Value},VR ρ0 v x0->∀ {ρ:Env} {x:Value},VR ρ v x->VR (ρ.below N) v x
 | _,_,.lit _,_,_,h=>by cases h;exact .lit _
 | _,_,.ptr off k,_,_,h=>by cases h with|ptr _ h=>exact .ptr off (z6z h (hN _ _ k))
 | _,_,.slc _ _ _ _ _ k _ _ _,_,_,h=>by cases h with|slc _ _ _ _ _ h f g i=>exact .slc _ _ _ _ _ (z6z h (hN _ _ k)) f g i
 | _,_,.eslc _ _,_,_,h=>by cases h;exact .eslc _ _
 | _,_,.mapv k,_,_,h=>by cases h with|mapv h=>exact .mapv (z6z h (hN _ _ k))
 | _,_,.fn ka kb,_,_,h=>by cases h with|fn ha hb=>exact .fn (VRL.cut hN ka ha) (VRL.cut hN kb hb)
 | _,_,.yld k,_,_,h=>by cases h with|yld h=>exact .yld (z6z h (hN _ _ k))
 | _,_,.ifc t k,_,_,h=>by cases h with|ifc _ h=>exact .ifc t (VR.cut hN k h)
 | _,_,.agg k,_,_,h=>by cases h with|agg h=>exact .agg (VRL.cut hN k h)
 | _,_,.tup k,_,_,h=>by cases h with|tup h=>exact .tup (VRL.cut hN k h)
 | _,_,.any _,_,_,h=>by cases h with|any h=>exact .any h
theorem VRL.cut {ρ0:Env} {N:Nat} (hN:∀ o b,ρ0 o=some b->o.num<N):∀ {v:List SV} {x0:List Value},VRL ρ0 v x0->∀ {ρ:Env} {x:List Value},VRL ρ v x->VRL (ρ.below N) v x
 | _,_,.nil,_,_,h=>by cases h;exact .nil
 | _,_,.cons k t,_,_,h=>by cases h with|cons h s=>exact .cons (VR.cut hN k h) (VRL.cut hN t s)
end
def NS (N:Nat) (v:SV):Prop:=∀ ρ x,VR ρ v x->VR (ρ.below N) v x
theorem VR.ns {ρ0:Env} {N:Nat} (hN:∀ o b,ρ0 o=some b->o.num<N) {v:SV} {x:Value} (h:VR ρ0 v x):NS N v:=fun _ _ k=>h.cut hN k
theorem ER.cut {ρ0:Env} {N:Nat} (hN:∀ o b,ρ0 o=some b->o.num<N) {es:List (SV×SV×Nat)} {ms:List MapEntry} (h:ER ρ0 es ms):∀ {ρ:Env} {ns:List MapEntry},ER ρ es ns->ER (ρ.below N) es ns:=by
 induction h with
 | nil=>intro ρ ns k;cases k;exact .nil
 | cons hk h _ ih=>intro ρ ns k;cases k with|cons kk k t=>exact .cons (hk.cut hN kk) (h.cut hN k) (ih t)
def OS (P:Program) (N:Nat) (ob:SO):Prop:=∀ ρ b o,OR P ρ ob b o->OR P (ρ.below N) (dimO false ob) b o
theorem OR.dim {P:Program} {ρ:Env} {hide:Bool} {ob:SO} {b:Loc} {o:Option Obj} (h:OR P ρ ob b o):OR P ρ (dimO hide ob) b o:=by
 cases hide with
 | true=>exact .none _ _
 | false=>
   cases h with
   | cells hs hm hf hr hl hv=>exact .cells hs hm (fun e=>by cases e) hr hl hv
   | mapo h=>exact .mapo h
   | _=>exact .none _ _
theorem OR.os {P:Program} {ρ0:Env} {N:Nat} (hN:∀ o b,ρ0 o=some b->o.num<N) {ob:SO} {b0:Loc} {o0:Option Obj} (h0:OR P ρ0 ob b0 o0):OS P N ob:=by
 intro ρ b o h
 cases h with
 | cells hs hm hf hr hl hv=>
   cases h0 with
   | cells hs0 hm0 hf0 hr0 hl0 hv0=>
     refine .cells hs hm (fun e=>by cases e) hr hl fun i v hi=>?_;obtain ⟨x,hx,hvx⟩:=hv i v hi;obtain ⟨x0,_,hvx0⟩:=hv0 i v hi
     exact ⟨x,hx,hvx0.cut hN hvx⟩
 | mapo h=>
   cases h0 with
   | mapo h0=>exact .mapo (h0.cut hN h)
 | _=>exact .none _ _
theorem zgz (hide:Bool) (ob:SO):zw0 (dimO hide ob)=false:=by cases hide<;>cases ob<;>rfl
theorem zoq {op:Op} {t:Tmp} (h:Operand.tmp t∈op.operands.toList):t∈z47 op:=by unfold z47;exact List.mem_filterMap.2 ⟨.tmp t,h,rfl⟩
theorem z9t {tm tm':T SV}:∀ (l:List Operand),(∀ x∈l,ev x tm=ev x tm')->evL l tm=evL l tm':=by
 intro l
 induction l with
 | nil=>intro _;rfl
 | cons x l ih=>intro h;show ev x tm::evL l tm=ev x tm'::evL l tm';rw [h x (by simp),ih fun y hy=>h y (by simp [hy])]
theorem z7y {tm tm':T SV} {place:Nat->Option (Nat×Nat)}:∀ (l:List (Nat×Operand)) (cs:List SV),(∀ p∈l,ev p.2 tm=ev p.2 tm')->fill l tm place cs=fill l tm' place cs:=by
 intro l
 induction l with
 | nil=>intro _ _;rfl
 | cons p l ih=>intro cs h;show fill1 (place p.1) (cellsOf (ev p.2 tm)) cs (fill l tm place)=fill1 (place p.1) (cellsOf (ev p.2 tm')) cs (fill l tm' place);rw [h p (by simp)];have:fill l tm place=fill l tm' place:=funext fun c=>ih c fun q hq=>h q (by simp [hq]);rw [this]
theorem zia {P:Program} {tm tm':T SV} {h:H} {ty:TypeId} {l:List (Nat×Operand)} (hl:∀ p∈l,ev p.2 tm=ev p.2 tm'):build1 (z54 P ty) ty P tm h l=build1 (z54 P ty) ty P tm' h l:=by
 cases z54 P ty with
 | none=>rfl
 | some z=>
   show build2 (undO P ty) P tm h l (zt z)=build2 (undO P ty) P tm' h l (zt z)
   cases undO P ty with
   | none=>rfl
   | some d=>
     cases d with
     | struct fields=>simp only [build2,z7y l _ hl]
     | array n el=>
       show build3 (zu P el) tm h l (zt z)=build3 (zu P el) tm' h l (zt z)
       cases zu P el with
       | none=>rfl
       | some n=>simp only [build3,z7y l _ hl]
     | _=>rfl
theorem zdy {P:Program} {tm tm':T SV} {h:H} {e:Option TypeId} {n:Nat} {l:List (Nat×Operand)} (hl:∀ p∈l,ev p.2 tm=ev p.2 tm'):bslice1 e n P tm h l=bslice1 e n P tm' h l:=by
 cases e with
 | none=>rfl
 | some el=>
   show bslice2 (z54 P el) (zu P el) el n tm h l=bslice2 (z54 P el) (zu P el) el n tm' h l
   cases z54 P el with
   | none=>rfl
   | some z=>
     cases zu P el with
     | none=>rfl
     | some k=>simp only [bslice2,z7y l _ hl]
theorem zh7 {P:Program} {tm tm':T SV} {h:H} {ty:TypeId} {c:Call} (hc:∀ x∈c.operands.toList,ev x tm=ev x tm'):zm7 c.callee P tm h ty c.argTypes c.args.toList=zm7 c.callee P tm' h ty c.argTypes c.args.toList:=by
 obtain ⟨callee,args,ts⟩:=c;have hl:evL args.toList tm=evL args.toList tm':=z9t _ fun x hx=>hc x (by simp [Call.operands];exact .inr (by simpa using hx))
 cases callee with
 | value f=>
   show zus (ev f tm) P h (evL args.toList tm)=zus (ev f tm') P h (evL args.toList tm')
   rw [hl,hc f (by simp [Call.operands])]
 | builtin b=>
   show z97 b P h ts ty (evL args.toList tm)=z97 b P h ts ty (evL args.toList tm')
   rw [hl]
 | invoke r n=>rfl
theorem zv5 {op:Op} {tm tm':T SV} (h:∀ t∈z47 op,sget (pa t) tm=sget (pa t) tm'):∀ x∈op.operands.toList,ev x tm=ev x tm':=by
 intro x hx
 cases x with
 | tmp t=>exact h t (zoq hx)
 | _=>rfl
theorem zhq {P:Program} {G:Glob} {op:Op} {ty:TypeId} {tm tm':T SV} {h:H} (ht:∀ t∈z47 op,sget (pa t) tm=sget (pa t) tm'):sop op ty P G tm h=sop op ty P G tm' h:=by
 have hx:=zv5 ht;clear ht;have e1:∀ x,x∈op.operands.toList->ev x tm=ev x tm':=hx
 cases op with
 | move x=>show Eff.val (ev x tm) h=.val (ev x tm') h;rw [e1 x (by simp [Op.operands])]
 | assign x=>show Eff.val (ev x tm) h=.val (ev x tm') h;rw [e1 x (by simp [Op.operands])]
 | alloc el=>rfl
 | box el x=>show newE h (.cells (cellsOf (ev x tm)) el true) (fun i h=>.val (.ptr i 0) h)=newE h (.cells (cellsOf (ev x tm')) el true) (fun i h=>.val (.ptr i 0) h);rw [e1 x (by simp [Op.operands])]
 | build t p=>exact zia fun q hq=>e1 q.2 (by simp [Op.operands];exact ⟨q.1,by simpa using hq⟩)
 | buildSlice t n p=>exact zdy fun q hq=>e1 q.2 (by simp [Op.operands];exact ⟨q.1,by simpa using hq⟩)
 | load t a=>show zsq (zoj (zu P t) (ev a tm) G h) (aggT P t) h=zsq (zoj (zu P t) (ev a tm') G h) (aggT P t) h;rw [e1 a (by simp [Op.operands])]
 | store t a x=>show zmk (zu P t) (ev a tm) h (cellsOf (ev x tm))=zmk (zu P t) (ev a tm') h (cellsOf (ev x tm'));rw [e1 a (by simp [Op.operands]),e1 x (by simp [Op.operands])]
 | nilCheck x=>show z7d (ev x tm) P h=z7d (ev x tm') P h;rw [e1 x (by simp [Op.operands])]
 | binOp op xT x y yT=>show bin1 (ev x tm) (ev x tm) P h op xT x y (ev y tm)=bin1 (ev x tm') (ev x tm') P h op xT x y (ev y tm');rw [e1 x (by simp [Op.operands]),e1 y (by simp [Op.operands])]
 | convert a b x=>show conv1 (ev x tm) P h a b=conv1 (ev x tm') P h a b;rw [e1 x (by simp [Op.operands])]
 | makeFunc fn a b=>
   show zlw fn h (evL a.toList tm) (evL b.toList tm)=zlw fn h (evL a.toList tm') (evL b.toList tm')
   rw [z9t a.toList fun x hx=>e1 x (by simp [Op.operands];exact .inl (by simpa using hx)),z9t b.toList fun x hx=>e1 x (by simp [Op.operands];exact .inr (by simpa using hx))]
 | fieldAddr t x i=>show z5t (ev x tm) P h t i=z5t (ev x tm') P h t i;rw [e1 x (by simp [Op.operands])]
 | indexAddr t x i=>show idx1 (ev x tm) P h t (ev i tm)=idx1 (ev x tm') P h t (ev i tm');rw [e1 x (by simp [Op.operands]),e1 i (by simp [Op.operands])]
 | call c=>exact zh7 fun x hx=>e1 x (by simpa [Op.operands] using hx)
 | _=>rfl
theorem zhg {op:Op} {tm:T SV} {ρ:Env} {f:Operand->Value} (hev:∀ x,VR ρ (ev x tm) (f x)) {o:Pa} (h:z1o op tm=some o):∃ b,ρ o=some b:=by
 have key:∀ x,ptrO (ev x tm)=some o->∃ b,ρ o=some b:=by
  intro x hx;have hv:=hev x;generalize ev x tm=v at hx hv;generalize f x=y at hv
  cases v with
  | ptr o' off=>cases hx;cases hv with|ptr _ hb=>exact ⟨_,hb⟩
  | slc o' a b c d=>cases hx;cases hv with|slc _ _ _ _ _ hb=>exact ⟨_,hb⟩
  | mapv o'=>cases hx;cases hv with|mapv hb=>exact ⟨_,hb⟩
  | _=>cases hx
 cases op with
 | load t a=>exact key a h
 | convert a b x=>exact key x h
 | slice t x lo hi mx=>exact key x h
 | call c=>
   change z009 c.args.toList tm=some o at h
   cases hc:c.args.toList with
   | nil=>rw [hc] at h;cases h
   | cons x l=>rw [hc] at h;exact key x h
 | _=>cases h
theorem z8m (ts:Array Value) (T0:List Tmp) {ρ:Env} {tm:T SV} (h:∀ t∈T0,VR ρ (sget (pa t) tm) (ts.getD t undef)):∃ tm',TR ρ tm' ts/\∀ t∈T0,sget (pa t) tm'=sget (pa t) tm:=by
 have base:∃ t0:T SV,∀ i,sget (pa i) t0=.lit (ts.getD i undef):=by
  have:∀ n,∃ t0:T SV,(∀ i,i<n->sget (pa i) t0=.lit (ts.getD i undef))/\∀ i,n<=i->sget (pa i) t0=z2h:=by
   intro n
   induction n with
   | zero=>exact ⟨.nil,fun i hi=>by omega,fun i _=>zmd _⟩
   | succ n ih=>
     obtain ⟨t0,h1,h2⟩:=ih;refine ⟨sset' (pa n) (.lit (ts.getD n undef)) t0,fun i hi=>?_,fun i hi=>?_⟩
     ·rw [z45];by_cases e:i=n
      ·rw [e,if_pos rfl]
      ·rw [if_neg fun e'=>e (zby e')];exact h1 i (by omega)
     ·rw [z45,if_neg fun e'=>by have:=zby e';omega];exact h2 i (by omega)
  obtain ⟨t0,h1,h2⟩:=this ts.size;refine ⟨t0,fun i=>?_⟩;by_cases hi:i<ts.size
  ·exact h1 i hi
  ·rw [h2 i (by omega)];have:ts.getD i undef=undef:=by simp [Array.getD,hi]
   rw [this];rfl
 obtain ⟨t0,h0⟩:=base;have:∀ l:List Tmp,(∀ t∈l,t∈T0)->∃ tm',(∀ i,sget (pa i) tm'=sget (pa i) tm/\i∈T0∨sget (pa i) tm'=.lit (ts.getD i undef))/\∀ t∈l,sget (pa t) tm'=sget (pa t) tm:=by
  intro l
  induction l with
  | nil=>intro _;exact ⟨t0,fun i=>.inr (h0 i),fun t ht=>by cases ht⟩
  | cons t l ih=>
    intro hl;obtain ⟨t1,h1,h2⟩:=ih fun u hu=>hl u (by simp [hu]);refine ⟨sset' (pa t) (sget (pa t) tm) t1,fun i=>?_,fun u hu=>?_⟩
    ·rw [z45];by_cases e:i=t
     ·rw [e,if_pos rfl];exact .inl ⟨rfl,hl t (by simp)⟩
     ·rw [if_neg fun e'=>e (zby e')];exact h1 i
    ·rw [z45];by_cases e:u=t
     ·rw [e,if_pos rfl]
     ·rw [if_neg fun e'=>e (zby e')];refine h2 u ?_
      cases hu with
      | head=>exact absurd rfl e
      | tail _ hm=>exact hm
 obtain ⟨tm',h1,h2⟩:=this T0 fun _ h=>h;refine ⟨tm',fun i=>?_,h2⟩;rcases h1 i with ⟨e,hi⟩|e
 ·rw [e];exact h i hi
 ·rw [e];exact .lit _
end Go.Play
namespace Go.Play
theorem zw5 (o p:Pa) (ob:SO):oget p (one o ob)=if p=o then ob else .none:=by
 induction o generalizing p with
 | e=>cases p with
   | e=>rfl
   | l p=>rw [if_neg (by simp)];exact z7g p
   | r p=>rw [if_neg (by simp)];exact z7g p
 | l o ih=>cases p with
   | e=>rfl
   | l p=>show oget p (one o ob)=_;rw [ih];by_cases h:p=o
          ·rw [if_pos h,if_pos (by rw [h])]
          ·rw [if_neg h,if_neg (by simp [h])]
   | r p=>rw [if_neg (by simp)];exact z7g p
 | r o ih=>cases p with
   | e=>rfl
   | r p=>show oget p (one o ob)=_;rw [ih];by_cases h:p=o
          ·rw [if_pos h,if_pos (by rw [h])]
          ·rw [if_neg h,if_neg (by simp [h])]
   | l p=>rw [if_neg (by simp)];exact z7g p
theorem zh1 (q:Option Pa) (h:H):nOf (z46 q h)=nOf h:=by cases q<;>rfl
theorem z83 (q:Option Pa) (h:H) (p:Pa):hget (z46 q h) p=match q with|some o=>if p=o then dimO false (hget h o) else .none|none=>.none:=by
 cases q with
 | none=>exact z7g p
 | some o=>exact zw5 o p _
section
variable {P:Program} {G:Glob} {M:Nat->Prop} {ρ:Env} {h:H} {w:World}
def GS (G:Glob) (N:Nat):Prop:=∀ g cs,gfind G g=some cs->∀ (i:Nat) (v:SV),cs[i]? =some v->NS N v
theorem Sim.gs (s:Sim P G M ρ h w):GS G (nOf h).num:=by intro g cs hg i v hv;obtain ⟨_,c,el,fr,_,h2⟩:=s.globs g cs hg;obtain ⟨x,_,hx⟩:=h2 i v hv;exact hx.ns s.dom
theorem Sim.small (s:Sim P G M ρ h w) {hj:H} (q:Option Pa) (hg:GS G (nOf hj).num) (hq:∀ o,q=some o->hget h o=hget hj o/\OS P (nOf hj).num (hget hj o)):
 Sim P G (fun k=>w.heap.size<=k) (ρ.below (nOf hj).num) (z46 q hj) w:=by
 have hm:∀ o,zw0 (hget (z46 q hj) o)=false:=by
  intro o;rw [z83]
  cases q with
  | none=>rfl
  | some o'=>
    simp only [];split
    ·exact zgz _ _
    ·rfl
 have hone:∀ o,hget (z46 q hj) o≠.none->q=some o:=by
  intro o ho;rw [z83] at ho
  cases q with
  | none=>exact absurd rfl ho
  | some o'=>
    simp only [] at ho;split at ho
    ·rename_i e;rw [e]
    ·exact absurd rfl ho
 refine ⟨fun o b hb=>?_,fun o b hb=>s.size o b (z3p hb).2,fun o b hb=>by rw [zh1];exact (z3p hb).1,fun o o' b b' hb hb' ho ho' _=>?_,fun o b hb hmo=>?_,fun k hk=>hk,fun g cs hgf=>?_⟩
 ·rw [z83]
  cases q with
  | none=>exact .none _ _
  | some o'=>
    simp only [];split
    ·rename_i e;subst e;obtain ⟨h1,h2⟩:=hq o rfl;have:=s.live o b (z3p hb).2;rw [h1] at this;exact h2 _ _ _ this
    ·exact .none _ _
 ·have e1:=hone o ho;have e2:=hone o' ho';rw [e1] at e2;cases e2;rfl
 ·rw [hm] at hmo;cases hmo
 ·obtain ⟨_,c,el,fr,h1,h2⟩:=s.globs g cs hgf;have hlt:=z4r h1;refine ⟨by omega,c,el,fr,h1,fun i v hv=>?_⟩;obtain ⟨x,hx,hvx⟩:=h2 i v hv;exact ⟨x,hx,hg g cs hgf i v hv _ _ hvx⟩
def znq (ts:Array Value):Operand->Value
 | .tmp t=>ts.getD t undef
 | .const v=>v
 | .global g=>.pointer (some ⟨g,0,none⟩)
 | .func f=>.func (.func f) #[] #[]
theorem zrc (fr:Frame):fr.eval=znq fr.tmps:=by funext x;cases x<;>rfl
theorem z75 {tm:T SV} {ts:Array Value} (ht:TR ρ tm ts) (x:Operand):VR ρ (ev x tm) (znq ts x):=
 zxe ht (fun _=>rfl) (fun _=>rfl) (fun _=>rfl) (fun _=>rfl) x
theorem zgx (s:Sim P G M ρ h w) {hj:H} {o:Oper} {tmj:T SV} {ts:Array Value} (hsl:∀ t∈z47 o.op,VR ρ (sget (pa t) tmj) (ts.getD t undef)) (hns:∀ t∈z47 o.op,NS (nOf hj).num (sget (pa t) tmj))
 (hg:GS G (nOf hj).num) (hq:∀ q,z1o o.op tmj=some q->hget h q=hget hj q/\OS P (nOf hj).num (hget hj q)) {v:SV} {hs:H}
 (he:sop o.op o.type P G tmj (z46 (z1o o.op tmj) hj)=.val v hs) (hn:nOf hs=nOf hj∨nOf hs=Pa.succ (nOf hj)):
 ∃ x w',((execOp (znq ts) o).run P w=.ok (.value x) w'∨(execOp (znq ts) o).run P w=.ok .skip w'/\x=undef)/\w'.os=w.os/\w'.tape=w.tape/\w'.output=w.output/\w.heap.size<=w'.heap.size/\
  (∀ k,k<w.heap.size->w'.heap[k]? =w.heap[k]?)/\
  (VR ρ v x∨nOf hs=Pa.succ (nOf hj)/\∃ b:Loc,VR ((ρ.below (nOf hj).num).put (nOf hj) b) v x/\b.block<w'.heap.size/\OR P ((ρ.below (nOf hj).num).put (nOf hj) b) (hget hs (nOf hj)) b w'.heap[b.block]? /\(hget hs (nOf hj)≠.none->w.heap.size<=b.block)):=by
 have ssm:=s.small (z1o o.op tmj) hg hq;obtain ⟨tm',htr,hag⟩:=z8m ts (z47 o.op) (ρ:=ρ.below (nOf hj).num) (tm:=tmj) fun t ht=>hns t ht _ _ (hsl t ht);have hcong:sop o.op o.type P G tm' (z46 (z1o o.op tmj) hj)=.val v hs:=by rw [<- he];exact zhq fun t ht=>hag t ht
 have hok:=zmh ssm o (z75 htr);rw [hcong] at hok;obtain ⟨ρ',w',s',g',hr⟩:=hok;have hdom:∀ p b,ρ' p=some b->p≠nOf hj->ρ.below (nOf hj).num p=some b:=by
  intro p b hb hne
  cases hp:ρ.below (nOf hj).num p with
  | some b'=>rw [g'.keep p b' hp] at hb;exact hb
  | none=>
    have h1:=g'.new p hp (by rw [hb];simp);rw [zh1] at h1;have h2:=s'.dom p b hb;rcases hn with e|e
    ·rw [e] at h2;omega
    ·rw [e,Pa.num_succ] at h2;exact absurd (Pa.num_inj (p:=p) (q:=nOf hj) (by omega)) hne
 obtain ⟨x,hx,hvx⟩:∃ x,((execOp (znq ts) o).run P w=.ok (.value x) w'∨(execOp (znq ts) o).run P w=.ok .skip w'/\x=undef)/\VR ρ' v x:=by
  rcases hr with ⟨x,hr,hv⟩|⟨hr,rfl⟩
  ·exact ⟨x,.inl hr,hv⟩
  ·exact ⟨undef,.inr ⟨hr,rfl⟩,.lit _⟩
 refine ⟨x,w',hx,g'.os,g'.tape,g'.output,g'.size,fun k hk=>g'.same k (by omega),?_⟩
 cases hN:ρ' (nOf hj) with
 | none=>
   refine .inl (hvx.mono fun p b hb=>?_);by_cases e:p=nOf hj
   ·rw [e,hN] at hb;cases hb
   ·exact (z3p (hdom p b hb e)).2
 | some b=>
   have hs2:nOf hs=Pa.succ (nOf hj):=by
    rcases hn with e|e
    ·have:=s'.dom _ _ hN;rw [e] at this;exact absurd this (Nat.lt_irrefl _)
    ·exact e
   have hle:Env.le ρ' ((ρ.below (nOf hj).num).put (nOf hj) b):=by
    intro p b' hb';unfold Env.put;by_cases e:p=nOf hj
    ·rw [if_pos e];rw [e,hN] at hb';exact hb'
    ·rw [if_neg e];exact hdom p b' hb' e
   refine .inr ⟨hs2,b,hvx.mono hle,s'.size _ _ hN,(s'.live _ _ hN).mono hle,fun hne=>?_⟩;rcases g'.track _ _ hN hne with h1|⟨h1,_⟩
   ·exact h1
   ·have:=(z3p h1).1;exact absurd this (Nat.lt_irrefl _)
theorem Sim.putNone (s:Sim P G M ρ h w) {o:Pa} {b:Loc} (hn:ρ o=none) (hnone:hget h o=.none) (hlt:o.num<(nOf h).num) {w':World} (hz:w.heap.size<=w'.heap.size) (hbz:b.block<w'.heap.size) (hk:∀ k,k<w.heap.size->w'.heap[k]? =w.heap[k]?):Sim P G M (ρ.put o b) h w':=by
 have hle:Env.le ρ (ρ.put o b):=Env.put_le b hn;have hsplit:∀ o' b',(ρ.put o b) o'=some b'->(o'=o/\b'=b)∨(o'≠o/\ρ o'=some b'):=by
  intro o' b' hb;unfold Env.put at hb;split at hb
  ·rename_i e;cases hb;exact .inl ⟨e,rfl⟩
  ·rename_i e;exact .inr ⟨e,hb⟩
 refine ⟨fun o' b' hb'=>?_,fun o' b' hb'=>?_,fun o' b' hb'=>?_,fun o1 o2 b1 b2 h1 h2 n1 n2 e=>?_,fun o' b' hb' hm=>?_,fun k hk'=>s.fresh k (Nat.le_trans hz hk'),fun g cs hg=>?_⟩
 ·rcases hsplit o' b' hb' with ⟨rfl,rfl⟩|⟨_,hb⟩
  ·rw [hnone];exact .none _ _
  ·rw [hk _ (s.size o' b' hb)];exact (s.live o' b' hb).mono hle
 ·rcases hsplit o' b' hb' with ⟨rfl,rfl⟩|⟨_,hb⟩
  ·exact hbz
  ·exact Nat.lt_of_lt_of_le (s.size o' b' hb) hz
 ·rcases hsplit o' b' hb' with ⟨rfl,rfl⟩|⟨_,hb⟩
  ·exact hlt
  ·exact s.dom o' b' hb
 ·rcases hsplit o1 b1 h1 with ⟨rfl,rfl⟩|⟨_,hb1⟩
  ·exact absurd hnone n1
  ·rcases hsplit o2 b2 h2 with ⟨rfl,rfl⟩|⟨_,hb2⟩
   ·exact absurd hnone n2
   ·exact s.apart o1 o2 b1 b2 hb1 hb2 n1 n2 e
 ·rcases hsplit o' b' hb' with ⟨rfl,rfl⟩|⟨_,hb⟩
  ·rw [hnone] at hm;cases hm
  ·exact s.mine o' b' hb hm
 ·obtain ⟨h1,c,el,fr,h2,h3⟩:=s.globs g cs hg;exact ⟨h1,c,el,fr,by rw [hk g (z4r h2)];exact h2,fun i v hi=>let ⟨x,hx,hv⟩:=h3 i v hi;⟨x,hx,hv.mono hle⟩⟩
theorem Sim.more (s:Sim P G M ρ h w) {w':World} (hz:w.heap.size<=w'.heap.size) (hk:∀ k,k<w.heap.size->w'.heap[k]? =w.heap[k]?):Sim P G M ρ h w':=
 ⟨fun o b hb=>by rw [hk _ (s.size o b hb)];exact s.live o b hb,fun o b hb=>Nat.lt_of_lt_of_le (s.size o b hb) hz,s.dom,s.apart,s.mine,fun k hk'=>s.fresh k (Nat.le_trans hz hk'),fun g cs hg=>by obtain ⟨h1,c,el,fr,h2,h3⟩:=s.globs g cs hg;exact ⟨h1,c,el,fr,by rw [hk g (z4r h2)];exact h2,h3⟩⟩
theorem Sim.ahead (s:Sim P G M ρ h w) (ob:SO):Sim P G M ρ (hpush h ob) w:=by
 have hne:∀ o b,ρ o=some b->o≠nOf h:=fun o b hb e=>by have:=s.dom o b hb;rw [e] at this;exact absurd this (Nat.lt_irrefl _)
 have hg:∀ o b,ρ o=some b->hget (hpush h ob) o=hget h o:=fun o b hb=>by rw [z3r,if_neg (hne o b hb)]
 exact ⟨fun o b hb=>by rw [hg o b hb];exact s.live o b hb,s.size,fun o b hb=>by rw [z9a,Pa.num_succ];exact Nat.lt_succ_of_lt (s.dom o b hb),
  fun o o' b b' hb hb' ho ho' e=>s.apart o o' b b' hb hb' (by rw [hg o b hb] at ho;exact ho) (by rw [hg o' b' hb'] at ho';exact ho') e,
  fun o b hb hm=>s.mine o b hb (by rw [hg o b hb] at hm;exact hm),s.fresh,s.globs⟩
def Named (fl:Fl) (mask:Nat) (o:Pa):Prop:=∃ e∈fl,Nat.testBit mask e.1=false/\e.2.1=o
def undim (u:List (Pa×SO)) (h:H):H:=u.foldl (fun h p=>hput h p.1 p.2) h
theorem zhx (u:List (Pa×SO)):∀ (h:H) (K:H->Res),z91 u h K=K (undim u h):=by
 induction u with
 | nil=>intro h K;rfl
 | cons p u ih=>intro h K;show putR h p.1 p.2 (fun h=>z91 u h K)=_;rw [ztr,ih];rfl
theorem zh2 (u:List (Pa×SO)):∀ h:H,nOf (undim u h)=nOf h:=by
 induction u with
 | nil=>intro h;rfl
 | cons p u ih=>intro h;show nOf (undim u (hput h p.1 p.2))=_;rw [ih,z8c]
theorem z36 (u:List (Pa×SO)):∀ (h:H) (o:Pa),(∀ p∈u,p.1≠o)->hget (undim u h) o=hget h o:=by
 induction u with
 | nil=>intro h o _;rfl
 | cons p u ih=>intro h o hu;show hget (undim u (hput h p.1 p.2)) o=_;rw [ih _ _ fun q hq=>hu q (by simp [hq]),z3b,if_neg fun e=>hu p (by simp) e.symm]
def Dimmed (ob' ob:SO):Prop:=ob'=dimO false ob∨ob'=.none
theorem zr0 (a b:Bool) (ob:SO):Dimmed (dimO a (dimO b ob)) ob:=by cases a<;>cases b<;>cases ob<;>first|exact .inl rfl|exact .inr rfl
theorem zip (a:Bool) (ob:SO):Dimmed (dimO a ob) ob:=by cases a<;>first|exact .inl rfl|exact .inr rfl
theorem Dimmed.again (a:Bool) {ob' ob:SO} (h:Dimmed ob' ob):Dimmed (dimO a ob') ob:=by
 rcases h with rfl|rfl
 ·exact zr0 a false ob
 ·cases a<;>exact .inr rfl
theorem zy8 (mask:Nat):∀ (fl:Fl) (h0 h:H) (u:List (Pa×SO)) (K:H->List (Pa×SO)->Res) (S:Pa->Prop),nOf h=nOf h0->(∀ o,S o->Dimmed (hget h o) (hget h0 o))->(∀ o,¬ S o->hget h o=hget h0 o)->
 (∀ h' o,S o->hget (undim u h') o=hget h0 o)->(∀ p∈u,S p.1)->
 ∃ hd u',dimK fl mask h u K=K hd u'/\nOf hd=nOf h0/\(∀ o,(S o∨Named fl mask o)->Dimmed (hget hd o) (hget h0 o))/\(∀ o,¬ (S o∨Named fl mask o)->hget hd o=hget h0 o)/\
  (∀ h' o,(S o∨Named fl mask o)->hget (undim u' h') o=hget h0 o)/\(∀ p∈u',S p.1∨Named fl mask p.1):=by
 intro fl
 induction fl with
 | nil=>
   intro h0 h u K S h1 h2 h3 h4 h5;have hn:∀ o,¬ Named [] mask o:=fun o ⟨e,he,_⟩=>by cases he
   exact ⟨h,u,rfl,h1,fun o ho=>h2 o (ho.resolve_right (hn o)),fun o ho=>h3 o fun k=>ho (.inl k),fun h' o ho=>h4 h' o (ho.resolve_right (hn o)),fun p hp=>.inl (h5 p hp)⟩
 | cons e fl ih=>
   intro h0 h u K S h1 h2 h3 h4 h5;obtain ⟨i,o,hide⟩:=e;show ∃ hd u',dimB (Nat.testBit mask i) o hide h (fun h u=>dimK fl mask h u K) u=K hd u'/\_;have hsplit:∀ p,Named ((i,o,hide)::fl) mask p↔(Nat.testBit mask i=false/\o=p)∨Named fl mask p:=by
    intro p;constructor
    ·rintro ⟨e,he,hb,hp⟩
     cases he with
     | head=>exact .inl ⟨hb,hp⟩
     | tail _ hm=>exact .inr ⟨e,hm,hb,hp⟩
    ·rintro (⟨hb,hp⟩|⟨e,he,hb,hp⟩)
     ·exact ⟨(i,o,hide),by simp,hb,hp⟩
     ·exact ⟨e,by simp [he],hb,hp⟩
   cases hb:Nat.testBit mask i with
   | true=>
     obtain ⟨hd,u',k1,k2,k3,k4,k5,k6⟩:=ih h0 h u K S h1 h2 h3 h4 h5;have hiff:∀ p,(S p∨Named ((i,o,hide)::fl) mask p)↔(S p∨Named fl mask p):=by intro p;rw [hsplit p,hb];simp
     exact ⟨hd,u',k1,k2,fun p hp=>k3 p ((hiff p).1 hp),fun p hp=>k4 p fun k=>hp ((hiff p).2 k),fun h' p hp=>k5 h' p ((hiff p).1 hp),fun p hp=>(hiff _).2 (k6 p hp)⟩
   | false=>
     show ∃ hd u',putR h o (dimO hide (hget h o)) (fun h'=>dimK fl mask h' ((o,hget h o)::u) K)=K hd u'/\_;rw [ztr];have hiff:∀ p,(S p∨Named ((i,o,hide)::fl) mask p)↔((S p∨p=o)∨Named fl mask p):=by
      intro p;rw [hsplit p,hb];constructor
      ·rintro (k|⟨_,rfl⟩|k)
       ·exact .inl (.inl k)
       ·exact .inl (.inr rfl)
       ·exact .inr k
      ·rintro ((k|rfl)|k)
       ·exact .inl k
       ·exact .inr (.inl ⟨rfl,rfl⟩)
       ·exact .inr (.inr k)
     have old:∀ p,¬ S p->hget h p=hget h0 p:=h3
     obtain ⟨hd,u',k1,k2,k3,k4,k5,k6⟩:=ih h0 (hput h o (dimO hide (hget h o))) ((o,hget h o)::u) K (fun p=>S p∨p=o) (by rw [z8c,h1])
      (fun p hp=>by
        rw [z3b];by_cases e:p=o
        ·rw [if_pos e,<-e];by_cases hs:S p
         ·exact (h2 p hs).again hide
         ·rw [h3 p hs];exact zip hide _
        ·rw [if_neg e];exact h2 p (hp.resolve_right e))
      (fun p hp=>by rw [z3b,if_neg fun e=>hp (.inr e)];exact h3 p fun k=>hp (.inl k))
      (fun h' p hp=>by
        show hget (undim u (hput h' o (hget h o))) p=_;by_cases hs:S p
        ·exact h4 _ p hs
        ·have e:p=o:=hp.resolve_left hs;rw [z36 u _ _ fun q hq e'=>hs (by rw [<- e'];exact h5 q hq),z3b,if_pos e,e,<-h3 o (e▸hs)])
      (fun p hp=>by
        cases hp with
        | head=>exact .inr rfl
        | tail _ hm=>exact .inl (h5 p hm))
     exact ⟨hd,u',k1,k2,fun p hp=>k3 p ((hiff p).1 hp),fun p hp=>k4 p fun k=>hp ((hiff p).2 k),fun h' p hp=>k5 h' p ((hiff p).1 hp),fun p hp=>(hiff _).2 (k6 p hp)⟩
def Mdim (M:Nat->Prop) (ρ:Env) (h:H) (S:Pa->Prop):Nat->Prop:=fun k=>M k/\∀ o b,S o->ρ o=some b->hget h o≠.none->b.block≠k
theorem Sim.dim (s:Sim P G M ρ h w) {hd:H} {S:Pa->Prop} (hn:nOf hd=nOf h) (h1:∀ o,S o->Dimmed (hget hd o) (hget h o)) (h2:∀ o,¬ S o->hget hd o=hget h o):Sim P G (Mdim M ρ h S) ρ hd w:=by
 have hnn:∀ o,hget hd o≠.none->hget h o≠.none:=by
  intro o ho e;by_cases hs:S o
  ·rcases h1 o hs with k|k
   ·rw [e] at k;exact ho k
   ·exact ho k
  ·rw [h2 o hs] at ho;exact ho e
 refine ⟨fun o b hb=>?_,s.size,fun o b hb=>by rw [hn];exact s.dom o b hb,fun o o' b b' hb hb' ho ho' e=>s.apart o o' b b' hb hb' (hnn o ho) (hnn o' ho') e,fun o b hb hm=>?_,fun k hk=>⟨s.fresh k hk,fun o b _ hb _ e=>by have:=s.size o b hb;omega⟩,fun g cs hg=>?_⟩
 ·by_cases hs:S o
  ·rcases h1 o hs with k|k
   ·rw [k];exact (s.live o b hb).dim
   ·rw [k];exact .none _ _
  ·rw [h2 o hs];exact s.live o b hb
 ·have hs:¬ S o:=fun hs=>by
   rcases h1 o hs with k|k
   ·rw [k,zgz] at hm;cases hm
   ·rw [k] at hm;cases hm
  rw [h2 o hs] at hm;refine ⟨s.mine o b hb hm,fun o' b' hs' hb' hne e=>?_⟩;have hno:hget h o≠.none:=fun k=>by rw [k] at hm;cases hm
  have:=s.apart o' o b' b hb' hb hne hno e;exact hs (this▸hs')
 ·obtain ⟨h3,h4⟩:=s.globs g cs hg;exact ⟨fun k=>h3 k.1,h4⟩
theorem Sim.undim (s:Sim P G M ρ h w) {hd h' hu:H} {S:Pa->Prop} {ρ':Env} {w':World} (hn:nOf hd=nOf h) (h1:∀ o,S o->Dimmed (hget hd o) (hget h o)) (h2:∀ o,¬ S o->hget hd o=hget h o)
 (hb:∀ o,S o->o.num<(nOf h).num) (hnu:nOf hu=nOf h') (u1:∀ o,S o->hget hu o=hget h o) (u2:∀ o,¬ S o->hget hu o=hget h' o)
 (s':Sim P G (Mdim M ρ h S) ρ' h' w') (g:Grow (Mdim M ρ h S) ρ hd w ρ' h' w'):Sim P G M ρ' hu w'/\Grow M ρ h w ρ' hu w':=by
 have old:∀ o b,S o->ρ' o=some b->ρ o=some b:=by
  intro o b hs hb'
  cases ho:ρ o with
  | some b'=>rw [g.keep o b' ho] at hb';exact hb'
  | none=>have:=g.new o ho (by rw [hb'];simp);rw [hn] at this;have:=hb o hs;omega
 have far:∀ o b,S o->ρ o=some b->hget h o≠.none->¬ Mdim M ρ h S b.block:=fun o b hs hb' hne k=>k.2 o b hs hb' hne rfl;refine ⟨⟨fun o b hb'=>?_,s'.size,fun o b hb'=>by rw [hnu];exact s'.dom o b hb',fun o o' b b' hb1 hb2 n1 n2 e=>?_,fun o b hb' hm=>?_,fun k hk=>(s'.fresh k hk).1,fun gl cs hg=>?_⟩,⟨g.os,g.tape,g.output,g.size,fun k hk=>g.same k fun k'=>hk k'.1,by rw [hnu,<-hn];exact g.nx,g.keep,fun o h0 h3=>by rw [<- hn];exact g.new o h0 h3,fun o b hb' hne=>?_⟩⟩
 ·by_cases hs:S o
  ·rw [u1 o hs];by_cases hne:hget h o=.none
   ·rw [hne];exact .none _ _
   ·have hbo:=old o b hs hb';rw [g.same _ (far o b hs hbo hne)];exact (s.live o b hbo).mono g.keep
  ·rw [u2 o hs];exact s'.live o b hb'
 ·have mix:∀ o o' b b',S o->¬ S o'->ρ' o=some b->ρ' o'=some b'->hget hu o≠.none->hget hu o'≠.none->b.block=b'.block->o=o':=by
   intro o o' b b' hs hs' hb1 hb2 n1 n2 e;rw [u1 o hs] at n1;rw [u2 o' hs'] at n2;have hbo:=old o b hs hb1;rcases g.track o' b' hb2 n2 with k|⟨k1,k2⟩
   ·exact absurd (e▸k) (far o b hs hbo n1)
   ·rw [h2 o' hs'] at k2;exact s.apart o o' b b' hbo k1 n1 k2 e
  by_cases hs:S o<;>by_cases hs':S o'
  ·exact s.apart o o' b b' (old o b hs hb1) (old o' b' hs' hb2) (by rw [<- u1 o hs];exact n1) (by rw [<- u1 o' hs'];exact n2) e
  ·exact mix o o' b b' hs hs' hb1 hb2 n1 n2 e
  ·exact (mix o' o b' b hs' hs hb2 hb1 n2 n1 e.symm).symm
  ·exact s'.apart o o' b b' hb1 hb2 (by rw [<- u2 o hs];exact n1) (by rw [<- u2 o' hs'];exact n2) e
 ·by_cases hs:S o
  ·rw [u1 o hs] at hm;exact s.mine o b (old o b hs hb') hm
  ·rw [u2 o hs] at hm;exact (s'.mine o b hb' hm).1
 ·obtain ⟨k1,k2⟩:=s'.globs gl cs hg;exact ⟨(s.globs gl cs hg).1,k2⟩
 ·by_cases hs:S o
  ·rw [u1 o hs] at hne;exact .inr ⟨old o b hs hb',hne⟩
  ·rw [u2 o hs] at hne;rcases g.track o b hb' hne with k|⟨k1,k2⟩
   ·exact .inl k.1
   ·rw [h2 o hs] at k2;exact .inr ⟨k1,k2⟩
end
end Go.Play
namespace Go.Play
theorem z7t (k i:Nat):Nat.testBit (Nat.pow 2 k) i=decide (k=i):=by show Nat.testBit (2^k) i=_;rw [Nat.testBit_two_pow]
theorem z6j (a b i:Nat):Nat.testBit (Nat.lor a b) i=(Nat.testBit a i||Nat.testBit b i):=Nat.testBit_or a b i
theorem zle (n i:Nat):Nat.testBit (Nat.sub (Nat.pow 2 n) 1) i=decide (i<n):=Nat.testBit_two_pow_sub_one n i
theorem zml {a b:Nat} (h:sub a b=true) (i:Nat) (hi:Nat.testBit a i=true):Nat.testBit b i=true:=by have e:Nat.land a b=a:=Nat.eq_of_beq_eq_true h;have e2:Nat.testBit (a&&&b) i=Nat.testBit a i:=congrArg (fun x=>Nat.testBit x i) e;rw [Nat.testBit_and,hi] at e2;simpa using e2
theorem zon {ms:List Nat}:∀ {l:List Edge} {i:Nat},Nat.testBit (za2 ms l) i=true->∃ e∈l,Region.binds .any e=true/\(i=e.on∨Nat.testBit (ms.getD e.on 0) i=true):=by
 intro l
 induction l with
 | nil=>intro i h;unfold za2 at h;simp at h
 | cons e l ih=>
   intro i h;unfold za2 at h
   cases hb:Region.binds .any e with
   | false=>
     rw [hb] at h;obtain ⟨e',he,k⟩:=ih h
     exact ⟨e',by simp [he],k⟩
   | true=>
     rw [hb] at h;simp only [z6j,z7t,Bool.or_eq_true,decide_eq_true_eq] at h;rcases h with (h|h)|h
     ·exact ⟨e,by simp,hb,.inl h.symm⟩
     ·exact ⟨e,by simp,hb,.inr h⟩
     ·obtain ⟨e',he,k⟩:=ih h;exact ⟨e',by simp [he],k⟩
theorem z8a:∀ (l:List Oper) (ms:List Nat),(masks l ms).length=ms.length+l.length/\(∀ j,j<ms.length->(masks l ms)[j]? =ms[j]?)/\
 ∀ j o,l[j]? =some o->(masks l ms)[ms.length+j]? =some (za2 ((masks l ms).take (ms.length+j)) o.after.toList):=by
 intro l
 induction l with
 | nil=>intro ms;exact ⟨by simp [masks],fun _ _=>rfl,fun j o h=>by simp at h⟩
 | cons o l ih=>
   intro ms;obtain ⟨h1,h2,h3⟩:=ih (ms++[za2 ms o.after.toList]);simp only [List.length_append,List.length_singleton] at h1 h2 h3;have hpre:∀ j,j<ms.length->(masks (o::l) ms)[j]? =ms[j]? :=by intro j hj;show (masks l (ms++[za2 ms o.after.toList]))[j]? =_;rw [h2 j (by omega),List.getElem?_append_left hj]
   refine ⟨by show (masks l _).length=_;rw [h1];simp;omega,hpre,fun j o' hj=>?_⟩
   cases j with
   | zero=>
     simp at hj;subst hj;show (masks l (ms++[za2 ms o.after.toList]))[ms.length+0]? =_;rw [Nat.add_zero,h2 ms.length (by omega)];have ht:(masks (o::l) ms).take ms.length=ms:=by
      apply List.ext_getElem?;intro i;rw [List.getElem?_take];by_cases hi:i<ms.length
      ·rw [if_pos hi];exact hpre i hi
      ·rw [if_neg hi,List.getElem?_eq_none (by omega)]
     rw [ht];simp
   | succ j=>have:=h3 j o' (by simpa using hj);show (masks l (ms++[za2 ms o.after.toList]))[ms.length+(j+1)]? =_;rw [show ms.length+(j+1)=ms.length+1+j by omega];exact this
def Resp (ops:Array Oper) (l:List Nat):Prop:=∀ a i b,l=a++i::b->∀ o,ops[i]? =some o->∀ e∈o.after.toList,Region.binds .any e=true->e.on∈a
theorem zoo {ops:Array Oper} {l:List Nat} (hr:Resp ops l):∀ (i:Nat) (a b:List Nat),l=a++i::b->i<ops.size->∀ j,Nat.testBit ((masks ops.toList []).getD i 0) j=true->j∈a:=by
 intro i
 induction i using Nat.strongRecOn with
 | ind i ih=>
   intro a b hl hi j hj;obtain ⟨h1,h2,h3⟩:=z8a ops.toList [];simp only [List.length_nil,Nat.zero_add] at h1 h3;have ho:ops.toList[i]? =some ops[i]:=by simp [hi]
   have ho':ops[i]? =some ops[i]:=by simp [hi]
   have hm:=h3 i _ ho;rw [List.getD_eq_getElem?_getD,hm,Option.getD_some] at hj;obtain ⟨e,he,hb,hcase⟩:=zon hj;have hon:=hr a i b hl _ ho' e he hb;rcases hcase with rfl|hcase
   ·exact hon
   ·by_cases hlt:e.on<i
    ·rw [List.getD_eq_getElem?_getD,List.getElem?_take,if_pos hlt,<-List.getD_eq_getElem?_getD] at hcase;obtain ⟨a1,a2,ha⟩:=List.append_of_mem hon;have:=ih e.on hlt a1 (a2++i::b) (by rw [hl,ha];simp) (by omega) j hcase;rw [ha];simp [this]
    ·rw [List.getD_eq_getElem?_getD,List.getElem?_take,if_neg hlt] at hcase;simp at hcase
theorem zda {md:Region.Mode} {os:List Oper}:∀ (l:List Nat) (m:Nat),z8h md os l m=true->
 (∀ a i b,l=a++i::b->∃ o,os[i]? =some o/\∀ e∈o.after.toList,Region.binds md e=true->Nat.testBit m e.on=true∨e.on∈a)/\∀ i,i<os.length->Nat.testBit m i=true∨i∈l:=by
 intro l
 induction l with
 | nil=>
   intro m h;refine ⟨fun a i b e=>by simp at e,fun i hi=>.inl ?_⟩;have:m=Nat.sub (Nat.pow 2 os.length) 1:=Nat.eq_of_beq_eq_true h
   rw [this,zle];simpa using hi
 | cons j l ih=>
   intro m h;unfold z8h at h
   cases ho:os[j]? with
   | none=>rw [ho] at h;cases h
   | some o=>
     rw [ho] at h;simp only [Bool.and_eq_true] at h;obtain ⟨h1,h2⟩:=h;obtain ⟨k1,k2⟩:=ih _ h2;refine ⟨fun a i b e=>?_,fun i hi=>?_⟩
     ·cases a with
      | nil=>
        simp at e;obtain ⟨rfl,rfl⟩:=e;refine ⟨o,ho,fun e he hb=>.inl ?_⟩;unfold zit at h1;have:=List.all_eq_true.1 h1 e he
        simpa [hb] using this
      | cons x a=>
        simp at e;obtain ⟨rfl,rfl⟩:=e;obtain ⟨o',ho',k⟩:=k1 a i b rfl;refine ⟨o',ho',fun e he hb=>?_⟩;rcases k e he hb with k|k
        ·rw [z6j,z7t] at k;simp only [Bool.or_eq_true,decide_eq_true_eq] at k;rcases k with k|k
         ·exact .inl k
         ·exact .inr (by simp [k])
        ·exact .inr (by simp [k])
     ·rcases k2 i hi with k|k
      ·rw [z6j,z7t] at k;simp only [Bool.or_eq_true,decide_eq_true_eq] at k;rcases k with k|k
       ·exact .inl k
       ·exact .inr (by simp [k])
      ·exact .inr (by simp [k])
def Legal (ops:Array Oper) (md:Region.Mode):Prop:=∃ l:List Nat,(∀ a i b,l=a++i::b->∃ o,ops[i]? =some o/\∀ e∈o.after.toList,Region.binds md e=true->e.on∈a)/\∀ i,i<ops.size->i∈l
theorem zlv {ops:Array Oper} {md:Region.Mode} {l:List Nat} (h:z8h md ops.toList l 0=true):Legal ops md:=by
 obtain ⟨h1,h2⟩:=zda l 0 h;refine ⟨l,fun a i b e=>?_,fun i hi=>?_⟩
 ·obtain ⟨o,ho,k⟩:=h1 a i b e;refine ⟨o,by simpa using ho,fun e he hb=>?_⟩;rcases k e he hb with k|k
  ·simp at k
  ·exact k
 ·rcases h2 i (by simpa using hi) with k|k
  ·simp at k
  ·exact k
theorem zdw {md:Region.Mode} {e:Edge} (h:Region.binds .any e=true):Region.binds md e=true:=by unfold Region.binds at h ⊢;cases hg:e.ground<;>rw [hg] at h<;>first|rfl|cases h
theorem legal_any {ops:Array Oper} {md:Region.Mode} (h:Legal ops md):Legal ops .any:=by obtain ⟨l,h1,h2⟩:=h;refine ⟨l,fun a i b e=>?_,h2⟩;obtain ⟨o,ho,k⟩:=h1 a i b e;exact ⟨o,ho,fun e he hb=>k e he (zdw hb)⟩
structure Order (ops:Array Oper) (l:List Nat):Prop where
 nodup:l.Nodup
 all:∀ i,i∈l↔i<ops.size
 resp:Resp ops l
theorem zcr {p:Nat->Prop} [DecidablePred p]:∀ (l:List Nat),(∃ i∈l,¬ p i)->∃ a i b,l=a++i::b/\¬ p i/\∀ j∈a,p j:=by
 intro l
 induction l with
 | nil=>rintro ⟨i,hi,_⟩;cases hi
 | cons x l ih=>
   rintro ⟨i,hi,hn⟩;by_cases hx:p x
   ·obtain ⟨a,j,b,e,h1,h2⟩:=ih ⟨i,by
     cases hi with
     | head=>exact absurd hx hn
     | tail _ hm=>exact hm,hn⟩
    exact ⟨x::a,j,b,by rw [e];rfl,h1,fun k hk=>by
     cases hk with
     | head=>exact hx
     | tail _ hm=>exact h2 k hm⟩
   ·exact ⟨[],x,l,rfl,hx,fun k hk=>by cases hk⟩
theorem zgy {ops:Array Oper} {md:Region.Mode} (hL:Legal ops md):∀ (fuel t:Nat) (listed:Array Bool) (acc:List Nat),listed.size=ops.size->acc.Nodup->acc.length+fuel=ops.size->(∀ i,listed.getD i true=true↔(i∈acc∨ops.size<=i))->
 (∀ i,i∈acc->i<ops.size)->Resp ops acc.reverse->Order ops (Region.linearise.go md ops fuel t listed acc):=by
 intro fuel
 induction fuel with
 | zero=>
   intro t listed acc hz hnd hlen hl hlt hr;unfold Region.linearise.go;refine ⟨List.pairwise_reverse.2 (hnd.imp fun h=>Ne.symm h),fun i=>?_,hr⟩;rw [List.mem_reverse];refine ⟨hlt i,fun hi=>?_⟩;have hsub:acc ⊆ List.range ops.size:=fun j hj=>List.mem_range.2 (hlt j hj);have hperm:∀ (l r:List Nat),l.Nodup->r.Nodup->l ⊆ r->r.length<=l.length->r ⊆ l:=by
    intro l
    induction l with
    | nil=>intro r _ _ _ h;cases r with
      | nil=>exact fun _ h=>h
      | cons=>simp at h
    | cons x l ih=>
      intro r hl hr hs hle y hy;have hxr:x∈r:=hs (by simp);by_cases e:y=x
      ·rw [e];simp
      ·have:y∈l:=ih (r.erase x) (List.nodup_cons.1 hl).2 (hr.erase x) (fun z hz=>by
        have hne:z≠x:=fun e=>(List.nodup_cons.1 hl).1 (e▸hz);exact (List.mem_erase_of_ne hne).2 (hs (by simp [hz]))) (by
        rw [List.length_erase_of_mem hxr];simp at hle;omega) ((List.mem_erase_of_ne e).2 hy)
       simp [this]
   exact hperm acc (List.range ops.size) hnd List.nodup_range hsub (by simp;omega) (List.mem_range.2 hi)
 | succ fuel ih=>
   intro t listed acc hz hnd hlen hl hlt hr;unfold Region.linearise.go;simp only [];generalize hrs:((List.range ops.size).filter fun i=> !listed.getD i true&&((ops[i]?).map fun o=>o.after.all fun e=> !Region.binds md e||listed.getD e.on false).getD false)=rs;have hmem:∀ i,i∈rs->i<ops.size/\i ∉ acc/\∀ o,ops[i]? =some o->∀ e∈o.after.toList,Region.binds md e=true->e.on∈acc:=by
    intro i hi;rw [<- hrs,List.mem_filter] at hi;obtain ⟨h1,h2⟩:=hi;have h1:=List.mem_range.1 h1;rw [Bool.and_eq_true] at h2;refine ⟨h1,fun hm=>?_,fun o ho e he hb=>?_⟩
    ·have:=(hl i).2 (.inl hm);rw [this] at h2;simp at h2
    ·have h3:=h2.2;rw [ho] at h3;simp only [Option.map_some,Option.getD_some] at h3;rw [<- Array.all_toList] at h3;have:=List.all_eq_true.1 h3 e he;rw [hb] at this;have h4:listed.getD e.on false=true:=(by simpa using this);have h5:e.on<ops.size:=by
      rcases Nat.lt_or_ge e.on ops.size with k|k
      ·exact k
      ·have:listed.getD e.on false=false:=(by simp [Array.getD,hz];omega);rw [this] at h4;cases h4
     have h6:listed.getD e.on true=true:=by have e1:listed.getD e.on true=listed[e.on]:=(by simp [Array.getD,hz,h5]);have e2:listed.getD e.on false=listed[e.on]:=(by simp [Array.getD,hz,h5]);rw [e1,<-e2];exact h4
     rcases (hl e.on).1 h6 with k|k
     ·exact k
     ·omega
   have hne:rs≠[]:=by
    obtain ⟨L,l1,l2⟩:=hL;have hmiss:∃ i∈L,¬ i∈acc:=by
     by_cases hex:∃ i,i<ops.size/\i ∉ acc
     ·obtain ⟨i,hi,hn⟩:=hex;exact ⟨i,l2 i hi,hn⟩
     ·exfalso;have hall:∀ i,i<ops.size->i∈acc:=fun i hi=>Classical.byContradiction fun k=>hex ⟨i,hi,k⟩;have hs:List.range ops.size ⊆ acc:=fun i hi=>hall i (List.mem_range.1 hi);have hcard:∀ (l r:List Nat),l.Nodup->l ⊆ r->l.length<=r.length:=by
       intro l
       induction l with
       | nil=>intro r _ _;simp
       | cons x l ih=>
         intro r hl hs;have hxr:x∈r:=hs (by simp);have:=ih (r.erase x) (List.nodup_cons.1 hl).2 (fun z hz=>by have hne:z≠x:=fun e=>(List.nodup_cons.1 hl).1 (e▸hz);exact (List.mem_erase_of_ne hne).2 (hs (by simp [hz])))
         rw [List.length_erase_of_mem hxr] at this;have:0<r.length:=List.length_pos_of_mem hxr;simp;omega
      have:=hcard _ _ List.nodup_range hs;simp at this;omega
    obtain ⟨a,i,b,e,hni,hall⟩:=zcr (p:=fun i=>i∈acc) L hmiss;obtain ⟨o,ho,k⟩:=l1 a i b e;have hi:i<ops.size:=by
     rcases Nat.lt_or_ge i ops.size with k|k
     ·exact k
     ·rw [Array.getElem?_eq_none k] at ho;cases ho
    have:i∈rs:=by
     rw [<- hrs,List.mem_filter];refine ⟨List.mem_range.2 hi,?_⟩;rw [Bool.and_eq_true];constructor
     ·cases hg:listed.getD i true with
      | false=>rfl
      | true=>rcases (hl i).1 hg with k|k
              ·exact absurd k hni
              ·omega
     ·rw [ho];simp only [Option.map_some,Option.getD_some];rw [<- Array.all_toList];refine List.all_eq_true.2 fun e he=>?_
      cases hb:Region.binds md e with
      | false=>rfl
      | true=>have hin:=hall _ (k e he hb);have h5:=hlt _ hin;have h6:=(hl e.on).2 (.inl hin);have e1:listed.getD e.on true=listed[e.on]:=(by simp [Array.getD,hz,h5]);have e2:listed.getD e.on false=listed[e.on]:=(by simp [Array.getD,hz,h5]);simp only [Bool.not_true,Bool.false_or];rw [e2,<-e1];exact h6
    intro e';rw [e'] at this;cases this
   have hlen':0<rs.length:=List.length_pos_iff.2 hne;have hidx:t%rs.length<rs.length:=Nat.mod_lt _ hlen';rw [List.getElem?_eq_getElem hidx];simp only [];generalize hi:rs[t%rs.length]=i;have him:i∈rs:=by rw [<- hi];exact List.getElem_mem _
   obtain ⟨m1,m2,m3⟩:=hmem i him;refine ih _ _ (i::acc) (by simp [hz]) (List.nodup_cons.2 ⟨m2,hnd⟩) (by simp;omega) (fun j=>?_) (fun j hj=>?_) ?_
   ·by_cases e:j=i
    ·subst e;simp [Array.getD,hz,m1]
    ·have:(listed.setIfInBounds i true).getD j true=listed.getD j true:=by
      simp only [Array.getD_eq_getD_getElem?,Array.getElem?_setIfInBounds_ne (Ne.symm e)]
     rw [this,hl j];simp [e]
   ·cases hj with
    | head=>exact m1
    | tail _ hm=>exact hlt j hm
   ·intro a k b hab o ho e he hb;rw [List.reverse_cons] at hab;rcases List.eq_nil_or_concat b with rfl|⟨b',y,rfl⟩
    ·have:=List.append_inj' hab (by simp);obtain ⟨h1,h2⟩:=this;simp at h2;subst h2;rw [<- h1,List.mem_reverse];exact m3 o ho e he (zdw hb)
    ·have hab':acc.reverse++[i]=(a++k::b')++[y]:=(by rw [hab];simp);have:=List.append_inj' hab' (by simp);exact hr a k b' this.1 o ho e he hb
theorem z3u {ops:Array Oper} {md:Region.Mode} (hL:Legal ops md) (t:Nat):Order ops (Region.linearise md ops t):=by
 unfold Region.linearise;refine zgy hL ops.size t _ [] (by simp) List.nodup_nil (by simp) (fun i=>?_) (fun i hi=>by cases hi) (fun a i b e=>by simp at e);by_cases hi:i<ops.size
 ·simp [Array.getD,hi]
 ·simp [Array.getD,hi];omega
theorem zbe {ops:Array Oper} (ht:Legal ops .text) (hg:Region.departs ops=true->Legal ops .gc) (mixed:Bool) (t:Nat):Order ops (Region.schedule mixed ops t):=by
 unfold Region.schedule;split
 ·exact z3u (legal_any ht) t
 ·rename_i h;have hd:Region.departs ops=true:=by
   cases hd:Region.departs ops with
   | true=>rfl
   | false=>rw [hd] at h;simp at h
  split
  ·exact z3u ht _
  ·exact z3u (hg hd) _
def plI (l:List PI):List Nat:=l.map PI.i
def zuh:List PI->Prop
 | []=>True
 | p::l=>p.i ∉ plI l/\(∀ i,Nat.testBit p.mask i=true->i ∉ plI (p::l))/\(p.heavy=true->∀ q∈l,Nat.testBit q.mask p.i=true)/\zuh l
theorem zwf:∀ (l:List PI) (em hm e:Nat),zma l em hm=some e->
 (∀ q∈l,Nat.testBit em q.i=false)/\(∀ q∈l,∀ i,Nat.testBit hm i=true->Nat.testBit q.mask i=true)/\(∀ i,Nat.testBit e i=true->Nat.testBit em i=true∨i∈plI l)/\zuh l:=by
 intro l
 induction l with
 | nil=>intro em hm e h;cases h;exact ⟨fun q hq=>(by cases hq),fun q hq=>(by cases hq),fun i hi=>.inl hi,trivial⟩
 | cons p l ih=>
   intro em hm e h;unfold zma at h;split at h
   ·rename_i h1 h2 h3;obtain ⟨k1,k2,k3,k4⟩:=ih _ _ _ h;have hin:∀ q∈l,Nat.testBit em q.i=false/\p.i≠q.i:=by
     intro q hq;have:=k1 q hq;rw [z6j,z7t] at this;simp only [Bool.or_eq_false_iff,decide_eq_false_iff_not] at this;exact this
    have hnot:p.i ∉ plI l:=by intro hm';obtain ⟨q,hq,e⟩:=List.mem_map.1 hm';exact (hin q hq).2 e.symm
    refine ⟨fun q hq=>?_,fun q hq i hi=>?_,fun i hi=>?_,hnot,fun i hi=>?_,fun hp q hq=>?_,k4⟩
    ·cases hq with
     | head=>exact h1
     | tail _ hm'=>exact (hin q hm').1
    ·cases hq with
     | head=>exact zml h3 i hi
     | tail _ hm'=>
       refine k2 q hm' i ?_
       cases p.heavy with
       | true=>simp only [z6j,hi,Bool.true_or]
       | false=>exact hi
    ·rcases k3 i hi with k|k
     ·rw [z6j,z7t] at k;simp only [Bool.or_eq_true,decide_eq_true_eq] at k;rcases k with k|k
      ·exact .inl k
      ·exact .inr (by simp [plI,k])
     ·exact .inr (by simp only [plI,List.map_cons,List.mem_cons];exact .inr k)
    ·have hem:=zml h2 i hi;intro hm';simp only [plI,List.map_cons,List.mem_cons] at hm';rcases hm' with rfl|hm'
     ·rw [h1] at hem;cases hem
     ·obtain ⟨q,hq,e⟩:=List.mem_map.1 hm';rw [<- e,(hin q hq).1] at hem;cases hem
    ·refine k2 q hq p.i ?_;rw [hp];simp only [z6j,z7t,decide_true,Bool.or_true]
   ·cases h
theorem zod:∀ (os:List Oper) (ms:List Nat) (k:Nat) (p:PI),p∈items os ms k->∃ j,p.i=k+j/\os[j]? =some p.o/\ms[j]? =some p.mask:=by
 intro os
 induction os with
 | nil=>intro ms k p hp;cases ms<;>(simp [items] at hp)
 | cons o os ih=>
   intro ms k p hp
   cases ms with
   | nil=>simp [items] at hp
   | cons m ms=>
     unfold items at hp
     cases hp with
     | head=>exact ⟨0,rfl,rfl,rfl⟩
     | tail _ hm=>obtain ⟨j,h1,h2,h3⟩:=ih ms _ p hm;exact ⟨j+1,by rw [h1];omega,by simpa using h2,by simpa using h3⟩
theorem zp5 (H:Nat):∀ (hs pend:List PI) (hm:Nat) (p:PI),p∈zm8 H hs pend hm->p∈hs∨p∈pend:=by
 intro hs
 induction hs with
 | nil=>intro pend hm p hp;exact .inr hp
 | cons h hs ih=>
   intro pend hm p hp;unfold zm8 at hp;rcases List.mem_append.1 hp with k|k
   ·exact .inr (List.mem_filter.1 k).1
   ·cases k with
    | head=>exact .inl (by simp)
    | tail _ hm'=>
      rcases ih _ _ _ hm' with k|k
      ·exact .inl (by simp [k])
      ·exact .inr (List.mem_filter.1 k).1
theorem zkm {l:List PI} {p:PI} (h:p∈planned l):p∈l:=by
 rcases zp5 _ _ _ _ _ h with k|k
 ·exact (List.mem_filter.1 k).1
 ·exact (List.mem_filter.1 k).1
structure SlotP (ops:Array Oper) (ms:List Nat) (W:List (Tmp×Nat)):Prop where
 own:∀ j o,ops[j]? =some o->∀ d,o.dst=some d->z2q d W=some j
 reads:∀ j o,ops[j]? =some o->∀ t∈z47 o.op,zlb ms j (z2q t W)=true
 guard:∀ j o,ops[j]? =some o->∀ g,o.guard=some g->Nat.testBit (ms.getD j 0) g.1=true
theorem zu0 (all:List Oper) (ms:List Nat) (W:List (Tmp×Nat)):∀ (l:List Oper) (k:Nat),zdi all ms W l k=true->∀ j o,l[j]? =some o->
 (∀ d,o.dst=some d->z2q d W=some (k+j))/\(∀ t∈z47 o.op,zlb ms (k+j) (z2q t W)=true)/\∀ g,o.guard=some g->Nat.testBit (ms.getD (k+j) 0) g.1=true:=by
 intro l
 induction l with
 | nil=>intro k _ j o h;simp at h
 | cons x l ih=>
   intro k h j o hj;unfold zdi at h;simp only [Bool.and_eq_true] at h;obtain ⟨⟨⟨h1,h2⟩,h3⟩,h4⟩:=h
   cases j with
   | zero=>
     simp at hj;subst hj;refine ⟨fun d hd=>?_,fun t ht=>List.all_eq_true.1 h2 t ht,fun g hg=>?_⟩
     ·rw [hd] at h1;simp only [] at h1
      cases hf:z2q d W with
      | none=>rw [hf] at h1;cases h1
      | some i=>rw [hf] at h1;rw [Nat.eq_of_beq_eq_true h1];rfl
     ·unfold zs3 at h3;rw [hg] at h3;exact h3
   | succ j=>have:=ih _ h4 j o (by simpa using hj);rw [show Nat.succ k+j=k+(j+1) by omega] at this;exact this
structure Plan (ops:Array Oper) (pl:List PI):Prop where
 mem:∀ p∈pl,ops[p.i]? =some p.o/\(masks ops.toList []).getD p.i 0=p.mask
 all:∀ i,i<ops.size->i∈plI pl
 plan:zuh pl
 slots:SlotP ops (masks ops.toList []) (writers ops.toList 0)
 order:∀ mixed t,Order ops (Region.schedule mixed ops t)
theorem ztm {ops:Array Oper} {pl:List PI} (h:plan ops=some pl):Plan ops pl:=by
 unfold plan z012 z010 at h;split at h
 ·rename_i hc;cases h;simp only [Bool.and_eq_true] at hc;obtain ⟨⟨⟨h1,h2⟩,h3⟩,h4⟩:=hc;have hmem:∀ p∈planned (items ops.toList (masks ops.toList []) 0),ops[p.i]? =some p.o/\(masks ops.toList []).getD p.i 0=p.mask:=by
   intro p hp;obtain ⟨j,k1,k2,k3⟩:=zod _ _ _ _ (zkm hp);rw [Nat.zero_add] at k1;rw [k1];refine ⟨by simpa using k2,?_⟩;rw [List.getD_eq_getElem?_getD,k3];rfl
  unfold z011 at h1;split at h1
  ·rename_i m hm;obtain ⟨k1,k2,k3,k4⟩:=zwf _ _ _ _ hm;have hsl:=zu0 ops.toList _ _ ops.toList 0 h2;refine ⟨hmem,fun i hi=>?_,k4,⟨fun j o ho=>?_,fun j o ho=>?_,fun j o ho=>?_⟩,zbe (zlv h3) fun hd=>?_⟩
   ·have:m=Nat.sub (Nat.pow 2 ops.toList.length) 1:=Nat.eq_of_beq_eq_true h1;rcases k3 i (by rw [this,zle];simpa using hi) with k|k
    ·simp at k
    ·exact k
   ·have:=(hsl j o (by simpa using ho)).1;rw [Nat.zero_add] at this;exact this
   ·have:=(hsl j o (by simpa using ho)).2.1;rw [Nat.zero_add] at this;exact this
   ·have:=(hsl j o (by simpa using ho)).2.2;rw [Nat.zero_add] at this;exact this
   ·unfold zlh at h4;rw [hd] at h4;exact zlv h4
  ·cases h1
 ·cases h
end Go.Play
namespace Go.Play
def needs (ops:Array Oper) (o:Oper):List Tmp:=z47 o.op++(match o.guard with|some g=>(match ops[g.1]? with|some o0=>o0.dst.toList|none=>[])|none=>[])
def putT (d:Option Tmp) (x:Value) (ts:Array Value):Array Value:=match d with|some d=>ts.setIfInBounds d x|none=>ts
def putS (d:Option Tmp) (v:SV) (tm:T SV):T SV:=match d with|some d=>sset' (pa d) v tm|none=>tm
theorem z7l (d:Option Tmp) (v:SV) (tm:T SV) (K:T SV->Res):setO d v tm K=K (putS d v tm):=by
 cases d with
 | none=>rfl
 | some d=>exact zdj _ _ _ _
theorem zts {d:Tmp} {v:SV} {tm:T SV}:sget (pa d) (putS (some d) v tm)=v:=by show sget (pa d) (sset' (pa d) v tm)=v;rw [z45,if_pos rfl]
theorem z3n {d:Option Tmp} {v:SV} {tm:T SV} {t:Tmp} (h:d≠some t):sget (pa t) (putS d v tm)=sget (pa t) tm:=by
 cases d with
 | none=>rfl
 | some d=>show sget (pa t) (sset' (pa d) v tm)=_;rw [z45,if_neg fun e=>h (by rw [zby e])]
theorem ztt {d:Tmp} {x:Value} {ts:Array Value} (h:d<ts.size):(putT (some d) x ts).getD d undef=x:=by simp [putT,Array.getD,h]
theorem z61 {d:Option Tmp} {x:Value} {ts:Array Value} {t:Tmp} (h:d≠some t):(putT d x ts).getD t undef=ts.getD t undef:=by
 cases d with
 | none=>rfl
 | some d=>have:d≠t:=fun e=>h (by rw [e]);simp only [putT,Array.getD_eq_getD_getElem?,Array.getElem?_setIfInBounds_ne this]
theorem z1v (d:Option Tmp) (x:Value) (ts:Array Value):(putT d x ts).size=ts.size:=by cases d<;>simp [putT]
theorem TR.put {ρ:Env} {tm:T SV} {ts:Array Value} (h:TR ρ tm ts) {d:Option Tmp} (hd:∀ t,d=some t->t<ts.size) {v:SV} {x:Value} (hv:VR ρ v x):TR ρ (putS d v tm) (putT d x ts):=by
 cases d with
 | none=>exact h
 | some d=>exact h.set (hd d rfl) hv
section
variable (P:Program) (G:Glob) (ops:Array Oper) (tm0:T SV) (h0:H)
def zhp (l:List Nat) (tm:T SV) (t:Tmp):SV:=match z2q t (writers ops.toList 0) with
 | some i=>if i∈l then sget (pa t) tm0 else sget (pa t) tm
 | none=>sget (pa t) tm
def mkO (i:Nat):Nat:=(masks ops.toList []).getD i 0
def Agree (i:Nat) (tm tmj:T SV) (t:Tmp):Prop:=match z2q t (writers ops.toList 0) with
 | some i'=>if Nat.testBit (mkO ops i) i'=true then sget (pa t) tm=sget (pa t) tmj else sget (pa t) tm0=sget (pa t) tmj
 | none=>sget (pa t) tm0=sget (pa t) tmj
def Late (pl:List PI) (tm:T SV) (h:H) (fl:Fl) (ρ:Env) (i:Nat):Prop:=
 ∃ o tmj,ops[i]? =some o/\(∀ t∈needs ops o,Agree ops tm0 i tm tmj t)/\(∀ j,Nat.testBit (mkO ops i) j=true->j ∉ plI pl)/\
  ((zaw o.guard ops tmj=false/\∀ d,o.dst=some d->sget (pa d) tm=z2h)∨
   (zaw o.guard ops tmj=true/\∃ hj v hs,sop o.op o.type P G tmj (z46 (z1o o.op tmj) hj)=.val v hs/\(∀ d,o.dst=some d->sget (pa d) tm=v)/\(∀ t∈z47 o.op,NS (nOf hj).num (sget (pa t) tmj))/\
     GS G (nOf hj).num/\(nOf h0).num<=(nOf hj).num/\(∀ q,z1o o.op tmj=some q->hget h q=hget hj q/\OS P (nOf hj).num (hget hj q)/\(i,q,false)∈fl)/\
     (nOf hs=nOf hj∨nOf hs=Pa.succ (nOf hj)/\ρ (nOf hj)=none/\hget h (nOf hj)=hget hs (nOf hj)/\(i,nOf hj,true)∈fl)))
def Phantom (tm:T SV) (h:H) (n:Nat):Prop:=∃ (M:Nat->Prop) (ρ:Env) (w:World) (ts:Array Value),Sim P G M ρ h w/\TR ρ tm ts/\ts.size=n
structure DInv (M:Nat->Prop) (ρ0:Env) (w0:World) (pl:List PI) (l:List Nat) (tm:T SV) (h:H) (fl:Fl) (ts:Array Value) (ρ:Env) (w:World):Prop where
 sim:Sim P G M ρ h w
 grow:Grow M ρ0 h0 w0 ρ h w
 slots:∀ t,VR ρ (zhp ops tm0 l tm t) (ts.getD t undef)
 keep0:∀ t,(∀ i,z2q t (writers ops.toList 0)=some i->i∈plI pl)->sget (pa t) tm=sget (pa t) tm0
 late:∀ i,i∈l->i ∉ plI pl->Late P G ops tm0 h0 pl tm h fl ρ i
 phantom:Phantom P G tm h ts.size
 flb:∀ e∈fl,e.2.1.num<(nOf h).num
 fln:∀ e∈fl,∀ e'∈fl,e.2.2=true->e'.2.2=true->e.2.1=e'.2.1->e.1=e'.1
 plan:zuh pl
 mem:∀ p∈pl,ops[p.i]? =some p.o/\mkO ops p.i=p.mask
 closed:∀ i,i<ops.size->i ∉ plI pl->∀ j,Nat.testBit (mkO ops i) j=true->j ∉ plI pl
 sub:∀ i,i∈plI pl->i∈l
 nodup:l.Nodup
 lt:∀ i,i∈l->i<ops.size
 down:∀ i,i<ops.size->i ∉ l->∀ j,Nat.testBit (mkO ops i) j=true->j ∉ l
 head:∀ i b,l=i::b->∀ j,Nat.testBit (mkO ops i) j=true->j ∉ l
 tail:∀ a i b,l=a++i::b->∀ j,Nat.testBit (mkO ops i) j=true->j∈l->j∈a
end
section
variable {P:Program} {G:Glob} {ops:Array Oper} {tm0:T SV} {h0:H} {M:Nat->Prop} {ρ0 ρ:Env} {w0 w:World} {pl:List PI} {l:List Nat} {tm:T SV} {h:H} {fl:Fl} {ts:Array Value}
theorem Sim.below_eq (s:Sim P G M ρ h w):ρ.below (nOf h).num=ρ:=by
 funext o
 cases hb:ρ o with
 | none=>unfold Env.below;rw [hb];split<;>rfl
 | some b=>exact z6z hb (s.dom o b hb)
theorem Sim.light (s:Sim P G M ρ h w) {o:Pa} {b:Loc} {N:Nat} (hn:ρ o=none) (hlt:o.num<(nOf h).num) {w':World} (ho:w'.os=w.os) (ht:w'.tape=w.tape) (hu:w'.output=w.output)
 (hz:w.heap.size<=w'.heap.size) (hbz:b.block<w'.heap.size) (hk:∀ k,k<w.heap.size->w'.heap[k]? =w.heap[k]?) (hob:OR P ((ρ.below N).put o b) (hget h o) b w'.heap[b.block]?) (hne:hget h o≠.none->w.heap.size<=b.block):Sim P G M (ρ.put o b) h w':=by
 by_cases hnone:hget h o=.none
 ·exact s.putNone hn hnone hlt hz hbz hk
 ·have hbb:=hne hnone;have hle:Env.le ((ρ.below N).put o b) (ρ.put o b):=by
   intro p b' hb';unfold Env.put at hb' ⊢;split at hb'
   ·rename_i e;rw [if_pos e];exact hb'
   ·rename_i e;rw [if_neg e];exact (z3p hb').2
  exact s.place (h':=h) (fun _ _=>rfl) hn rfl hlt (Nat.le_refl _) ho ht hu hz hbz (fun k _ hk'=>hk k hk') (s.fresh _ hbb) (fun o' b' hb' _ e=>by have:=s.size o' b' hb';omega) (hob.mono hle)
theorem zbr {o:Oper} {t:Tmp} (h:t∈z47 o.op):t∈needs ops o:=List.mem_append_left _ h
theorem zk9 {o o0:Oper} {g:Nat×Bool} (hg:o.guard=some g) (ho:ops[g.1]? =some o0) {d:Tmp} (hd:o0.dst=some d):d∈needs ops o:=by unfold needs;rw [hg];simp only [ho,hd];simp
theorem z5i (hP:SlotP ops (masks ops.toList []) (writers ops.toList 0)) {i:Nat} {o:Oper} (ho:ops[i]? =some o) {t:Tmp} (ht:t∈needs ops o) {i':Nat} (hw:z2q t (writers ops.toList 0)=some i'):
 i'=i∨Nat.testBit (mkO ops i) i'=true∨Nat.testBit (mkO ops i') i=true:=by
 unfold needs at ht;rcases List.mem_append.1 ht with ht|ht
 ·have:=hP.reads i o ho t ht;rw [hw] at this;unfold zlb at this;simp only [Bool.or_eq_true] at this;rcases this with (k|k)|k
  ·exact .inl (Nat.eq_of_beq_eq_true k)
  ·exact .inr (.inl k)
  ·exact .inr (.inr k)
 ·cases hg:o.guard with
  | none=>rw [hg] at ht;cases ht
  | some g=>
    rw [hg] at ht
    cases h0:ops[g.1]? with
    | none=>simp only [h0] at ht;cases ht
    | some o0=>
      simp only [h0] at ht
      have hd:o0.dst=some t:=by cases hdd:o0.dst with
       | none=>rw [hdd] at ht;cases ht
       | some d=>rw [hdd] at ht;simp at ht;rw [ht]
      have h1:=hP.own g.1 o0 h0 t hd;rw [hw] at h1;cases h1;exact .inr (.inl (hP.guard i o ho g hg))
theorem z28 (hP:SlotP ops (masks ops.toList []) (writers ops.toList 0)) {i:Nat} {o:Oper} (ho:ops[i]? =some o) {d:Tmp} (hd:o.dst=some d):z2q d (writers ops.toList 0)=some i:=hP.own i o ho d hd
theorem z7i (hP:SlotP ops (masks ops.toList []) (writers ops.toList 0)) {i j:Nat} {o:Oper} (ho:ops[i]? =some o) {t:Tmp} (hw:z2q t (writers ops.toList 0)=some j) (hne:j≠i) (v:SV):sget (pa t) (putS o.dst v tm)=sget (pa t) tm:=
 z3n fun e=>hne (by have:=z28 hP ho e;rw [hw] at this;cases this;rfl)
theorem zpa (hP:SlotP ops (masks ops.toList []) (writers ops.toList 0)) {i:Nat} {o:Oper} (ho:ops[i]? =some o) {t:Tmp} (hw:z2q t (writers ops.toList 0)=none) (v:SV):sget (pa t) (putS o.dst v tm)=sget (pa t) tm:=
 z3n fun e=>by have:=z28 hP ho e;rw [hw] at this;cases this
theorem Late.stays (hP:SlotP ops (masks ops.toList []) (writers ops.toList 0)) {p:PI} {o:Oper} (hp:ops[p.i]? =some o) {i:Nat} (hne:i≠p.i) {h':H} {fl':Fl} {ρ':Env} {v:SV} (k:Late P G ops tm0 h0 (p::pl) tm h fl ρ i)
 (hq:∀ q b,(i,q,b)∈fl->hget h' q=hget h q) (hfl:∀ e∈fl,e∈fl') (hρ:∀ q,(i,q,true)∈fl->ρ q=none->ρ' q=none):Late P G ops tm0 h0 pl (putS o.dst v tm) h' fl' ρ' i:=by
 obtain ⟨oi,tmj,k1,k2,k3,k4⟩:=k;have own:∀ d,oi.dst=some d->sget (pa d) (putS o.dst v tm)=sget (pa d) tm:=fun d hd=>z7i hP hp (z28 hP k1 hd) hne v;refine ⟨oi,tmj,k1,fun t ht=>?_,fun j hj hm=>k3 j hj (by simp only [plI,List.map_cons,List.mem_cons];exact .inr hm),?_⟩
 ·have:=k2 t ht;unfold Agree at this ⊢
  cases hw:z2q t (writers ops.toList 0) with
  | none=>rw [hw] at this;exact this
  | some i'=>
    rw [hw] at this;simp only [] at this ⊢;by_cases hb:Nat.testBit (mkO ops i) i'=true
    ·rw [if_pos hb] at this ⊢;rw [z7i hP hp hw (fun e=>k3 i' hb (by rw [e];simp [plI])) v];exact this
    ·rw [if_neg hb] at this ⊢;exact this
 ·rcases k4 with ⟨a,b⟩|⟨a,hj,u,hs,b1,b2,b3,b4,b5,b6,b7⟩
  ·exact .inl ⟨a,fun d hd=>by rw [own d hd];exact b d hd⟩
  ·refine .inr ⟨a,hj,u,hs,b1,fun d hd=>by rw [own d hd];exact b2 d hd,b3,b4,b5,fun q hq'=>?_,?_⟩
   ·obtain ⟨c1,c2,c3⟩:=b6 q hq';exact ⟨by rw [hq q _ c3];exact c1,c2,hfl _ c3⟩
   ·rcases b7 with c|⟨c1,c2,c3,c4⟩
    ·exact .inl c
    ·exact .inr ⟨c1,hρ _ c4 c2,by rw [hq _ _ c4];exact c3,hfl _ c4⟩
theorem z6p {q:Option Pa} {i:Nat} {e:Nat×Pa×Bool}:e∈flR q i fl↔(∃ o,q=some o/\e=(i,o,false))∨e∈fl:=by
 cases q with
 | none=>show e∈fl↔_;simp
 | some o=>show e∈(i,o,false)::fl↔_;simp
theorem Phantom.light {n:Nat} (hp:Phantom P G tm h n) {o:Oper} (hd:∀ d,o.dst=some d->d<n) {v:SV} {hs:H} (he:sop o.op o.type P G tm (z46 (z1o o.op tm) h)=.val v hs):
 (nOf hs=nOf h->Phantom P G (putS o.dst v tm) h n)/\(nOf hs=Pa.succ (nOf h)->Phantom P G (putS o.dst v tm) (hpush h (hget hs (nOf h))) n)/\(∀ t,NS (nOf h).num (sget (pa t) tm))/\
   (∀ q,z1o o.op tm=some q->OS P (nOf h).num (hget h q)/\q.num<(nOf h).num):=by
 obtain ⟨Mp,ρp,wp,tsp,s,ht,hz⟩:=hp;have hns:∀ t,NS (nOf h).num (sget (pa t) tm):=fun t=>(ht t).ns s.dom;have hrd:∀ q,z1o o.op tm=some q->OS P (nOf h).num (hget h q)/\q.num<(nOf h).num:=by intro q hq;obtain ⟨b,hb⟩:=zhg (z75 ht) hq;exact ⟨(s.live q b hb).os s.dom,s.dom q b hb⟩
 have run:=fun hn=>zgx s (hj:=h) (o:=o) (tmj:=tm) (ts:=tsp) (fun t _=>ht t) (fun t _=>hns t) s.gs (fun q hq=>⟨rfl,(hrd q hq).1⟩) he hn;refine ⟨fun hn=>?_,fun hn=>?_,hns,hrd⟩
 ·obtain ⟨x,w',hr,a1,a2,a3,a4,a5,hc⟩:=run (.inl hn);rcases hc with hv|⟨hs2,_⟩
  ·exact ⟨Mp,ρp,w',putT o.dst x tsp,s.more a4 a5,ht.put (fun t e=>by rw [hz];exact hd t e) hv,by rw [z1v,hz]⟩
  ·rw [hn] at hs2;exact absurd hs2.symm (Pa.succ_ne _)
 ·obtain ⟨x,w',hr,a1,a2,a3,a4,a5,hc⟩:=run (.inr hn);have hne:ρp (nOf h)=none:=s.none_at;rcases hc with hv|⟨_,b,hv,hbz,hob,hbb⟩
  ·exact ⟨Mp,ρp,w',putT o.dst x tsp,(s.ahead _).more a4 a5,ht.put (fun t e=>by rw [hz];exact hd t e) hv,by rw [z1v,hz]⟩
  ·have hat:hget (hpush h (hget hs (nOf h))) (nOf h)=hget hs (nOf h):=by rw [z3r,if_pos rfl]
   have s2:=(s.ahead (hget hs (nOf h))).light (o:=nOf h) (b:=b) (N:=(nOf h).num) hne (by rw [z9a,Pa.num_succ];omega) a1 a2 a3 a4 hbz a5 (by rw [hat];exact hob) (by rw [hat];exact hbb);have hle:Env.le ρp (ρp.put (nOf h) b):=Env.put_le b hne;rw [s.below_eq] at hv;exact ⟨Mp,_,w',putT o.dst x tsp,s2,(ht.mono hle).put (fun t e=>by rw [hz];exact hd t e) hv,by rw [z1v,hz]⟩
theorem z1b (p:PI) (pl:List PI):plI (p::pl)=p.i::plI pl:=rfl
theorem zoh (hP:SlotP ops (masks ops.toList []) (writers ops.toList 0)) {p:PI} (hl:p.heavy=false) (hd:∀ (i:Nat) (o:Oper) (d:Tmp),ops[i]? =some o->o.dst=some d->d<ts.size) (D:DInv P G ops tm0 h0 M ρ0 w0 (p::pl) l tm h fl ts ρ w) (b:Bd) (K:zi3):
 znn p ops P G b tm h fl K=.bad∨∃ tm' h' fl',znn p ops P G b tm h fl K=K tm' h' fl'/\DInv P G ops tm0 h0 M ρ0 w0 pl l tm' h' fl' ts ρ w:=by
 obtain ⟨i,o,heavy,mask⟩:=p;obtain rfl:heavy=false:=hl;obtain ⟨hpo,hpm⟩:=D.mem _ (List.mem_cons_self ..);simp only [PI.i,PI.o,PI.mask] at hpo hpm;have hil:i∈l:=D.sub i (by rw [z1b];simp [PI.i]);obtain ⟨pn1,pn2,_,pn4⟩:=D.plan;simp only [PI.i,PI.mask] at pn1 pn2
 have build:∀ {v:SV} {h':H} {fl':Fl},(nOf h).num<=(nOf h').num->(∀ q,q.num<(nOf h).num->hget h' q=hget h q)->Sim P G M ρ h' w->Grow M ρ0 h0 w0 ρ h' w->Phantom P G (putS o.dst v tm) h' ts.size->(∀ e∈fl,e∈fl')->
  (∀ e∈fl',e.2.1.num<(nOf h').num)->(∀ e∈fl',∀ e'∈fl',e.2.2=true->e'.2.2=true->e.2.1=e'.2.1->e.1=e'.1)->Late P G ops tm0 h0 pl (putS o.dst v tm) h' fl' ρ i->DInv P G ops tm0 h0 M ρ0 w0 pl l (putS o.dst v tm) h' fl' ts ρ w:=by
  intro v h' fl' c1 c2 c3 c4 c5 c6 c7 c8 c9;refine ⟨c3,c4,fun t=>?_,fun t ht=>?_,fun j hj hjn=>?_,c5,c7,c8,pn4,fun q hq=>D.mem q (by simp [hq]),fun j hj hjn k hk hkn=>?_,fun j hj=>D.sub j (by rw [z1b];simp [hj]),D.nodup,D.lt,D.down,D.head,D.tail⟩
  ·have:=D.slots t;unfold zhp at this ⊢
   cases hw:z2q t (writers ops.toList 0) with
   | none=>rw [hw] at this;simp only [] at this ⊢;rw [zpa hP hpo hw];exact this
   | some i'=>
     rw [hw] at this;simp only [] at this ⊢;by_cases hm:i'∈l
     ·rw [if_pos hm] at this ⊢;exact this
     ·rw [if_neg hm] at this ⊢;rw [z7i hP hpo hw fun e=>hm (e▸hil)];exact this
  ·rw [z3n,D.keep0 t fun i' hi'=>by rw [z1b];simp [ht i' hi']];intro e;exact pn1 (ht i (z28 hP hpo e))
  ·by_cases e:j=i
   ·subst e;exact c9
   ·exact (D.late j hj (by rw [z1b];simp [PI.i,e,hjn])).stays hP (p:=.mk i o false mask) hpo e (fun q b hq=>c2 q (D.flb _ hq)) c6 (fun q _ hq=>hq)
  ·by_cases e:j=i
   ·subst e;rw [hpm] at hk;exact pn2 k hk (by rw [z1b];simp [hkn])
   ·exact D.closed j hj (by rw [z1b];simp [PI.i,e,hjn]) k hk (by rw [z1b];simp [hkn])
 have agree:∀ {v:SV},∀ t∈needs ops o,Agree ops tm0 i (putS o.dst v tm) tm t:=by
  intro v t ht;unfold Agree
  cases hw:z2q t (writers ops.toList 0) with
  | none=>exact (D.keep0 t fun i' hi'=>by rw [hw] at hi';cases hi').symm
  | some i'=>
    simp only [];by_cases hb:Nat.testBit (mkO ops i) i'=true
    ·rw [if_pos hb];exact z7i hP hpo hw (fun e=>pn2 i' (hpm▸hb) (by rw [z1b,e];simp [PI.i])) v
    ·rw [if_neg hb];refine (D.keep0 t fun i2 hi2=>?_).symm;rw [hw] at hi2;cases hi2;rcases z5i hP hpo ht hw with k|k|k
     ·rw [z1b,k];simp [PI.i]
     ·exact absurd k hb
     ·refine Classical.byContradiction fun hn=>?_;have hlt:i'<ops.size:=by
       rcases Nat.lt_or_ge i' ops.size with h1|h1
       ·exact h1
       ·have:mkO ops i'=0:=by
         unfold mkO;rw [List.getD_eq_getElem?_getD,List.getElem?_eq_none (by rw [(z8a _ _).1];simpa using h1)];rfl
        rw [this] at k;simp at k
      exact D.closed i' hlt hn i k (by rw [z1b];simp [PI.i])
 have hmask:∀ j,Nat.testBit (mkO ops i) j=true->j ∉ plI pl:=fun j hj hm=>pn2 j (hpm▸hj) (by rw [z1b];simp [hm]);have own:∀ {v:SV} d,o.dst=some d->sget (pa d) (putS o.dst v tm)=v:=fun d hd=>by rw [hd];exact zts
 have hdo:∀ d,o.dst=some d->d<ts.size:=fun d hd'=>hd i o d hpo hd';change zy9 o i false mask ops P G b tm h fl K=.bad∨∃ tm' h' fl',zy9 o i false mask ops P G b tm h fl K=K tm' h' fl'/\_;obtain ⟨dst,op,ty,pos,after,guard⟩:=o;change zux (zaw guard ops tm) false i mask op ty P G b tm h fl (fun v h fl=>setO dst v tm fun tm=>K tm h fl)=.bad∨∃ tm' h' fl',zux (zaw guard ops tm) false i mask op ty P G b tm h fl (fun v h fl=>setO dst v tm fun tm=>K tm h fl)=K tm' h' fl'/\_
 cases hwant:zaw guard ops tm with
 | false=>
   refine .inr ⟨putS dst z2h tm,h,fl,z7l _ _ _ _,?_⟩;obtain ⟨Mp,ρp,wp,tsp,ps,pt,pz⟩:=D.phantom;refine build (v:=z2h) (Nat.le_refl _) (fun _ _=>rfl) D.sim D.grow ⟨Mp,ρp,wp,putT dst undef tsp,ps,pt.put (fun t e=>by rw [pz];exact hdo t e) (.lit _),by rw [z1v,pz]⟩ (fun _ he=>he) D.flb D.fln ?_
   exact ⟨_,tm,hpo,agree,hmask,.inl ⟨hwant,fun d hd=>own d hd⟩⟩
 | true=>
   change zsm (sop op ty P G tm (z46 (z1o op tm) h)) h i (flR (z1o op tm) i fl) (fun v h fl=>setO dst v tm fun tm=>K tm h fl)=.bad∨∃ tm' h' fl',zsm (sop op ty P G tm (z46 (z1o op tm) h)) h i (flR (z1o op tm) i fl) (fun v h fl=>setO dst v tm fun tm=>K tm h fl)=K tm' h' fl'/\_
   cases he:sop op ty P G tm (z46 (z1o op tm) h) with
   | val v hs=>
     obtain ⟨ph1,ph2,phn,phr⟩:=D.phantom.light (o:=⟨dst,op,ty,pos,after,guard⟩) hdo he;obtain ⟨n',ob⟩:=hs;change zsn (Pa.beq n' (nOf h)) v (nOf h) n' ob h i (flR (z1o op tm) i fl) (fun v h fl=>setO dst v tm fun tm=>K tm h fl)=.bad∨∃ tm' h' fl',zsn (Pa.beq n' (nOf h)) v (nOf h) n' ob h i (flR (z1o op tm) i fl) (fun v h fl=>setO dst v tm fun tm=>K tm h fl)=K tm' h' fl'/\_;have flb1:∀ e∈flR (z1o op tm) i fl,e.2.1.num<(nOf h).num:=by
      intro e he';rcases z6p.1 he' with ⟨q,hq,rfl⟩|he'
      ·exact (phr q hq).2
      ·exact D.flb e he'
     have fln1:∀ e∈flR (z1o op tm) i fl,∀ e'∈flR (z1o op tm) i fl,e.2.2=true->e'.2.2=true->e.2.1=e'.2.1->e.1=e'.1:=by
      intro e h1 e' h2 t1 t2 t3;rcases z6p.1 h1 with ⟨q,hq,rfl⟩|h1
      ·cases t1
      ·rcases z6p.1 h2 with ⟨q,hq,rfl⟩|h2
       ·cases t2
       ·exact D.fln e h1 e' h2 t1 t2 t3
     cases hb:Pa.beq n' (nOf h) with
     | true=>
       have hn:n'=nOf h:=(Pa.beq_iff _ _).1 hb;refine .inr ⟨putS dst v tm,h,flR (z1o op tm) i fl,z7l _ _ _ _,?_⟩;refine build (v:=v) (Nat.le_refl _) (fun _ _=>rfl) D.sim D.grow (ph1 hn) (fun e he'=>z6p.2 (.inr he')) flb1 fln1 ?_
       exact ⟨_,tm,hpo,agree,hmask,.inr ⟨hwant,h,v,_,he,fun d hd=>own d hd,fun t _=>phn t,D.sim.gs,D.grow.nx,fun q hq=>⟨rfl,(phr q hq).1,z6p.2 (.inl ⟨q,hq,rfl⟩)⟩,.inl hn⟩⟩
     | false=>
       change zjy (Pa.beq n' (Pa.succ (nOf h))) v (nOf h) (oget (nOf h) ob) h i (flR (z1o op tm) i fl) (fun v h fl=>setO dst v tm fun tm=>K tm h fl)=.bad∨∃ tm' h' fl',zjy (Pa.beq n' (Pa.succ (nOf h))) v (nOf h) (oget (nOf h) ob) h i (flR (z1o op tm) i fl) (fun v h fl=>setO dst v tm fun tm=>K tm h fl)=K tm' h' fl'/\_
       cases hb2:Pa.beq n' (Pa.succ (nOf h)) with
       | false=>exact .inl rfl
       | true=>
         have hn:n'=Pa.succ (nOf h):=(Pa.beq_iff _ _).1 hb2;have hob:oget (nOf h) ob=hget (.mk n' ob) (nOf h):=rfl;refine .inr ⟨putS dst v tm,hpush h (oget (nOf h) ob),(i,nOf h,true)::flR (z1o op tm) i fl,?_,?_⟩
         ·show newR h (oget (nOf h) ob) (fun _ h'=>setO dst v tm fun tm'=>K tm' h' ((i,nOf h,true)::flR (z1o op tm) i fl))=_;rw [zyy,z7l]
         ·have hnx:(nOf (hpush h (oget (nOf h) ob))).num=(nOf h).num+1:=(by rw [z9a,Pa.num_succ]);have hgo:∀ q,q.num<(nOf h).num->hget (hpush h (oget (nOf h) ob)) q=hget h q:=fun q hq=>by rw [z3r,if_neg fun e=>by rw [e] at hq;exact Nat.lt_irrefl _ hq]
          have hgrow:Grow M ρ h w ρ (hpush h (oget (nOf h) ob)) w:=⟨rfl,rfl,rfl,Nat.le_refl _,fun _ _=>rfl,by rw [hnx];omega,.refl _,fun q h1 h2=>absurd h1 h2,fun q b hb hne=>.inr ⟨hb,by rw [<- hgo q (D.sim.dom q b hb)];exact hne⟩⟩;refine build (v:=v) (by rw [hnx];omega) hgo (D.sim.ahead _) (D.grow.trans hgrow) (ph2 hn) (fun e he'=>by simp [z6p,he']) (fun e he'=>?_) (fun e h1 e' h2 t1 t2 t3=>?_) ?_
          ·rw [hnx]
           cases he' with
           | head=>show (nOf h).num<_;omega
           | tail _ hm=>have:=flb1 e hm;omega
          ·cases h1 with
           | head=>
             cases h2 with
             | head=>rfl
             | tail _ h2=>
               have k1:=flb1 e' h2;rw [<- t3] at k1
               exact absurd k1 (Nat.lt_irrefl _)
           | tail _ h1=>
             cases h2 with
             | head=>
               have k1:=flb1 e h1;rw [t3] at k1
               exact absurd k1 (Nat.lt_irrefl _)
             | tail _ h2=>exact fln1 e h1 e' h2 t1 t2 t3
          ·refine ⟨_,tm,hpo,agree,hmask,.inr ⟨hwant,h,v,_,he,fun d hd=>own d hd,fun t _=>phn t,D.sim.gs,D.grow.nx,fun q hq=>⟨hgo q (phr q hq).2,(phr q hq).1,by simp [z6p];exact .inl hq⟩,.inr ⟨hn,D.sim.none_at,?_,by simp⟩⟩⟩
           rw [z3r,if_pos rfl,hob]
   | _=>exact .inl rfl
end
end Go.Play
namespace Go.Play
theorem zrj {t:Tmp}:∀ (os:List Oper) (k j:Nat),z2q t (writers os k)=some j->∃ o,os[j-k]? =some o/\o.dst=some t/\k<=j:=by
 intro os
 induction os with
 | nil=>intro k j h;cases h
 | cons o os ih=>
   intro k j h;unfold writers at h;have next:z2q t (writers os (Nat.succ k))=some j->∃ o',(o::os)[j-k]? =some o'/\o'.dst=some t/\k<=j:=by intro h;obtain ⟨o',h1,h2,h3⟩:=ih _ _ h;refine ⟨o',?_,h2,by omega⟩;rw [show j-k=(j-Nat.succ k)+1 by omega];simpa using h1
   cases hd:o.dst with
   | none=>rw [hd] at h;exact next h
   | some d=>
     rw [hd] at h;simp only [] at h;unfold z2q at h
     cases hb:Nat.beq d t with
     | true=>
       rw [hb] at h;cases h
       exact ⟨o,by simp,by rw [hd,Nat.eq_of_beq_eq_true hb],Nat.le_refl _⟩
     | false=>rw [hb] at h;exact next h
theorem zc8 {ops:Array Oper} {t:Tmp} {i:Nat} (h:z2q t (writers ops.toList 0)=some i):∃ o,ops[i]? =some o/\o.dst=some t:=by obtain ⟨o,h1,h2,_⟩:=zrj _ _ _ h;exact ⟨o,by simpa using h1,h2⟩
theorem z9s (P:Program) (f:FuncId) (args:List SV) (kind:CallKind):(∀ K,z56 P f args kind K=.bad)∨∃ f':SF,(∀ K,z56 P f args kind K=K f')/\fiOf f'=.mk f kind none/\(∃ fn,P.funcs[f]? =some fn)/\
 ∀ (ρ:Env) (xs:Array Value),VRL ρ args xs.toList->SFR ρ f' (Frame.enter P f xs kind):=by
 by_cases hbad:∀ K,z56 P f args kind K=.bad
 ·exact .inl hbad
 ·refine .inr ?_;unfold z56 at hbad ⊢
  cases hf:z95 P f with
  | none=>rw [hf] at hbad;exact absurd (fun K=>rfl) hbad
  | some fn=>
    rw [hf] at hbad;change ¬ ∀ K,enter2 fn.body f fn.ntmps args kind K=.bad at hbad
    cases hb:fn.body with
    | none=>rw [hb] at hbad;exact absurd (fun K=>rfl) hbad
    | some c=>
      rw [hb] at hbad;change ¬ ∀ K,enter3 (z1n c fn.ntmps) c f args kind K=.bad at hbad
      cases hc:z1n c fn.ntmps with
      | false=>rw [hc] at hbad;exact absurd (fun K=>rfl) hbad
      | true=>
        obtain ⟨t',e,hg⟩:=zlc args .nil .e (fun tm=>.next (.mk (.mk f kind none) tm [.code c] [] .run) [] (.mk .e .nil));have heq:∀ K:SF->Res,zi7 args .nil .e (fun tm=>K (.mk (.mk f kind none) tm [.code c] [] .run))=K (.mk (.mk f kind none) t' [.code c] [] .run):=by
         have key:∀ (args:List SV) (t:T SV) (i:Pa),∃ t2,∀ K:T SV->Res,zi7 args t i K=K t2:=by
          intro args
          induction args with
          | nil=>intro t i;exact ⟨t,fun K=>rfl⟩
          | cons v l ih=>intro t i;obtain ⟨t2,h2⟩:=ih (sset' i v t) (Pa.succ i);exact ⟨t2,fun K=>by show sset i v t (fun t=>zi7 l t (Pa.succ i) K)=_;rw [zdj];exact h2 K⟩
         obtain ⟨t2,h2⟩:=key args .nil .e;have:t2=t':=by have h3:=h2 (fun tm=>.next (.mk (.mk f kind none) tm [.code c] [] .run) [] (.mk .e .nil));rw [e] at h3;injection h3 with h3;injection h3 with _ h3;exact h3.symm
         intro K;rw [h2,this]
        rw [z78] at hf;refine ⟨.mk (.mk f kind none) t' [.code c] [] .run,fun K=>?_,rfl,⟨fn,hf⟩,fun ρ xs hl=>?_⟩
        ·rw [<- heq K];show enter2 fn.body f fn.ntmps args kind K=_;rw [hb];show enter3 (z1n c fn.ntmps) c f args kind K=_;rw [hc];rfl
        ·have:=zlk (P:=P) (f:=f) (args:=args) (kind:=kind) hl (K:=fun f'=>.next f' [] (.mk .e .nil)) (Q:=fun r=>∀ f',r=.next f' [] (.mk .e .nil)->SFR ρ f' (Frame.enter P f xs kind)) (fun f' e=>by cases e) (fun f' hf' _ _ f'' e=>by cases e;exact hf');refine this _ ?_;unfold z56;rw [z78,hf];show enter2 fn.body f fn.ntmps args kind _=_;rw [hb];show enter3 (z1n c fn.ntmps) c f args kind _=_;rw [hc];exact heq (fun f'=>.next f' [] (.mk .e .nil))
section
variable {P:Program} {G:Glob} {ops:Array Oper} {tm0:T SV} {h0:H} {M:Nat->Prop} {ρ0 ρ ρ':Env} {w0 w w':World} {pl:List PI} {l:List Nat} {tm:T SV} {h:H} {fl:Fl} {ts:Array Value} {i:Nat} {o:Oper}
theorem DInv.ran (hP:SlotP ops (masks ops.toList []) (writers ops.toList 0)) (ho:ops[i]? =some o) (hi:i ∉ plI pl) (hd:∀ d,o.dst=some d->d<ts.size) (D:DInv P G ops tm0 h0 M ρ0 w0 pl (i::l) tm h fl ts ρ w) (s':Sim P G M ρ' h w') (g':Grow M ρ0 h0 w0 ρ' h w') (hle:Env.le ρ ρ') {x:Value}
 (hv:∀ d,o.dst=some d->VR ρ' (sget (pa d) tm) x) (hρ:∀ j∈l,∀ q,(j,q,true)∈fl->ρ q=none->ρ' q=none):DInv P G ops tm0 h0 M ρ0 w0 pl l tm h fl (putT o.dst x ts) ρ' w':=by
 obtain ⟨hnd1,hnd2⟩:=List.nodup_cons.1 D.nodup;refine ⟨s',g',fun t=>?_,D.keep0,fun j hj hjn=>?_,by rw [z1v];exact D.phantom,D.flb,D.fln,D.plan,D.mem,D.closed,fun j hj=>?_,hnd2,fun j hj=>D.lt j (by simp [hj]),fun j hj hjn k hk hkn=>?_,fun j b e k hk hkn=>?_,fun a j b e k hk hkn=>?_⟩
 ·have:=D.slots t;unfold zhp at this ⊢
  cases hw:z2q t (writers ops.toList 0) with
  | none=>
    rw [hw] at this;simp only [] at this ⊢;rw [z61 fun e=>by rw [z28 hP ho e] at hw;cases hw]
    exact this.mono hle
  | some i'=>
    rw [hw] at this;simp only [] at this ⊢;by_cases e:i'=i
    ·subst e;obtain ⟨o',ho',hdo⟩:=zc8 hw;rw [ho] at ho';cases ho';rw [if_neg hnd1,hdo,ztt (hd t hdo)];exact hv t hdo
    ·rw [z61 fun e'=>e (by rw [z28 hP ho e'] at hw;cases hw;rfl)];have hiff:i'∈i::l↔i'∈l:=(by simp [e]);by_cases hm:i'∈l
     ·rw [if_pos (hiff.2 hm)] at this;rw [if_pos hm];exact this.mono hle
     ·rw [if_neg fun k=>hm (hiff.1 k)] at this;rw [if_neg hm];exact this.mono hle
 ·obtain ⟨oj,tmj,k1,k2,k3,k4⟩:=D.late j (by simp [hj]) hjn;refine ⟨oj,tmj,k1,k2,k3,?_⟩;rcases k4 with a|⟨a,hj',u,hs,b1,b2,b3,b4,b5,b6,b7⟩
  ·exact .inl a
  ·refine .inr ⟨a,hj',u,hs,b1,b2,b3,b4,b5,b6,?_⟩;rcases b7 with c|⟨c1,c2,c3,c4⟩
   ·exact .inl c
   ·exact .inr ⟨c1,hρ j hj _ c4 c2,c3,c4⟩
 ·have:=D.sub j hj
  cases this with
  | head=>exact absurd hj hi
  | tail _ hm=>exact hm
 ·by_cases e:j=i
  ·exact D.head i l rfl k (e▸hk) (by simp [hkn])
  ·exact D.down j hj (by simp [e,hjn]) k hk (by simp [hkn])
 ·have:=D.tail [i] j b (by rw [e];rfl) k hk (by simp [hkn]);simp at this;exact hnd1 (this▸hkn)
 ·have:=D.tail (i::a) j b (by rw [e];rfl) k hk (by simp [hkn])
  cases this with
  | head=>exact absurd hkn hnd1
  | tail _ hm=>exact hm
theorem DInv.heavy (hP:SlotP ops (masks ops.toList []) (writers ops.toList 0)) {p:PI} (hpi:p.i=i) (ho:ops[i]? =some o) (hd:∀ d,o.dst=some d->d<ts.size) (D:DInv P G ops tm0 h0 M ρ0 w0 (p::pl) (i::l) tm h fl ts ρ w) {hu:H} (s':Sim P G M ρ' hu w') (g':Grow M ρ h w ρ' hu w')
 {v:SV} {x:Value} (hv:VR ρ' v x) (hph:Phantom P G (putS o.dst v tm) hu ts.size) (hq:∀ q,Named fl p.mask q->hget hu q=hget h q):DInv P G ops tm0 h0 M ρ0 w0 pl l (putS o.dst v tm) hu fl (putT o.dst x ts) ρ' w':=by
 obtain ⟨hnd1,hnd2⟩:=List.nodup_cons.1 D.nodup;obtain ⟨pn1,pn2,_,pn4⟩:=D.plan;obtain ⟨_,hpm⟩:=D.mem p (by simp);rw [hpi] at pn1 hpm;refine ⟨s',D.grow.trans g',fun t=>?_,fun t ht=>?_,fun j hj hjn=>?_,by rw [z1v];exact hph,fun e he=>Nat.lt_of_lt_of_le (D.flb e he) g'.nx,D.fln,pn4,fun q hq=>D.mem q (by simp [hq]),fun j hj hjn k hk hkn=>?_,fun j hj=>?_,hnd2,fun j hj=>D.lt j (by simp [hj]),fun j hj hjn k hk hkn=>?_,fun j b e k hk hkn=>?_,fun a j b e k hk hkn=>?_⟩
 ·have:=D.slots t;unfold zhp at this ⊢
  cases hw:z2q t (writers ops.toList 0) with
  | none=>
    rw [hw] at this;simp only [] at this ⊢;have hne:o.dst≠some t:=fun e=>by rw [z28 hP ho e] at hw;cases hw
    rw [z61 hne,z3n hne]
    exact this.mono g'.keep
  | some i'=>
    rw [hw] at this;simp only [] at this ⊢;by_cases e:i'=i
    ·subst e;obtain ⟨o',ho',hdo⟩:=zc8 hw;rw [ho] at ho';cases ho';rw [if_neg hnd1,hdo,ztt (hd t hdo),zts];exact hv
    ·have hne:o.dst≠some t:=fun e'=>e (by rw [z28 hP ho e'] at hw;cases hw;rfl);rw [z61 hne,z3n hne];have hiff:i'∈i::l↔i'∈l:=(by simp [e]);by_cases hm:i'∈l
     ·rw [if_pos (hiff.2 hm)] at this;rw [if_pos hm];exact this.mono g'.keep
     ·rw [if_neg fun k=>hm (hiff.1 k)] at this;rw [if_neg hm];exact this.mono g'.keep
 ·rw [z3n,D.keep0 t fun i' hi'=>by rw [z1b];simp [ht i' hi']];intro e;exact pn1 (ht i (z28 hP ho e))
 ·have hne:j≠i:=fun e=>hnd1 (e▸hj);refine (D.late j (by simp [hj]) (by rw [z1b,hpi];simp [hne,hjn])).stays hP (p:=p) (by rw [hpi];exact ho) (by rw [hpi];exact hne) (fun q b hqb=>hq q ⟨_,hqb,?_,rfl⟩) (fun _ he=>he) (fun q hqt hn=>?_)
  ·show Nat.testBit p.mask j=false
   cases hb:Nat.testBit p.mask j with
   | false=>rfl
   | true=>exact absurd (by simp [hj]) (D.head i l rfl j (by rw [hpm];exact hb))
  ·cases hr:ρ' q with
   | none=>rfl
   | some b=>have:=g'.new q hn (by rw [hr];simp);have:=D.flb _ hqt;simp only at this;omega
 ·by_cases e:j=i
  ·subst e;exact pn2 k (by rw [<- hpm];exact hk) (by rw [z1b];simp [hkn])
  ·exact D.closed j hj (by rw [z1b,hpi];simp [e,hjn]) k hk (by rw [z1b];simp [hkn])
 ·have:=D.sub j (by rw [z1b];simp [hj])
  cases this with
  | head=>exact absurd hj pn1
  | tail _ hm=>exact hm
 ·by_cases e:j=i
  ·exact D.head i l rfl k (e▸hk) (by simp [hkn])
  ·exact D.down j hj (by simp [e,hjn]) k hk (by simp [hkn])
 ·have:=D.tail [i] j b (by rw [e];rfl) k hk (by simp [hkn]);simp at this;exact hnd1 (this▸hkn)
 ·have:=D.tail (i::a) j b (by rw [e];rfl) k hk (by simp [hkn])
  cases this with
  | head=>exact absurd hkn hnd1
  | tail _ hm=>exact hm
theorem zxk {ops:Array Oper} {i j:Nat} (h:Nat.testBit (mkO ops i) j=true):i<ops.size:=by
 rcases Nat.lt_or_ge i ops.size with h1|h1
 ·exact h1
 ·have:mkO ops i=0:=by
   unfold mkO;rw [List.getD_eq_getElem?_getD,List.getElem?_eq_none (by rw [(z8a _ _).1];simpa using h1)];rfl
  rw [this] at h;simp at h
theorem DInv.late_slots (hP:SlotP ops (masks ops.toList []) (writers ops.toList 0)) (ho:ops[i]? =some o) (D:DInv P G ops tm0 h0 M ρ0 w0 pl (i::l) tm h fl ts ρ w) {tmj:T SV} (ha:∀ t∈needs ops o,Agree ops tm0 i tm tmj t):
 ∀ t∈needs ops o,VR ρ (sget (pa t) tmj) (ts.getD t undef):=by
 intro t ht;have h1:=D.slots t;have h2:=ha t ht;unfold zhp at h1;unfold Agree at h2
 cases hw:z2q t (writers ops.toList 0) with
 | none=>
   rw [hw] at h1 h2;simp only [] at h1 h2;rw [D.keep0 t fun i' hi'=>(by rw [hw] at hi';cases hi'),h2] at h1
   exact h1
 | some i'=>
   rw [hw] at h1 h2;simp only [] at h1 h2;by_cases hb:Nat.testBit (mkO ops i) i'=true
   ·rw [if_pos hb] at h2;rw [if_neg (D.head i l rfl i' hb),h2] at h1;exact h1
   ·rw [if_neg hb] at h2;have hin:i'∈i::l:=by
     rcases z5i hP ho ht hw with k|k|k
     ·rw [k];simp
     ·exact absurd k hb
     ·exact Classical.byContradiction fun hn=>D.down i' (zxk k) hn i k (by simp)
    rw [if_pos hin,h2] at h1;exact h1
theorem DInv.heavy_slots (hP:SlotP ops (masks ops.toList []) (writers ops.toList 0)) (ho:ops[i]? =some o) (hi:i∈plI pl) (D:DInv P G ops tm0 h0 M ρ0 w0 pl (i::l) tm h fl ts ρ w):∀ t∈needs ops o,VR ρ (sget (pa t) tm) (ts.getD t undef):=by
 intro t ht;have h1:=D.slots t;unfold zhp at h1
 cases hw:z2q t (writers ops.toList 0) with
 | none=>rw [hw] at h1;exact h1
 | some i'=>
   rw [hw] at h1;simp only [] at h1;by_cases hin:i'∈i::l
   ·rw [if_pos hin] at h1;rw [D.keep0 t fun i2 hi2=>?_]
    ·exact h1
    ·rw [hw] at hi2;cases hi2;rcases z5i hP ho ht hw with k|k|k
     ·rw [k];exact hi
     ·exact absurd hin (D.head i l rfl i' k)
     ·exact Classical.byContradiction fun hn=>D.closed i' (zxk k) hn i k hi
   ·rw [if_neg hin] at h1;exact h1
theorem zua {tmj:T SV} (hn:∀ t∈needs ops o,VR ρ (sget (pa t) tmj) (ts.getD t undef)):Region.wanted o (yielded ops ts)=zaw o.guard ops tmj:=by
 obtain ⟨tm',ht,hag⟩:=z8m ts (needs ops o) hn;unfold Region.wanted
 cases hg:o.guard with
 | none=>rfl
 | some g=>
   obtain ⟨j,want⟩:=g;show (yielded ops ts j==some want)=z79 (syielded ops tmj j) want;rw [zgi,<-zc9 ht]
   congr 1
   unfold syielded;rw [zt4,Array.getElem?_toList]
   cases h0:ops[j]? with
   | none=>rfl
   | some o0=>
     show yield2 (z74 o0) tm'=yield2 (z74 o0) tmj;rw [z5s]
     cases hd:o0.dst with
     | none=>rfl
     | some d=>show zlf (sget (pa d) tm')=zlf (sget (pa d) tmj);rw [hag d (zk9 hg h0 hd)]
end
end Go.Play
namespace Go.Play
theorem zs9 {P:Program} {G:Glob} {ops:Array Oper} {p:PI} (hp:p.heavy=true) (b:Bd) (tm:T SV) (h:H) (fl:Fl) (K:zi3):
 znn p ops P G b tm h fl K=match zaw p.o.guard ops tm with
  | false=>K (putS p.o.dst z2h tm) h fl
  | true=>dimK fl p.mask h [] fun hd u=>zs8 (sop p.o.op p.o.type P G tm hd) P b hd u fun v h'=>K (putS p.o.dst v tm) h' fl:=by
 obtain ⟨i,⟨dst,op,ty,pos,after,guard⟩,heavy,mask⟩:=p;obtain rfl:heavy=true:=hp;show zux (zaw guard ops tm) true i mask op ty P G b tm h fl (fun v h fl=>setO dst v tm fun tm=>K tm h fl)=_;have hK:(fun v h fl=>setO dst v tm fun tm=>K tm h fl)=fun v h fl=>K (putS dst v tm) h fl:=by funext v h fl;rw [z7l]
 rw [hK];simp only [PI.o,PI.mask]
 cases zaw guard ops tm with
 | false=>rfl
 | true=>rfl
section
variable {P:Program} {G:Glob} {ops:Array Oper} {tm0:T SV} {h0:H} {M:Nat->Prop} {ρ0 ρ ρ':Env} {w0 w w':World} {pl:List PI} {l:List Nat} {tm:T SV} {h:H} {fl:Fl} {i:Nat} {o:Oper} {f0:FuncId} {base:List Frame}
 {fi:FI} {de:List SDef} {cs:List SF} {k:List SI} {kt:List Item} {crs:List Frame}
theorem z7z {fr:Frame} (hft:fr.todo=.inRegion ops (i::l)::kt) (ho:ops[i]? =some o) (x:Value):fr.finish x={ fr with tmps:=putT o.dst x fr.tmps,todo:=.inRegion ops l::kt }:=by simp only [Frame.finish,hft,ho,Option.bind_some];cases o.dst<;>rfl
def z93 (ρ:Env) (f0:FuncId) (base:List Frame) (fi:FI) (de:List SDef) (cs:List SF) (k:List SI) (ops:Array Oper) (kt:List Item) (crs:List Frame) (l:List Nat) (fr:Frame):Prop:=
 fr.todo=.inRegion ops l::kt/\∃ tmx lops,SR ρ f0 base (.mk fi tmx (.inReg ops lops::k) de .run) cs fr crs
theorem z93.opers {fr:Frame} (h:z93 ρ f0 base fi de cs k ops kt crs l fr):∃ tmx lops,SR ρ f0 base (.mk fi tmx (.inReg ops lops::k) de .run) cs fr crs/\l.map (ops[·]?)=lops.map some:=by
 obtain ⟨hft,tmx,lops,hs⟩:=h;obtain ⟨it,kt',e,hi,hk⟩:=zy hs.top.todo;rw [hft] at e;cases e
 cases hi with
 | inReg he _=>exact ⟨tmx,lops,hs,he⟩
theorem z93.mode {fr:Frame} (h:z93 ρ f0 base fi de cs k ops kt crs l fr):fr.mode=.run:=by obtain ⟨_,tmx,lops,hs⟩:=h;exact hs.mode
theorem z93.done {fr:Frame} (hr:z93 ρ f0 base fi de cs k ops kt crs (i::l) fr) (ho:ops[i]? =some o) (hle:Env.le ρ ρ') (x:Value):z93 ρ' f0 base fi de cs k ops kt crs l (fr.finish x):=by
 obtain ⟨tmx,lops,hs,he⟩:=hr.opers
 cases lops with
 | nil=>cases he
 | cons o' rest=>obtain ⟨tm',_,hs'⟩:=z80 hs hle (.lit x) (fun _=>.bad);exact ⟨by rw [z7z hr.1 ho],tm',rest,hs'⟩
theorem zpl {fr:Frame} (hm:fr.mode=.run) (hft:fr.todo=.inRegion ops (i::l)::kt) (ho:ops[i]? =some o) (hw:Region.wanted o (yielded ops fr.tmps)=true) (hd:fr.roundOf=none∨∀ c,o.op≠.defer c) {x:Value} (hr:(execOp fr.eval o).run P w=.halt (.panic x) w):
 Go.step P (lone fr crs w)=.next (lone (fr.raise [{ v:=x,recovered:=false }]) crs w):=
 step_lone_go (by rw [z4l hm hft ho hw hd];simp only [stepG.apply,Sem.runT_eq,hr,GStep.bare_after,if_true];rfl)
theorem z8n {fr:Frame} (hm:fr.mode=.run) (hft:fr.todo=.inRegion ops (i::l)::kt) (ho:ops[i]? =some o) (hw:Region.wanted o (yielded ops fr.tmps)=true) (hd:fr.roundOf=none∨∀ c,o.op≠.defer c) {x:Value}
 (hr:(execOp fr.eval o).run P w=.ok (.value x) w'∨(execOp fr.eval o).run P w=.ok .skip w'/\x=undef):Go.step P (lone fr crs w)=.next (lone (fr.finish x) crs w'):=by
 rcases hr with hr|⟨hr,rfl⟩
 ·exact step_lone_go (by rw [z4l hm hft ho hw hd];simp only [stepG.apply,Sem.runT_eq,hr,GStep.bare_after,if_true];rfl)
 ·exact step_lone_go (by rw [z4l hm hft ho hw hd];simp only [stepG.apply,Sem.runT_eq,hr,GStep.bare_after,if_true];rfl)
theorem z7e {op:Op} {ty:TypeId} {tm:T SV} {h:H} (hb:sop op ty P G tm h≠.bad) (hd:∀ d,sop op ty P G tm h≠.defer d):∀ c,op≠.defer c:=by
 intro c e;rcases zhr (P:=P) (G:=G) e ty tm h with k|⟨d,k⟩
 ·exact hb k
 ·exact hd d k
theorem zsi (hP:SlotP ops (masks ops.toList []) (writers ops.toList 0)) {fr:Frame} (hd:∀ (i:Nat) (o:Oper) (d:Tmp),ops[i]? =some o->o.dst=some d->d<fr.tmps.size) (hi:i ∉ plI pl) (D:DInv P G ops tm0 h0 M ρ0 w0 pl (i::l) tm h fl fr.tmps ρ w)
 (s0:∀ k,w0.heap.size<=k->M k) (hr:z93 ρ f0 base fi de cs k ops kt crs (i::l) fr):
 ∃ ρ' w' fr',Go.step P (lone fr crs w)=.next (lone fr' crs w')/\DInv P G ops tm0 h0 M ρ0 w0 pl l tm h fl fr'.tmps ρ' w'/\z93 ρ' f0 base fi de cs k ops kt crs l fr'/\fr'.tmps.size=fr.tmps.size:=by
 obtain ⟨o,tmj,ho,ha,hm,hc⟩:=D.late i (by simp) hi;have hsl:=D.late_slots hP ho ha;have hwant:=zua hsl;have hdo:∀ d,o.dst=some d->d<fr.tmps.size:=fun d e=>hd i o d ho e;have htm:∀ x,(fr.finish x).tmps=putT o.dst x fr.tmps:=fun x=>by rw [z7z hr.1 ho]
 rcases hc with ⟨hw,hu⟩|⟨hw,hj,v,hs,b1,b2,b3,b4,b5,b6,b7⟩
 ·refine ⟨ρ,w,fr.finish undef,z51 hr.mode hr.1 ho (by rw [hwant,hw]),?_,hr.done ho (.refl _) undef,by rw [htm,z1v]⟩;rw [htm];exact D.ran hP ho hi hdo D.sim D.grow (.refl _) (fun d e=>by rw [hu d e];exact .lit _) fun _ _ _ _ hn=>hn
 ·have hnd:∀ c,o.op≠.defer c:=z7e (P:=P) (G:=G) (ty:=o.type) (tm:=tmj) (h:=z46 (z1o o.op tmj) hj) (by rw [b1];simp) (by rw [b1];simp);obtain ⟨x,w',hrun,a1,a2,a3,a4,a5,hcase⟩:=zgx D.sim (hj:=hj) (ts:=fr.tmps) (fun t ht=>hsl t (zbr ht)) b3 b4 (fun q hq=>⟨(b6 q hq).1,(b6 q hq).2.1⟩) b1 (by rcases b7 with c|⟨c,_⟩;exact .inl c;exact .inr c);rw [<- zrc] at hrun;have hst:=z8n (crs:=crs) hr.mode hr.1 ho (by rw [hwant,hw]) (.inr hnd) hrun;have far:∀ k,¬ M k->k<w.heap.size:=fun k hk=>by
   rcases Nat.lt_or_ge k w.heap.size with h1|h1
   ·exact h1
   ·exact absurd (s0 k (Nat.le_trans D.grow.size h1)) hk
  rcases hcase with hv|⟨hs2,b,hv,hbz,hob,hbb⟩
  ·have hg:Grow M ρ h w ρ h w':=⟨a1,a2,a3,a4,fun k hk=>a5 k (far k hk),Nat.le_refl _,.refl _,fun o h1 h2=>absurd h1 h2,fun o b hb hne=>.inr ⟨hb,hne⟩⟩;refine ⟨ρ,w',fr.finish x,hst,?_,hr.done ho (.refl _) x,by rw [htm,z1v]⟩;rw [htm];exact D.ran hP ho hi hdo (D.sim.more a4 a5) (D.grow.trans hg) (.refl _) (fun d e=>by rw [b2 d e];exact hv) fun _ _ _ _ hn=>hn
  ·obtain ⟨c2,c3,c4⟩:ρ (nOf hj)=none/\hget h (nOf hj)=hget hs (nOf hj)/\(i,nOf hj,true)∈fl:=by
    rcases b7 with c|⟨_,c⟩
    ·rw [c] at hs2;exact absurd hs2.symm (Pa.succ_ne _)
    ·exact c
   have hlt:=D.flb _ c4;simp only at hlt;have s2:=D.sim.light (o:=nOf hj) (b:=b) (N:=(nOf hj).num) c2 hlt a1 a2 a3 a4 hbz a5 (by rw [c3];exact hob) (by rw [c3];exact hbb);have hle:Env.le ρ (ρ.put (nOf hj) b):=Env.put_le b c2;have hlev:Env.le ((ρ.below (nOf hj).num).put (nOf hj) b) (ρ.put (nOf hj) b):=by
    intro o' b' hb';unfold Env.put at hb' ⊢;split at hb'
    ·rename_i e;rw [if_pos e];exact hb'
    ·rename_i e;rw [if_neg e];exact (z3p hb').2
   have hgrow:Grow M ρ0 h0 w0 (ρ.put (nOf hj) b) h w':=by
    refine ⟨a1.trans D.grow.os,a2.trans D.grow.tape,a3.trans D.grow.output,Nat.le_trans D.grow.size a4,fun k hk=>(a5 k (far k hk)).trans (D.grow.same k hk),D.grow.nx,D.grow.keep.trans hle,fun o' h1 h2=>?_,fun o' b' hb' hne=>?_⟩
    ·unfold Env.put at h2;split at h2
     ·rename_i e;rw [e];exact b5
     ·exact D.grow.new o' h1 h2
    ·unfold Env.put at hb';split at hb'
     ·rename_i e;cases hb';rw [e,c3] at hne;exact .inl (s0 _ (Nat.le_trans D.grow.size (hbb hne)))
     ·exact D.grow.track o' b' hb' hne
   refine ⟨ρ.put (nOf hj) b,w',fr.finish x,hst,?_,hr.done ho hle x,by rw [htm,z1v]⟩;rw [htm];refine D.ran hP ho hi hdo s2 hgrow hle (fun d e=>by rw [b2 d e];exact hv.mono hlev) fun j hj' q hq hn=>?_;unfold Env.put;rw [if_neg fun e=>?_]
   ·exact hn
   ·have:=D.fln _ hq _ c4 rfl rfl e;simp only at this;exact (List.nodup_cons.1 D.nodup).1 (this▸hj')
theorem Phantom.dims {n:Nat} (hp:Phantom P G tm h n) {mask:Nat} {hd:H} {u:List (Pa×SO)} (hn:nOf hd=nOf h) (h1:∀ o,Named fl mask o->Dimmed (hget hd o) (hget h o)) (h2:∀ o,¬ Named fl mask o->hget hd o=hget h o)
 (hb:∀ e∈fl,e.2.1.num<(nOf h).num) (u1:∀ h' o,Named fl mask o->hget (undim u h') o=hget h o) (u2:∀ p∈u,Named fl mask p.1) {dst:Option Tmp} (hdst:∀ d,dst=some d->d<n):
 ∃ (M:Nat->Prop) (ρ:Env) (w:World) (ts:Array Value),Sim P G M ρ hd w/\TR ρ tm ts/\∀ (ρ':Env) (w':World) (h':H) (v:SV) (x:Value),Sim P G M ρ' h' w'->Grow M ρ hd w ρ' h' w'->VR ρ' v x->Phantom P G (putS dst v tm) (undim u h') n:=by
 obtain ⟨Mp,ρp,wp,tsp,s,ht,hz⟩:=hp;have hnb:∀ o,Named fl mask o->o.num<(nOf h).num:=fun o ⟨e,he,_,ho⟩=>by rw [<- ho];exact hb e he
 refine ⟨_,ρp,wp,tsp,s.dim hn h1 h2,ht,fun ρ' w' h' v x s' g' hv=>?_⟩;obtain ⟨s2,g2⟩:=s.undim hn h1 h2 hnb (zh2 u h') (u1 h') (fun o ho=>z36 u h' o fun p hp e=>ho (e▸u2 p hp)) s' g';exact ⟨Mp,ρ',w',putT dst x tsp,s2,(ht.mono g'.keep).put (fun t e=>by rw [hz];exact hdst t e) hv,by rw [z1v,hz]⟩
theorem zo5 {R:RunF} (hR:zms P G R) (hf0:∃ fn,P.funcs[f0]? =some fn) (hP:SlotP ops (masks ops.toList []) (writers ops.toList 0)) {fr:Frame} (hd:∀ (i:Nat) (o:Oper) (d:Tmp),ops[i]? =some o->o.dst=some d->d<fr.tmps.size) {p:PI} (hp:p.heavy=true) (hpi:p.i=i)
 (D:DInv P G ops tm0 h0 M ρ0 w0 (p::pl) (i::l) tm h fl fr.tmps ρ w) (hr:z93 ρ f0 base fi de cs k ops kt crs (i::l) fr) (K:zi3)
 (hK:∀ {ρ':Env} {w':World} {fr':Frame} {tm':T SV} {h':H},DInv P G ops tm0 h0 M ρ0 w0 pl l tm' h' fl fr'.tmps ρ' w'->z93 ρ' f0 base fi de cs k ops kt crs l fr'->fr'.tmps.size=fr.tmps.size->zr P G M ρ0 h0 w0 f0 base (lone fr' crs w') (K tm' h' fl)):
 zr P G M ρ0 h0 w0 f0 base (lone fr crs w) (znn p ops P G (.mk fi de cs R) tm h fl K):=by
 obtain ⟨ho,hpm⟩:=D.mem p (by simp);rw [hpi] at ho;generalize hpo:p.o=o at ho;have hsl:=D.heavy_slots hP ho (by rw [z1b,hpi];simp);have hwant:=zua hsl;have hdo:∀ d,o.dst=some d->d<fr.tmps.size:=fun d e=>hd i o d ho e;have htm:∀ x,(fr.finish x).tmps=putT o.dst x fr.tmps:=fun x=>by rw [z7z hr.1 ho]
 rw [zs9 hp,hpo]
 cases hw:zaw o.guard ops tm with
 | false=>
   simp only [];have hst:=z51 (P:=P) (w:=w) (crs:=crs) hr.mode hr.1 ho (by rw [hwant,hw]);refine zr.after (.one hst) .refl (hK ?_ (hr.done ho (.refl _) undef) (by rw [htm,z1v]));obtain ⟨Mp,ρp,wp,tsp,ps,pt,pz⟩:=D.phantom;rw [htm]
   exact D.heavy hP hpi ho hdo D.sim .refl (.lit _) ⟨Mp,ρp,wp,putT o.dst undef tsp,ps,pt.put (fun t e=>by rw [pz];exact hdo t e) (.lit _),by rw [z1v,pz]⟩ fun _ _=>rfl
 | true=>
   simp only [];obtain ⟨hdm,u,e,d1,d2,d3,d4,d5⟩:=zy8 p.mask fl h h [] (fun hd u=>zs8 (sop o.op o.type P G tm hd) P (.mk fi de cs R) hd u fun v h'=>K (putS o.dst v tm) h' fl) (fun _=>False) rfl (fun _ k=>k.elim) (fun _ _=>rfl) (fun _ _ k=>k.elim) (fun q hq=>by cases hq);rw [e];clear e;have d2:∀ o,Named fl p.mask o->Dimmed (hget hdm o) (hget h o):=fun o ho=>d2 o (.inr ho);have d3:∀ o,¬ Named fl p.mask o->hget hdm o=hget h o:=fun o ho=>d3 o fun k=>ho (k.resolve_left id);have d4:∀ h' o,Named fl p.mask o->hget (undim u h') o=hget h o:=fun h' o ho=>d4 h' o (.inr ho);have d5:∀ q∈u,Named fl p.mask q.1:=fun q hq=>(d5 q hq).resolve_left id;have hnb:∀ o,Named fl p.mask o->o.num<(nOf h).num:=fun o ⟨e,he,_,ho⟩=>by rw [<- ho];exact D.flb e he
   have sd:=D.sim.dim d1 d2 d3
   have back:=fun {ρ':Env} {w':World} {h':H} (s':Sim P G (Mdim M ρ h (Named fl p.mask)) ρ' h' w') (g':Grow (Mdim M ρ h (Named fl p.mask)) ρ hdm w ρ' h' w')=>D.sim.undim d1 d2 d3 hnb (zh2 u h') (d4 h') (fun o ho=>z36 u h' o fun q hq e=>ho (e▸d5 q hq)) s' g'
   obtain ⟨tm',htr,hag⟩:=z8m fr.tmps (z47 o.op) (ρ:=ρ) (tm:=tm) fun t ht=>hsl t (zbr ht);have hok:=zmh sd o (f:=fr.eval) (by rw [zrc];exact z75 htr);rw [zhq (tm':=tm) fun t ht=>hag t ht] at hok;obtain ⟨Mp,ρp,wp,tsp,ps,pt,pback⟩:=D.phantom.dims d1 d2 d3 D.flb d4 d5 hdo;have pok:=zmh ps o (z75 pt)
   have value:∀ {ρ':Env} {w':World} {h':H} {v:SV} {x:Value},Sim P G (Mdim M ρ h (Named fl p.mask)) ρ' h' w'->Grow (Mdim M ρ h (Named fl p.mask)) ρ hdm w ρ' h' w'->VR ρ' v x->Phantom P G (putS o.dst v tm) (undim u h') fr.tmps.size->
    Steps P (lone fr crs w) (lone (fr.finish x) crs w')->zr P G M ρ0 h0 w0 f0 base (lone fr crs w) (z91 u h' fun h'=>K (putS o.dst v tm) h' fl):=by
    intro ρ' w' h' v x s' g' hv hph hst;obtain ⟨s2,g2⟩:=back s' g';rw [zhx];refine zr.after hst .refl (hK ?_ (hr.done ho g2.keep x) (by rw [htm,z1v]));rw [htm];exact D.heavy hP hpi ho hdo s2 g2 hv hph fun q hq=>d4 h' q hq
   have panics:∀ {ρ':Env} {w':World} {h':H} {c:List (SV×Bool)} {es:List PanicEntry},Sim P G (Mdim M ρ h (Named fl p.mask)) ρ' h' w'->Grow (Mdim M ρ h (Named fl p.mask)) ρ hdm w ρ' h' w'->CR ρ' c es->
    Steps P (lone fr crs w) (lone (fr.raise es) crs w')->zr P G M ρ0 h0 w0 f0 base (lone fr crs w) (z91 u h' fun h=>panB (isNil (deB (.mk fi de cs R))) (.mk fi de cs R) c h):=by
    intro ρ' w' h' c es s' g' hc hst;obtain ⟨s2,g2⟩:=back s' g';rw [zhx];show zr P G M ρ0 h0 w0 f0 base _ (panB (isNil de) (.mk fi de cs R) c (undim u h'))
    cases hde:isNil de with
    | false=>exact .bad
    | true=>exact .bad
   cases he:sop o.op o.type P G tm hdm with
   | val v h'=>
     rw [he] at hok pok;obtain ⟨ρ',w',s',g',hrun⟩:=hok;obtain ⟨ρq,wq,sq,gq,hrunq⟩:=pok;have hnd:∀ c,o.op≠.defer c:=z7e (P:=P) (G:=G) (ty:=o.type) (tm:=tm) (h:=hdm) (by rw [he];simp) (by rw [he];simp);have hph:Phantom P G (putS o.dst v tm) (undim u h') fr.tmps.size:=by
      rcases hrunq with ⟨x,_,hv⟩|⟨_,rfl⟩
      ·exact pback _ _ _ _ _ sq gq hv
      ·exact pback _ _ _ _ undef sq gq (.lit _)
     rcases hrun with ⟨x,hrun,hv⟩|⟨hrun,rfl⟩
     ·exact value s' g' hv hph (.one (z8n hr.mode hr.1 ho (by rw [hwant,hw]) (.inr hnd) (.inl hrun)))
     ·exact value s' g' (.lit undef) hph (.one (z8n hr.mode hr.1 ho (by rw [hwant,hw]) (.inr hnd) (.inr ⟨hrun,rfl⟩)))
   | enter f args=>
     rw [he] at hok pok;obtain ⟨xs,hrun,hl⟩:=hok;obtain ⟨ys,_,hly⟩:=pok;have hnd:∀ c,o.op≠.defer c:=z7e (P:=P) (G:=G) (ty:=o.type) (tm:=tm) (h:=hdm) (by rw [he];simp) (by rw [he];simp);change zr P G M ρ0 h0 w0 f0 base _ (z56 P f args .normal fun f'=>subR (R f' [] hdm) (.mk fi de cs R) u fun v h'=>K (putS o.dst v tm) h' fl);rcases z9s P f args .normal with hb|⟨f',hK',hfi,hfn,hfr⟩
     ·rw [hb];exact .bad
     ·rw [hK'];have hst:Go.step P (lone fr crs w)=.next (lone (Frame.enter P f xs .normal) (fr::crs) w):=by
       obtain ⟨tmx,lops,hs⟩:=hr.2;exact step_lone_go (by rw [z4l hs.mode hr.1 ho (by rw [hwant,hw]) (.inr hnd)];exact z9j hs.top.todo hrun)
      have hsub:=hR _ ρ hdm w f (fr::crs) f' [] _ (fr::crs) hfn sd (.last (hfr ρ xs hl) hfi);have hsubp:=hR _ ρp hdm wp f [] f' [] _ [] hfn ps (.last (hfr ρp ys hly) hfi)
      cases hres:R f' [] hdm with
      | done v h'=>
        rw [hres] at hsub hsubp;obtain ⟨ρ',w',fr',x,k1,k2,k3,k4,k5,k6⟩:=hsub;obtain ⟨ρq,wq,_,y,_,_,_,q4,q5,q6⟩:=hsubp
        exact value k5 k6 k4 (pback _ _ _ _ _ q5 q6 q4) (.head hst (k1.trans (.one (step_leave_returned k3))))
      | pan c h'=>
        rw [hres] at hsub;obtain ⟨ρ',w',fr',es,k1,k2,k3,k4,k5,k6⟩:=hsub
        exact panics k5 k6 k4 (.head hst (k1.trans (.one (step_leave_panicked k3))))
      | next _ _ _=>exact .bad
      | bad=>exact .bad
   | panic v=>
     rw [he] at hok;obtain ⟨x,hrun,hv⟩:=hok;have hnd:∀ c,o.op≠.defer c:=z7e (P:=P) (G:=G) (ty:=o.type) (tm:=tm) (h:=hdm) (by rw [he];simp) (by rw [he];simp)
     exact panics sd .refl (.cons hv .nil) (.one (zpl hr.mode hr.1 ho (by rw [hwant,hw]) (.inr hnd) hrun))
   | _=>exact .bad
theorem zuy {R:RunF} (hR:zms P G R) (hf0:∃ fn,P.funcs[f0]? =some fn) (hP:SlotP ops (masks ops.toList []) (writers ops.toList 0)) (s0:∀ k,w0.heap.size<=k->M k) (n:Nat) (hd:∀ (i:Nat) (o:Oper) (d:Tmp),ops[i]? =some o->o.dst=some d->d<n):
 ∀ (m:Nat) {l:List Nat} {pl:List PI} {tm:T SV} {h:H} {fl:Fl} {ρ:Env} {w:World} {fr:Frame},l.length+pl.length<=m->fr.tmps.size=n->DInv P G ops tm0 h0 M ρ0 w0 pl l tm h fl fr.tmps ρ w->z93 ρ f0 base fi de cs k ops kt crs l fr->
  zr P G M ρ0 h0 w0 f0 base (lone fr crs w) (zir pl ops P G (.mk fi de cs R) tm k h fl):=by
 intro m
 induction m with
 | zero=>
   intro l pl tm h fl ρ w fr hlen hz D hr;have hl:l=[]:=List.length_eq_zero_iff.1 (by omega);have hpl:pl=[]:=List.length_eq_zero_iff.1 (by omega);subst hl hpl;obtain ⟨tmx,lops,hs⟩:=hr.2;have ht:TR ρ tm fr.tmps:=fun t=>by
    have:=D.slots t;unfold zhp at this
    cases hw:z2q t (writers ops.toList 0) with
    | none=>rw [hw] at this;exact this
    | some i=>rw [hw] at this;simpa using this
   obtain ⟨it,kt',e,hi,hk⟩:=zy hs.top.todo;rw [hr.1] at e;cases e;have hs2:SR ρ f0 base (.mk fi tm k de .run) cs { fr with todo:=kt } crs:=hs.re (.refl _) (f':=.mk fi tm k de .run) ⟨zrf hs.top.fi kt,ht,hk,hs.top.defers,hs.top.mode⟩ rfl;have hst:Go.step P (lone fr crs w)=.next (lone { fr with todo:=kt } crs w):=step_lone_go (by simp [stepG,hs.mode,stepG.exec,hr.1])
   exact (z4u D.sim R hs2).after (.one hst) D.grow
 | succ m ih=>
   intro l pl tm h fl ρ w fr hlen hz D hr;have hd':∀ (i:Nat) (o:Oper) (d:Tmp),ops[i]? =some o->o.dst=some d->d<fr.tmps.size:=by rw [hz];exact hd
   have late:∀ i l',l=i::l'->i ∉ plI pl->zr P G M ρ0 h0 w0 f0 base (lone fr crs w) (zir pl ops P G (.mk fi de cs R) tm k h fl):=by intro i l' e hi;subst e;obtain ⟨ρ',w',fr',h1,h2,h3,h4⟩:=zsi hP hd' hi D s0 hr;exact zr.after (.one h1) .refl (ih (by simp at hlen;omega) (h4.trans hz) h2 h3)
   cases pl with
   | nil=>
     cases l with
     | nil=>exact ih (by simp) hz D hr
     | cons i l'=>exact late i l' rfl (by simp [plI])
   | cons p pl=>
     change zr P G M ρ0 h0 w0 f0 base _ (znn p ops P G (.mk fi de cs R) tm h fl fun tm h fl=>zir pl ops P G (.mk fi de cs R) tm k h fl)
     cases hh:p.heavy with
     | false=>
       rcases zoh hP hh hd' D (.mk fi de cs R) (fun tm h fl=>zir pl ops P G (.mk fi de cs R) tm k h fl) with e|⟨tm',h',fl',e,D'⟩
       ·rw [e];exact .bad
       ·rw [e]
        exact ih (by simp at hlen;omega) hz D' hr
     | true=>
       cases l with
       | nil=>have:=D.sub p.i (by rw [z1b];simp);cases this
       | cons i l'=>
         by_cases hi:i∈plI (p::pl)
         ·have hpi:p.i=i:=by
           rw [z1b] at hi
           cases hi with
           | head=>rfl
           | tail _ hm=>exfalso;obtain ⟨q,hq,e⟩:=List.mem_map.1 hm;have h1:=D.plan.2.2.1 hh q hq;rw [<- (D.mem q (by simp [hq])).2,e] at h1;exact D.head i l' rfl p.i h1 (D.sub p.i (by rw [z1b];simp))
          exact zo5 hR hf0 hP hd' hh hpi D hr (fun tm h fl=>zir pl ops P G (.mk fi de cs R) tm k h fl) fun D' hr' hz'=>ih (by simp at hlen;omega) (hz'.trans hz) D' hr'
         ·exact late i l' rfl hi
theorem zh6 {l:List Oper} {n:Nat}:z8d l n=true↔∀ o∈l,∀ d,o.dst=some d->d<n:=by
 induction l with
 | nil=>exact ⟨fun _ o ho=>(by cases ho),fun _=>rfl⟩
 | cons o l ih=>
   show andB (zt9 (z74 o) n) (z8d l n)=true↔_;rw [z2u,Bool.and_eq_true,ih,z5s];constructor
   ·rintro ⟨h1,h2⟩ o' ho'
    cases ho' with
    | head=>exact fun d hd=>by rw [hd] at h1;exact Nat.le_of_ble_eq_true h1
    | tail _ hm=>exact h2 o' hm
   ·intro h;refine ⟨?_,fun o' ho'=>h o' (by simp [ho'])⟩
    cases hd:o.dst with
    | none=>rfl
    | some d=>exact Nat.ble_eq_true_of_le (h o (by simp) d hd)
theorem zya {R:RunF} (hR:zms P G R):zds P G R:=by
 intro M ρ h w f0 base fi tm id ops k de cs fr crs hf0 s hs
 cases hpl:plan ops with
 | none=>exact .bad
 | some pl=>
   have pp:=ztm hpl;change zr P G M ρ h w f0 base _ (zir pl ops P G (.mk fi de cs R) tm k h []);obtain ⟨it,kt,hft,hi,hk⟩:=zy hs.top.todo
   cases hi with
   | code hc=>
     have hc:z8d ops.toList fr.tmps.size=true:=hc;rw [zh6] at hc;let t:=w.tape w.drawn (.order fr.fn id);let w1:World:={ w with drawn:=w.drawn+1 }
     have hst:Go.step P (lone fr crs w)=.next (lone { fr with todo:=.inRegion ops (Region.schedule (P.follows .mixedOrders) ops t)::kt } crs w1):=
      step_lone_go (by simp [stepG,stepG.exec,hs.mode,hft,choose,Sem.run,Question.forced,Question.cut,t,w1])
     have ord:=pp.order (P.follows .mixedOrders) t;generalize Region.schedule (P.follows .mixedOrders) ops t=l at hst ord;have s1:Sim P G M ρ h w1:=s.drew rfl;have g1:Grow M ρ h w ρ h w1:=.drew rfl rfl rfl rfl;have hlops:∃ lops:List Oper,l.map (ops[·]?)=lops.map some/\z8d lops fr.tmps.size=true:=by
      have key:∀ l:List Nat,(∀ i∈l,i<ops.size)->∃ lops:List Oper,l.map (ops[·]?)=lops.map some/\∀ o∈lops,o∈ops.toList:=by
       intro l
       induction l with
       | nil=>intro _;exact ⟨[],rfl,fun o ho=>by cases ho⟩
       | cons i l ih=>
         intro hl;obtain ⟨lo,h1,h2⟩:=ih fun j hj=>hl j (by simp [hj]);have hi:=hl i (by simp);refine ⟨ops[i]::lo,by simp [h1,hi],fun o ho=>?_⟩
         cases ho with
         | head=>simp
         | tail _ hm=>exact h2 o hm
      obtain ⟨lo,h1,h2⟩:=key l fun i hi=>(ord.all i).1 hi;exact ⟨lo,h1,zh6.2 fun o ho=>hc o (h2 o ho)⟩
     obtain ⟨lops,hlo1,hlo2⟩:=hlops;have hs1:SR ρ f0 base (.mk fi tm (.inReg ops lops::k) de .run) cs { fr with todo:=.inRegion ops l::kt } crs:=hs.to (.cons (.inReg hlo1 hlo2) hk);have ahead:∀ a i b,l=a++i::b->∀ j,Nat.testBit (mkO ops i) j=true->j∈a:=fun a i b e j hj=>zoo ord.resp i a b e ((ord.all i).1 (by rw [e];simp)) j hj;have D:DInv P G ops tm h M ρ w1 pl l tm h [] fr.tmps ρ w1:=by
      refine ⟨s1,.refl,fun t=>?_,fun _ _=>rfl,fun i hi hn=>absurd (pp.all i ((ord.all i).1 hi)) hn,⟨M,ρ,w1,fr.tmps,s1,hs.top.tmps,rfl⟩,fun e he=>(by cases he),fun e he=>(by cases he),pp.plan,fun p hp=>pp.mem p hp,fun i hi hn=>absurd (pp.all i hi) hn,fun i hi=>?_,ord.nodup,fun i hi=>(ord.all i).1 hi,fun i hi hn=>absurd ((ord.all i).2 hi) hn,fun i b e j hj=>?_,fun a i b e j hj _=>ahead a i b e j hj⟩
      ·unfold zhp
       cases z2q t (writers ops.toList 0) with
       | none=>exact hs.top.tmps t
       | some i=>simp only [ite_self];exact hs.top.tmps t
      ·obtain ⟨p,hp,e⟩:=List.mem_map.1 hi;have:=(pp.mem p hp).1;rw [e] at this;refine (ord.all i).2 ?_;rcases Nat.lt_or_ge i ops.size with h1|h1
       ·exact h1
       ·rw [Array.getElem?_eq_none h1] at this;cases this
      ·have:=ahead [] i b e j hj;cases this
     have hrun:=zuy (fr:={ fr with todo:=.inRegion ops l::kt }) (k:=k) (kt:=kt) hR hf0 pp.slots s1.fresh fr.tmps.size (fun i o d ho hd=>hc o (by have:=Array.mem_of_getElem? ho;simpa using this) d hd) (l.length+pl.length) (Nat.le_refl _) rfl D ⟨rfl,tm,lops,hs1⟩
     exact hrun.after (.one hst) g1
theorem z015 (n:Nat):zms P G (runF P G n):=zzf (fun _ h=>zya h) n
end
end Go.Play
namespace Go.Play
open Go.RowKit
theorem VRL.lits' (ρ:Env):∀ l:List Value,VRL ρ (l.map .lit) l
 | []=>.nil
 | v::l=>.cons (.lit v) (VRL.lits' ρ l)
end Go.Play
namespace Go.Play
open Go.RowKit
theorem play_done {P:Program} {G:Glob} {n:Nat} {f:FuncId} {args:List Value} {v:SV} {h':H} (hr:start P G n f (args.map .lit) (.mk .e .nil)=.done v h') (w:World)
 (hG:∀ g cs,gfind G g=some cs->∃ (c:Array Value) (el:TypeId) (fr:Nat×Nat),w.heap[g]? =some (.cells c el fr)/\∀ (i:Nat) (v:SV),cs[i]? =some v->∃ x:Value,c[i]? =some x/\VR (fun _=>none) v x):
 Calls P f args.toArray w fun e w'=>∃ (x:Value) (ρ:Env),e=.returned x/\VR ρ v x/\Sim P G (fun k=>w.heap.size<=k) ρ h' w'/\Below w.heap.size w w':=by
 have s:Sim P G (fun k=>w.heap.size<=k) (fun _=>none) (.mk .e .nil) w:=by refine ⟨fun o b hb=>(by cases hb),fun o b hb=>(by cases hb),fun o b hb=>(by cases hb),fun o o' b b' hb=>(by cases hb),fun o b hb=>(by cases hb),fun k hk=>hk,fun g cs hg=>?_⟩;obtain ⟨c,el,fr,h1,h2⟩:=hG g cs hg;have:=z4r h1;exact ⟨by omega,c,el,fr,h1,h2⟩
 intro cs;unfold start at hr;rcases z9s P f (args.map .lit) .normal with hb|⟨f',hK,hfi,hfn,hfr⟩
 ·rw [hb] at hr;cases hr
 ·rw [hK] at hr;have hA:VRL (fun _=>none) (args.map .lit) args.toArray.toList:=by simpa using VRL.lits' (fun _=>none) args
  have h1:=z015 (G:=G) n _ _ _ w f cs f' [] _ cs hfn s (.last (hfr _ args.toArray hA) hfi);generalize runF P G n f' [] (.mk .e .nil)=r at hr h1;cases hr;obtain ⟨ρ',w',fr,x,k1,k2,k3,k4,k5,k6⟩:=h1;exact ⟨.returned x,w',fr,⟨x,ρ',rfl,k4,k5,k6.os,k6.tape,k6.output,k6.size,fun k hk=>k6.same k (by omega)⟩,k1,k2,k3⟩
end Go.Play
