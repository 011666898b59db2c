import GoSem.Step
import Derived.Laws.Cells
import GoSem.Dispatch
set_option linter.unusedVariables false
set_option linter.unusedSimpArgs false
set_option warningAsError false
noncomputable section
namespace Go.Play
inductive Pa where
 | e
 | l (p:Pa)
 | r (p:Pa)
def Pa.succ (p:Pa):Pa:=Pa.rec (motive:=fun _=>Pa) (.l .e) (fun p _=>.r p) (fun _ ih=>.l ih) p
def paF (f:Nat):Nat->Pa:=
 Nat.rec (motive:=fun _=>Nat->Pa) (fun _=>.e)
  (fun _ ih n=>Nat.rec (motive:=fun _=>(Nat->Pa)->Pa) (fun _=>.e)
    (fun k _ ih=>Bool.rec (motive:=fun _=>(Nat->Pa)->Nat->Pa) (fun ih k=>.r (ih k)) (fun ih k=>.l (ih k)) (Nat.beq (Nat.mod k 2) 0) ih (Nat.div k 2)) n ih) f
def pa (n:Nat):Pa:=paF n n
def Pa.beq (p:Pa):Pa->Bool:=
 Pa.rec (motive:=fun _=>Pa->Bool) (fun q=>Pa.rec (motive:=fun _=>Bool) true (fun _ _=>false) (fun _ _=>false) q)
  (fun _ ih q=>Pa.rec (motive:=fun _=>(Pa->Bool)->Bool) (fun _=>false) (fun q _ ih=>ih q) (fun _ _ _=>false) q ih)
  (fun _ ih q=>Pa.rec (motive:=fun _=>(Pa->Bool)->Bool) (fun _=>false) (fun _ _ _=>false) (fun q _ ih=>ih q) q ih) p
inductive T (α:Type) where
 | nil
 | node (v:α) (l r:T α)
inductive SV where
 | lit (v:Value)
 | ptr (o:Pa) (off:Nat)
 | slc (o:Pa) (off len cap:Nat) (ex:Bool)
 | eslc
 | mapv (o:Pa)
 | fn (f:FuncId) (first cap:List SV)
 | yld (o:Pa)
 | ifc (t:TypeId) (v:SV)
 | agg (l:List SV)
 | tup (l:List SV)
 | any
def z2h:SV:=.lit undef
inductive SDef where
 | call (f:FuncId) (args:List SV)
 | collected (o:Pa)
inductive SO where
 | none
 | cells (vs:List SV) (elem:TypeId) (own:Bool)
 | mapo (es:List (SV×SV×Nat)) (clock:Nat) (own:Bool)
 | sit (s:ByteArray) (pos:Nat)
 | mit (m:Option Pa) (since:Nat) (seen:List Nat) (stepped:Nat)
 | loop (st:LoopState) (pend:Option Code) (fn:FuncId) (tmps:T SV) (params:Array Tmp) (assign body:Code) (defers:Pa)
 | deferred (ds:Option (List SDef))
inductive H where
 | mk (n:Pa) (objs:T SO)
inductive Eff where
 | val (v:SV) (h:H)
 | enter (f:FuncId) (args:List SV)
 | round (l:Pa) (args:List SV)
 | recover
 | defer (d:SDef)
 | panic (v:SV)
 | bad
inductive SI where
 | code (c:Code)
 | inBlock (id:Nat)
 | inLoop (body:Code)
 | inScope (body:Code)
 | inReg (ops:Array Oper) (todo:List Oper)
 | inRF (l:Pa)
 | endRF (l:Pa)
 | beginRound
inductive SMode where
 | run|ret
 | pan (chain:List (SV×Bool))
inductive FI where
 | mk (fn:FuncId) (kind:CallKind) (ro:Option Pa)
inductive SF where
 | mk (fi:FI) (tm:T SV) (todo:List SI) (de:List SDef) (mode:SMode)
inductive Res where
 | next (f:SF) (cs:List SF) (h:H)
 | done (v:SV) (h:H)
 | pan (chain:List (SV×Bool)) (h:H)
 | bad
def andB (a:Bool):Bool->Bool:=(Bool.rec (motive:=fun _=>Bool->Bool) (fun _=>false) (fun b=>b)) a
def stop (t:T SV):SV:=T.rec (motive:=fun _=>SV) z2h (fun v _ _ _ _=>v) t
def slt (t:T SV):T SV:=T.rec (motive:=fun _=>T SV) .nil (fun _ l _ _ _=>l) t
def srt (t:T SV):T SV:=T.rec (motive:=fun _=>T SV) .nil (fun _ _ r _ _=>r) t
def sget (p:Pa):T SV->SV:=Pa.rec (motive:=fun _=>T SV->SV) stop (fun _ ih t=>ih (slt t)) (fun _ ih t=>ih (srt t)) p
def sset (p:Pa):SV->T SV->(T SV->Res)->Res:=
 Pa.rec (motive:=fun _=>SV->T SV->(T SV->Res)->Res)
  (fun x t K=>T.rec (motive:=fun _=>SV->(T SV->Res)->Res) (fun x K=>K (.node x .nil .nil)) (fun _ l r _ _ x K=>K (.node x l r)) t x K)
  (fun _ ih x t K=>T.rec (motive:=fun _=>(SV->T SV->(T SV->Res)->Res)->SV->(T SV->Res)->Res) (fun ih x K=>ih x .nil (fun l'=>K (.node z2h l' .nil))) (fun v l r _ _ ih x K=>ih x l (fun l'=>K (.node v l' r))) t ih x K)
  (fun _ ih x t K=>T.rec (motive:=fun _=>(SV->T SV->(T SV->Res)->Res)->SV->(T SV->Res)->Res) (fun ih x K=>ih x .nil (fun r'=>K (.node z2h .nil r'))) (fun v l r _ _ ih x K=>ih x r (fun r'=>K (.node v l r'))) t ih x K) p
def otop (t:T SO):SO:=T.rec (motive:=fun _=>SO) .none (fun v _ _ _ _=>v) t
def olt (t:T SO):T SO:=T.rec (motive:=fun _=>T SO) .nil (fun _ l _ _ _=>l) t
def ort (t:T SO):T SO:=T.rec (motive:=fun _=>T SO) .nil (fun _ _ r _ _=>r) t
def oget (p:Pa):T SO->SO:=Pa.rec (motive:=fun _=>T SO->SO) otop (fun _ ih t=>ih (olt t)) (fun _ ih t=>ih (ort t)) p
def oset {R:Type} (p:Pa):SO->T SO->(T SO->R)->R:=
 Pa.rec (motive:=fun _=>SO->T SO->(T SO->R)->R)
  (fun x t K=>T.rec (motive:=fun _=>SO->(T SO->R)->R) (fun x K=>K (.node x .nil .nil)) (fun _ l r _ _ x K=>K (.node x l r)) t x K)
  (fun _ ih x t K=>T.rec (motive:=fun _=>(SO->T SO->(T SO->R)->R)->SO->(T SO->R)->R) (fun ih x K=>ih x .nil (fun l'=>K (.node .none l' .nil))) (fun v l r _ _ ih x K=>ih x l (fun l'=>K (.node v l' r))) t ih x K)
  (fun _ ih x t K=>T.rec (motive:=fun _=>(SO->T SO->(T SO->R)->R)->SO->(T SO->R)->R) (fun ih x K=>ih x .nil (fun r'=>K (.node .none .nil r'))) (fun v l r _ _ ih x K=>ih x r (fun r'=>K (.node v l r'))) t ih x K) p
def newE (h:H):SO->(Pa->H->Eff)->Eff:=(H.rec (motive:=fun _=>SO->(Pa->H->Eff)->Eff) (fun n ob=>fun o K=>oset n o ob (fun ob'=>K n (.mk (Pa.succ n) ob')))) h
def putE (h:H):Pa->SO->(H->Eff)->Eff:=(H.rec (motive:=fun _=>Pa->SO->(H->Eff)->Eff) (fun n ob=>fun i o K=>oset i o ob (fun ob'=>K (.mk n ob')))) h
def newR (h:H):SO->(Pa->H->Res)->Res:=(H.rec (motive:=fun _=>SO->(Pa->H->Res)->Res) (fun n ob=>fun o K=>oset n o ob (fun ob'=>K n (.mk (Pa.succ n) ob')))) h
def putR (h:H):Pa->SO->(H->Res)->Res:=(H.rec (motive:=fun _=>Pa->SO->(H->Res)->Res) (fun n ob=>fun i o K=>oset i o ob (fun ob'=>K (.mk n ob')))) h
def hget (h:H):Pa->SO:=(H.rec (motive:=fun _=>Pa->SO) (fun _ ob=>fun i=>oget i ob)) h
inductive StillR (α:Type) where
 | ok (a:α)
 | panic (v:Value)
 | no
def still {α:Type} (P:Program):Sem α->StillR α
 | .pure a=>.ok a
 | .mark _ k=>still P k
 | .program k=>still P (k P)
 | .halt (.panic v)=>.panic v
 | _=>.no
def z01a (r:StillR Value):H->Eff:=(StillR.rec (motive:=fun _=>H->Eff) (fun v=>fun h=>.val (.lit v) h) (fun v=>fun _=>.panic (.lit v)) (fun _=>.bad)) r
def z2y (P:Program) (h:H) (s:Sem Value):Eff:=z01a (still P s) h
def ev (x:Operand):T SV->SV:=(Operand.rec (motive:=fun _=>T SV->SV) (fun i=>sget (pa i)) (fun v=>fun _=>.lit v) (fun g=>fun _=>.lit (.pointer (some ⟨g,0,none⟩))) (fun f=>fun _=>.fn f [] [])) x
def evL (l:List Operand):T SV->List SV:=(List.rec (motive:=fun _=>T SV->List SV) (fun _=>[]) (fun x _ ih=>fun t=>ev x t::ih t)) l
def lenS (l:List SV):Nat:=(List.rec (motive:=fun _=>Nat) (0) (fun _ _ n=>Nat.succ n)) l
def ze7 (o:Option (List SV)):SV->Option (List SV):=(Option.rec (motive:=fun _=>SV->Option (List SV)) (fun _=>none) (fun r=>fun x=>some (x::r))) o
def zap (n:Nat):List SV->Option (List SV):=
 (Nat.rec (motive:=fun _=>List SV->Option (List SV)) (fun _=>some []) (fun _ ih=>fun l=>(List.rec (motive:=fun _=>(List SV->Option (List SV))->Option (List SV)) (fun _=>none) (fun x l _=>fun ih=>ze7 (ih l) x)) l ih)) n
def zec (n:Nat):List SV->List SV:=
 (Nat.rec (motive:=fun _=>List SV->List SV) (fun l=>l) (fun _ ih=>fun l=>(List.rec (motive:=fun _=>(List SV->List SV)->List SV) (fun _=>[]) (fun x l _=>fun ih=>ih l)) l ih)) n
def z01n (l:List SV):Option SV:=(List.rec (motive:=fun _=>Option SV) (none) (fun x _ _=>some x)) l
def zti (xs:List SV):List SV->Option (List SV):=
 (List.rec (motive:=fun _=>List SV->Option (List SV)) (fun l=>some l) (fun x _ ih=>fun l=>(List.rec (motive:=fun _=>SV->(List SV->Option (List SV))->Option (List SV)) (fun _ _=>none) (fun _ l _=>fun x ih=>ze7 (ih l) x)) l x ih)) xs
def z5k (off:Nat):List SV->List SV->Option (List SV):=
 (Nat.rec (motive:=fun _=>List SV->List SV->Option (List SV)) (zti) (fun _ ih=>fun xs l=>(List.rec (motive:=fun _=>(List SV->List SV->Option (List SV))->List SV->Option (List SV)) (fun _ _=>none) (fun x l _=>fun ih xs=>ze7 (ih xs l) x)) l ih xs)) off
def appS (l:List SV):List SV->List SV:=(List.rec (motive:=fun _=>List SV->List SV) (fun m=>m) (fun x _ ih=>fun m=>x::ih m)) l
def repS (n:Nat):List SV->List SV:=(Nat.rec (motive:=fun _=>List SV->List SV) (fun _=>[]) (fun _ ih=>fun l=>appS l (ih l))) n
def nthI (n:Nat):List TypeInfo->Option TypeInfo:=
 (Nat.rec (motive:=fun _=>List TypeInfo->Option TypeInfo) (fun l=>(List.rec (motive:=fun _=>Option TypeInfo) (none) (fun x _ _=>some x)) l) (fun _ ih=>fun l=>(List.rec (motive:=fun _=>(List TypeInfo->Option TypeInfo)->Option TypeInfo) (fun _=>none) (fun _ l _=>fun ih=>ih l)) l ih)) n
def nthF (n:Nat):List Func->Option Func:=
 (Nat.rec (motive:=fun _=>List Func->Option Func) (fun l=>(List.rec (motive:=fun _=>Option Func) (none) (fun x _ _=>some x)) l) (fun _ ih=>fun l=>(List.rec (motive:=fun _=>(List Func->Option Func)->Option Func) (fun _=>none) (fun _ l _=>fun ih=>ih l)) l ih)) n
def nthD (n:Nat):List Field->Option Field:=
 (Nat.rec (motive:=fun _=>List Field->Option Field) (fun l=>(List.rec (motive:=fun _=>Option Field) (none) (fun x _ _=>some x)) l) (fun _ ih=>fun l=>(List.rec (motive:=fun _=>(List Field->Option Field)->Option Field) (fun _=>none) (fun _ l _=>fun ih=>ih l)) l ih)) n
def nthO (n:Nat):List Oper->Option Oper:=
 (Nat.rec (motive:=fun _=>List Oper->Option Oper) (fun l=>(List.rec (motive:=fun _=>Option Oper) (none) (fun x _ _=>some x)) l) (fun _ ih=>fun l=>(List.rec (motive:=fun _=>(List Oper->Option Oper)->Option Oper) (fun _=>none) (fun _ l _=>fun ih=>ih l)) l ih)) n
def z5d (P:Program) (t:TypeId):Option TypeInfo:=nthI t P.types.toList
def z95 (P:Program) (f:FuncId):Option Func:=nthF f P.funcs.toList
def zy7 (i:Option TypeInfo):Option TypeDesc:=(Option.rec (motive:=fun _=>Option TypeDesc) (none) (fun i=>some i.desc)) i
def undD (d:TypeDesc):TypeDesc->Program->Option TypeDesc:=((fun ζ=>TypeDesc.rec (motive:=fun _=>TypeDesc->Program->Option TypeDesc) (ζ) (ζ) (fun _=>ζ) (fun _=>ζ) (fun _=>ζ) (ζ) (ζ) (fun _=>ζ) (fun _=>ζ) (fun _ _=>ζ) (fun _ _=>ζ) (fun _ _=>ζ) (fun _=>ζ) (fun _ _ _=>ζ) (fun _=>ζ) (fun _=>ζ) (fun _ u=>fun _ P=>zy7 (z5d P u))) (fun d _=>some d)) d
def undI (d:Option TypeDesc):Program->Option TypeDesc:=(Option.rec (motive:=fun _=>Program->Option TypeDesc) (fun _=>none) (fun d=>fun P=>undD d d P)) d
def undO (P:Program) (t:TypeId):Option TypeDesc:=undI (zy7 (z5d P t)) P
def aggD (d:TypeDesc):Bool:=(TypeDesc.rec (motive:=fun _=>Bool) (false) (false) (fun _=>false) (fun _=>false) (fun _=>false) (false) (false) (fun _=>false) (fun _=>false) (fun _ _=>true) (fun _ _=>false) (fun _ _=>false) (fun _=>true) (fun _ _ _=>false) (fun _=>false) (fun _=>false) (fun _ _=>false)) d
def aggT (P:Program) (t:TypeId):Option Bool:=(Option.rec (motive:=fun _=>Option Bool) (none) (fun d=>some (aggD d))) (undO P t)
def z02e (i:Option TypeInfo):Option Value:=(Option.rec (motive:=fun _=>Option Value) (none) (fun i=>i.zero)) i
def z54 (P:Program) (t:TypeId):Option Value:=z02e (z5d P t)
def z02c (i:Option TypeInfo):Option Nat:=(Option.rec (motive:=fun _=>Option Nat) (none) (fun i=>some i.size)) i
def zu (P:Program) (t:TypeId):Option Nat:=z02c (z5d P t)
def zt (v:Value):List SV:=match v with|.agg cs=>cs.toList.map .lit|v=>[.lit v]
def z001 (v:SV):SV->List SV:=((fun ζ=>SV.rec (motive_1:=fun _=>SV->List SV) (motive_2:=fun _=>Unit) (fun v=>fun _=>zt v) (fun _ _=>ζ) (fun _ _ _ _ _=>ζ) (ζ) (fun _=>ζ) (fun _ _ _ _ _=>ζ) (fun _=>ζ) (fun _ _ _=>ζ) (fun l _=>fun _=>l) (fun _ _=>ζ) (ζ) () (fun _ _ _ _=>())) (fun v=>[v])) v
def cellsOf (v:SV):List SV:=z001 v v
def single1 (l:List SV):SV->Option SV:=(List.rec (motive:=fun _=>SV->Option SV) (fun v=>some v) (fun _ _ _=>fun _=>none)) l
def single (l:List SV):Option SV:=(List.rec (motive:=fun _=>Option SV) (none) (fun v l _=>single1 l v)) l
def z00m (b:Bool):List SV->Option SV:=(Bool.rec (motive:=fun _=>List SV->Option SV) (single) (fun l=>some (.agg l))) b
def zor (b:Option Bool):List SV->Option SV:=(Option.rec (motive:=fun _=>List SV->Option SV) (fun _=>none) (fun b=>z00m b)) b
def aggS (o:Option (List SV)):Option SV:=(Option.rec (motive:=fun _=>Option SV) (none) (fun l=>some (.agg l))) o
def z027 (n:Option Nat):List SV->Option SV:=(Option.rec (motive:=fun _=>List SV->Option SV) (fun _=>none) (fun n=>fun l=>aggS (zap n l))) n
def z026 (b:Bool):Option Nat->List SV->Option SV:=(Bool.rec (motive:=fun _=>Option Nat->List SV->Option SV) (fun _ l=>z01n l) (z027)) b
def z028 (b:Option Bool):Option Nat->List SV->Option SV:=(Option.rec (motive:=fun _=>Option Nat->List SV->Option SV) (fun _ _=>none) (fun b=>z026 b)) b
def part (P:Program) (t:TypeId) (cs:List SV) (off:Nat):Option SV:=z028 (aggT P t) (zu P t) (zec off cs)
abbrev Glob:=List (Nat×List SV)
def gfind2 (b:Bool):List SV->Option (List SV)->Option (List SV):=(Bool.rec (motive:=fun _=>List SV->Option (List SV)->Option (List SV)) (fun _ r=>r) (fun l _=>some l)) b
def gfind (G:Glob):Nat->Option (List SV):=(List.rec (motive:=fun _=>Nat->Option (List SV)) (fun _=>none) (fun p _ ih=>fun g=>gfind2 (Nat.beq p.1 g) p.2 (ih g))) G
def z5b (o:SO):Nat->Nat->Option (List SV):=((fun ζ=>SO.rec (motive:=fun _=>Nat->Nat->Option (List SV)) (ζ) (fun vs _ _=>fun off n=>zap n (zec off vs)) (fun _ _ _=>ζ) (fun _ _=>ζ) (fun _ _ _ _=>ζ) (fun _ _ _ _ _ _ _ _=>ζ) (fun _=>ζ)) (fun _ _=>none)) o
def zxf (o:Option (List SV)):Nat->Nat->Option (List SV):=(Option.rec (motive:=fun _=>Nat->Nat->Option (List SV)) (fun _ _=>none) (fun vs=>fun off n=>zap n (zec off vs))) o
def z022 (a:Option Addr):Glob->Nat->Option (List SV):=match a with|some ⟨g,off,none⟩=>fun G n=>zxf (gfind G g) off n|_=>fun _ _=>none
def z023 (v:Value):Glob->Nat->Option (List SV):=((fun ζ=>Value.rec (motive_1:=fun _=>Glob->Nat->Option (List SV)) (motive_2:=fun _=>Unit) (motive_3:=fun _=>Unit) (fun _=>ζ) (fun _ _=>ζ) (fun _ _=>ζ) (fun _ _ _=>ζ) (fun _=>ζ) (fun a=>z022 a) (fun _ _ _=>ζ) (fun _=>ζ) (fun _=>ζ) (fun _ _ _ _ _=>ζ) (ζ) (fun _ _ _=>ζ) (ζ) (fun _ _=>ζ) (fun _ _=>ζ) (fun _ _=>()) () (fun _ _ _ _=>())) (fun _ _=>none)) v
def zoi (a:SV):Glob->H->Nat->Option (List SV):=((fun ζ=>SV.rec (motive_1:=fun _=>Glob->H->Nat->Option (List SV)) (motive_2:=fun _=>Unit) (fun v=>fun G _ n=>z023 v G n) (fun o off=>fun _ h n=>z5b (hget h o) off n) (fun _ _ _ _ _=>ζ) (ζ) (fun _=>ζ) (fun _ _ _ _ _=>ζ) (fun _=>ζ) (fun _ _ _=>ζ) (fun _ _=>ζ) (fun _ _=>ζ) (ζ) () (fun _ _ _ _=>())) (fun _ _ _=>none)) a
def zoj (n:Option Nat):SV->Glob->H->Option (List SV):=(Option.rec (motive:=fun _=>SV->Glob->H->Option (List SV)) (fun _ _ _=>none) (fun n=>fun a G h=>zoi a G h n)) n
def oneW (v:Value):Bool:=(Value.rec (motive_1:=fun _=>Bool) (motive_2:=fun _=>Unit) (motive_3:=fun _=>Unit) (fun _=>true) (fun _ _=>true) (fun _ _=>true) (fun _ _ _=>true) (fun _=>true) (fun _=>true) (fun _ _ _=>true) (fun _=>true) (fun _=>true) (fun _ _ _ _ _=>true) (true) (fun _ _ _=>true) (true) (fun _ _=>false) (fun _ _=>false) (fun _ _=>()) () (fun _ _ _ _=>())) v
def oneV (v:SV):Bool:=(SV.rec (motive_1:=fun _=>Bool) (motive_2:=fun _=>Unit) (fun v=>oneW v) (fun _ _=>true) (fun _ _ _ _ _=>true) (true) (fun _=>true) (fun _ _ _ _ _=>true) (fun _=>true) (fun _ _ _=>true) (fun _ _=>false) (fun _ _=>false) (true) () (fun _ _ _ _=>())) v
def oneL (l:List SV):Bool:=(List.rec (motive:=fun _=>Bool) (true) (fun x _ ih=>andB (oneV x) ih)) l
def store3 (l:Option (List SV)):H->Pa->TypeId->(H->Eff)->Eff:=(Option.rec (motive:=fun _=>H->Pa->TypeId->(H->Eff)->Eff) (fun _ _ _ _=>.bad) (fun vs=>fun h o e K=>putE h o (.cells vs e true) K)) l
def store2 (own:Bool):List SV->TypeId->H->Pa->Nat->List SV->(H->Eff)->Eff:=(Bool.rec (motive:=fun _=>List SV->TypeId->H->Pa->Nat->List SV->(H->Eff)->Eff) (fun _ _ _ _ _ _ _=>.bad) (fun vs e h o off xs K=>store3 (z5k off xs vs) h o e K)) own
def store1 (ob:SO):H->Pa->Nat->List SV->(H->Eff)->Eff:=((fun ζ=>SO.rec (motive:=fun _=>H->Pa->Nat->List SV->(H->Eff)->Eff) (ζ) (fun vs e own=>fun h o off xs K=>store2 (andB own (oneL xs)) vs e h o off xs K) (fun _ _ _=>ζ) (fun _ _=>ζ) (fun _ _ _ _=>ζ) (fun _ _ _ _ _ _ _ _=>ζ) (fun _=>ζ)) (fun _ _ _ _ _=>.bad)) ob
def zht (h:H) (o:Pa) (off:Nat) (xs:List SV) (K:H->Eff):Eff:=store1 (hget h o) h o off xs K
def z7u (s:ByteArray):List SV:=s.data.toList.map fun b=>.lit (.int .u8 (.ofNat b.toNat))
def zso (v:Value):Option (List SV):=match v with|.slice none 0 _=>some []|.string s=>some (z7u s)|_=>none
def zho (x:SV):H->Nat->Option (List SV):=((fun ζ=>SV.rec (motive_1:=fun _=>H->Nat->Option (List SV)) (motive_2:=fun _=>Unit) (fun v=>fun _ _=>zso v) (fun _ _=>ζ) (fun o off len _ _=>fun h sz=>z5b (hget h o) off (Nat.mul len sz)) (fun _ _=>some []) (fun _=>ζ) (fun _ _ _ _ _=>ζ) (fun _=>ζ) (fun _ _ _=>ζ) (fun _ _=>ζ) (fun _ _=>ζ) (ζ) () (fun _ _ _ _=>())) (fun _ _=>none)) x
def z00j (v:Value):Option Nat:=match v with|.slice none n _=>some n|.string s=>some s.size|_=>none
def lenV (x:SV):Option Nat:=(SV.rec (motive_1:=fun _=>Option Nat) (motive_2:=fun _=>Unit) (fun v=>z00j v) (fun _ _=>none) (fun _ _ n _ _=>some n) (some 0) (fun _=>none) (fun _ _ _ _ _=>none) (fun _=>none) (fun _ _ _=>none) (fun _ _=>none) (fun _ _=>none) (none) () (fun _ _ _ _=>())) x
def asNI (z:Int):Option Nat:=(Int.rec (motive:=fun _=>Option Nat) (fun n=>some n) (fun _=>none)) z
def asNV (v:Value):Option Nat:=(Value.rec (motive_1:=fun _=>Option Nat) (motive_2:=fun _=>Unit) (motive_3:=fun _=>Unit) (fun _=>none) (fun _ z=>asNI z) (fun _ _=>none) (fun _ _ _=>none) (fun _=>none) (fun _=>none) (fun _ _ _=>none) (fun _=>none) (fun _=>none) (fun _ _ _ _ _=>none) (none) (fun _ _ _=>none) (none) (fun _ _=>none) (fun _ _=>none) (fun _ _=>()) () (fun _ _ _ _=>())) v
def asN (x:SV):Option Nat:=(SV.rec (motive_1:=fun _=>Option Nat) (motive_2:=fun _=>Unit) (fun v=>asNV v) (fun _ _=>none) (fun _ _ _ _ _=>none) (none) (fun _=>none) (fun _ _ _ _ _=>none) (fun _=>none) (fun _ _ _=>none) (fun _ _=>none) (fun _ _=>none) (none) () (fun _ _ _ _=>())) x
def valO (v:Option SV):H->Eff:=(Option.rec (motive:=fun _=>H->Eff) (fun _=>.bad) (fun v=>fun h=>.val v h)) v
def ifB (b:Bool):Eff->Eff:=(Bool.rec (motive:=fun _=>Eff->Eff) (fun _=>.bad) (fun e=>e)) b
def kIdx (k:IntKind):Nat:=(IntKind.rec (motive:=fun _=>Nat) (0) (1) (2) (3) (4) (5) (6) (7)) k
def z01c (s:Bool):Nat->Nat->Bool:=(Bool.rec (motive:=fun _=>Nat->Nat->Bool) (fun _ _=>false) (fun n m=>Nat.ble n m)) s
def upTo (z:Int):Nat->Bool->Bool:=(Int.rec (motive:=fun _=>Nat->Bool->Bool) (fun n=>fun m _=>Nat.ble n m) (fun n=>fun m s=>z01c s n m)) z
def fits (k:IntKind):Int->Bool:=(IntKind.rec (motive:=fun _=>Int->Bool) (fun z=>upTo z 127 true) (fun z=>upTo z 32767 true) (fun z=>upTo z 2147483647 true) (fun z=>upTo z 9223372036854775807 true) (fun z=>upTo z 255 false) (fun z=>upTo z 65535 false) (fun z=>upTo z 4294967295 false) (fun z=>upTo z 18446744073709551615 false)) k
def zl9 (k:IntKind) (z:Int):Int:=(Bool.rec (motive:=fun _=>IntKind->Int->Int) (fun k z=>IntKind.wrap k z) (fun _ z=>z)) (fits k z) k z
def iEqP (b:Int):Nat->Bool:=(Int.rec (motive:=fun _=>Nat->Bool) (fun n=>fun m=>Nat.beq m n) (fun _=>fun _=>false)) b
def iEqN (b:Int):Nat->Bool:=(Int.rec (motive:=fun _=>Nat->Bool) (fun _=>fun _=>false) (fun n=>fun m=>Nat.beq m n)) b
def iEq (a:Int):Int->Bool:=(Int.rec (motive:=fun _=>Int->Bool) (fun m=>fun b=>iEqP b m) (fun m=>fun b=>iEqN b m)) a
def iLeP (b:Int):Nat->Bool:=(Int.rec (motive:=fun _=>Nat->Bool) (fun n=>fun m=>Nat.ble m n) (fun _=>fun _=>false)) b
def iLeN (b:Int):Nat->Bool:=(Int.rec (motive:=fun _=>Nat->Bool) (fun _=>fun _=>true) (fun n=>fun m=>Nat.ble n m)) b
def iLe (a:Int):Int->Bool:=(Int.rec (motive:=fun _=>Int->Bool) (fun m=>fun b=>iLeP b m) (fun m=>fun b=>iLeN b m)) a
def notB (b:Bool):Bool:=(Bool.rec (motive:=fun _=>Bool) (true) (false)) b
def zxg (op:BinOp):IntKind->Int->Int->Option Value:=((fun ζ=>BinOp.rec (motive:=fun _=>IntKind->Int->Int->Option Value) (fun k a b=>some (.int k (zl9 k (Int.add a b)))) (fun k a b=>some (.int k (zl9 k (Int.sub a b)))) (fun k a b=>some (.int k (zl9 k (Int.mul a b)))) (ζ) (ζ) (ζ) (ζ) (ζ) (ζ) (ζ) (ζ) (fun _ a b=>some (.bool (iEq a b))) (fun _ a b=>some (.bool (notB (iEq a b)))) (fun _ a b=>some (.bool (notB (iLe b a)))) (fun _ a b=>some (.bool (iLe a b))) (fun _ a b=>some (.bool (notB (iLe a b)))) (fun _ a b=>some (.bool (iLe b a)))) (fun _ _ _=>none)) op
def z9m (a:List UInt8):List UInt8->Bool:=
 (List.rec (motive:=fun _=>List UInt8->Bool) (fun b=>(List.rec (motive:=fun _=>Bool) (true) (fun _ _ _=>false)) b) (fun x _ ih=>fun b=>(List.rec (motive:=fun _=>UInt8->(List UInt8->Bool)->Bool) (fun _ _=>false) (fun y b _=>fun x ih=>(Bool.rec (motive:=fun _=>(List UInt8->Bool)->List UInt8->Bool) (fun _ _=>false) (fun ih b=>ih b)) (Nat.beq (UInt8.toNat x) (UInt8.toNat y)) ih b)) b x ih)) a
def zxu (op:BinOp):ByteArray->ByteArray->Option Value:=((fun ζ=>BinOp.rec (motive:=fun _=>ByteArray->ByteArray->Option Value) (ζ) (ζ) (ζ) (ζ) (ζ) (ζ) (ζ) (ζ) (ζ) (ζ) (ζ) (fun s t=>some (.bool (z9m s.data.toList t.data.toList))) (fun s t=>some (.bool (notB (z9m s.data.toList t.data.toList)))) (ζ) (ζ) (ζ) (ζ)) (fun _ _=>none)) op
def zsf (same:Bool):BinOp->IntKind->Int->Int->Option Value:=(Bool.rec (motive:=fun _=>BinOp->IntKind->Int->Int->Option Value) (fun _ _ _ _=>none) (zxg)) same
def z01l (b:Value):BinOp->IntKind->Int->Option Value:=((fun ζ=>Value.rec (motive_1:=fun _=>BinOp->IntKind->Int->Option Value) (motive_2:=fun _=>Unit) (motive_3:=fun _=>Unit) (fun _=>ζ) (fun k' n=>fun op k m=>zsf (Nat.beq (kIdx k) (kIdx k')) op k m n) (fun _ _=>ζ) (fun _ _ _=>ζ) (fun _=>ζ) (fun _=>ζ) (fun _ _ _=>ζ) (fun _=>ζ) (fun _=>ζ) (fun _ _ _ _ _=>ζ) (ζ) (fun _ _ _=>ζ) (ζ) (fun _ _=>ζ) (fun _ _=>ζ) (fun _ _=>()) () (fun _ _ _ _=>())) (fun _ _ _=>none)) b
def z01m (b:Value):BinOp->ByteArray->Option Value:=((fun ζ=>Value.rec (motive_1:=fun _=>BinOp->ByteArray->Option Value) (motive_2:=fun _=>Unit) (motive_3:=fun _=>Unit) (fun _=>ζ) (fun _ _=>ζ) (fun _ _=>ζ) (fun _ _ _=>ζ) (fun t=>fun op s=>zxu op s t) (fun _=>ζ) (fun _ _ _=>ζ) (fun _=>ζ) (fun _=>ζ) (fun _ _ _ _ _=>ζ) (ζ) (fun _ _ _=>ζ) (ζ) (fun _ _=>ζ) (fun _ _=>ζ) (fun _ _=>()) () (fun _ _ _ _=>())) (fun _ _=>none)) b
def zco (a:Value):BinOp->Value->Option Value:=((fun ζ=>Value.rec (motive_1:=fun _=>BinOp->Value->Option Value) (motive_2:=fun _=>Unit) (motive_3:=fun _=>Unit) (fun _=>ζ) (fun k m=>fun op b=>z01l b op k m) (fun _ _=>ζ) (fun _ _ _=>ζ) (fun s=>fun op b=>z01m b op s) (fun _=>ζ) (fun _ _ _=>ζ) (fun _=>ζ) (fun _=>ζ) (fun _ _ _ _ _=>ζ) (ζ) (fun _ _ _=>ζ) (ζ) (fun _ _=>ζ) (fun _ _=>ζ) (fun _ _=>()) () (fun _ _ _ _=>())) (fun _ _=>none)) a
def ownO (o:SO):Bool:=(SO.rec (motive:=fun _=>Bool) (false) (fun _ _ b=>b) (fun _ _ _=>false) (fun _ _=>false) (fun _ _ _ _=>false) (fun _ _ _ _ _ _ _ _=>false) (fun _=>false)) o
def z02a (h:H) (o:Pa) (i:Nat) (o':Pa) (j:Nat):Option Bool:=match Pa.beq o o' with
 | true=>some (Nat.beq i j)
 | false=>match ownO (hget h o),ownO (hget h o') with
   | true,true=>some false
   | _,_=>none
def z02f (d:Option TypeDesc):H->SV->SV->Option Bool:=match d with
 | some (.pointer _)=>fun h a b=>match a,b with
   | .lit (.pointer none),.ptr _ _=>some false
   | .ptr _ _,.lit (.pointer none)=>some false
   | .ptr o i,.ptr o' j=>z02a h o i o' j
   | _,_=>none
 | some (.interface _)=>fun _ a b=>match a,b with
   | .lit .nilIface,.ifc _ _=>some false
   | .ifc _ _,.lit .nilIface=>some false
   | _,_=>none
 | some (.slice _)=>fun _ a b=>match a,b with
   | .slc _ _ _ _ _,.lit (.slice none _ _)=>some false
   | .lit (.slice none _ _),.slc _ _ _ _ _=>some false
   | .eslc,.lit (.slice none _ _)=>some false
   | .lit (.slice none _ _),.eslc=>some false
   | _,_=>none
 | some (.map _ _)=>fun _ a b=>match a,b with
   | .mapv _,.lit (.map none)=>some false
   | .lit (.map none),.mapv _=>some false
   | _,_=>none
 | some (.func _ _ _)=>fun _ a b=>match a,b with
   | .fn _ _ _,.lit .nilFunc=>some false
   | .lit .nilFunc,.fn _ _ _=>some false
   | .yld _,.lit .nilFunc=>some false
   | .lit .nilFunc,.yld _=>some false
   | _,_=>none
 | _=>fun _ _ _=>none
def fill3 (o:Option (List SV)):(List SV->Option (List SV))->Option (List SV):=(Option.rec (motive:=fun _=>(List SV->Option (List SV))->Option (List SV)) (fun _=>none) (fun c=>fun ih=>ih c)) o
def fill2 (b:Bool):Nat->List SV->List SV->(List SV->Option (List SV))->Option (List SV):=(Bool.rec (motive:=fun _=>Nat->List SV->List SV->(List SV->Option (List SV))->Option (List SV)) (fun _ _ _ _=>none) (fun off xs cells ih=>fill3 (z5k off xs cells) ih)) b
def fill1 (p:Option (Nat×Nat)):List SV->List SV->(List SV->Option (List SV))->Option (List SV):=(Option.rec (motive:=fun _=>List SV->List SV->(List SV->Option (List SV))->Option (List SV)) (fun _ _ _=>none) (fun p=>fun v cells ih=>fill2 (Nat.beq (lenS v) p.2) p.1 v cells ih)) p
def fill (l:List (Nat×Operand)):T SV->(Nat->Option (Nat×Nat))->List SV->Option (List SV):=
 (List.rec (motive:=fun _=>T SV->(Nat->Option (Nat×Nat))->List SV->Option (List SV)) (fun _ _ cells=>some cells) (fun p _ ih=>fun t place cells=>fill1 (place p.1) (cellsOf (ev p.2 t)) cells (ih t place))) l
def app8 (b:Bool):H->Pa->Nat->List SV->TypeId->Eff:=(Bool.rec (motive:=fun _=>H->Pa->Nat->List SV->TypeId->Eff) (fun _ _ _ _ _=>.bad) (fun h o n cs elem=>putE h o .none fun h=>newE h (.cells cs elem true) fun i h=>.val (.slc i 0 n n false) h)) b
def app7 (own:Bool):TypeId->H->Pa->Nat->Nat->List SV->List SV->Nat->Nat->TypeId->Eff:=(Bool.rec (motive:=fun _=>TypeId->H->Pa->Nat->Nat->List SV->List SV->Nat->Nat->TypeId->Eff) (fun _ _ _ _ _ _ _ _ _ _=>.bad) (fun e h o off len old xs n size elem=>app8 (andB (Nat.beq e elem) (andB (Nat.beq (Nat.mod off size) 0) (oneL xs))) h o (Nat.add len n) (appS old xs) elem)) own
def app6 (ob:SO):H->Pa->Nat->Nat->List SV->List SV->Nat->Nat->TypeId->Eff:=((fun ζ=>SO.rec (motive:=fun _=>H->Pa->Nat->Nat->List SV->List SV->Nat->Nat->TypeId->Eff) (ζ) (fun _ e own=>app7 own e) (fun _ _ _=>ζ) (fun _ _=>ζ) (fun _ _ _ _=>ζ) (fun _ _ _ _ _ _ _ _=>ζ) (fun _=>ζ)) (fun _ _ _ _ _ _ _ _ _=>.bad)) ob
def app5 (ex:Bool):H->Pa->Nat->Nat->List SV->List SV->Nat->Nat->TypeId->Eff:=(Bool.rec (motive:=fun _=>H->Pa->Nat->Nat->List SV->List SV->Nat->Nat->TypeId->Eff) (fun h o off len old xs n size elem=>app6 (hget h o) h o off len old xs n size elem) (fun h _ _ len old xs n _ elem=>newE h (.cells (appS old xs) elem true) fun i h=>.val (.slc i 0 (Nat.add len n) (Nat.add len n) false) h)) ex
def app4 (old:Option (List SV)):Bool->H->Pa->Nat->Nat->List SV->Nat->Nat->TypeId->Eff:=(Option.rec (motive:=fun _=>Bool->H->Pa->Nat->Nat->List SV->Nat->Nat->TypeId->Eff) (fun _ _ _ _ _ _ _ _ _=>.bad) (fun old=>fun ex h o off len xs n size elem=>ifB (Nat.ble (Nat.add len n) 16777216) (app5 ex h o off len old xs n size elem))) old
def app3 (fit:Bool):H->Pa->Nat->Nat->Nat->Bool->List SV->Nat->Nat->TypeId->Eff:=(Bool.rec (motive:=fun _=>H->Pa->Nat->Nat->Nat->Bool->List SV->Nat->Nat->TypeId->Eff) (fun h o off len cap ex xs n size elem=>app4 (z5b (hget h o) off (Nat.mul len size)) ex h o off len xs n size elem) (fun h o off len cap ex xs n size elem=>zht h o (Nat.add off (Nat.mul len size)) xs fun h=>.val (.slc o off (Nat.add len n) cap ex) h)) fit
def app2n (n:Nat):H->Nat->List SV->TypeId->Eff:=(Nat.rec (motive:=fun _=>H->Nat->List SV->TypeId->Eff) (fun h _ _ _=>.val (.lit (.slice none 0 0)) h) (fun _ _=>fun h n xs elem=>ifB (Nat.ble n 16777216) (newE h (.cells xs elem true) fun i h=>.val (.slc i 0 n n false) h))) n
def app2v (v:Value):H->List SV->Nat->TypeId->Eff:=match v with|.slice none 0 0=>fun h xs n elem=>app2n n h n xs elem|_=>fun _ _ _ _=>.bad
def app2 (s:SV):H->List SV->Nat->Nat->TypeId->Eff:=((fun ζ=>SV.rec (motive_1:=fun _=>H->List SV->Nat->Nat->TypeId->Eff) (motive_2:=fun _=>Unit) (fun v=>fun h xs n _ elem=>app2v v h xs n elem) (fun _ _=>ζ) (fun o off len cap ex=>fun h xs n size elem=>app3 (Nat.ble (Nat.add len n) cap) h o off len cap ex xs n size elem) (ζ) (fun _=>ζ) (fun _ _ _ _ _=>ζ) (fun _=>ζ) (fun _ _ _=>ζ) (fun _ _=>ζ) (fun _ _=>ζ) (ζ) () (fun _ _ _ _=>())) (fun _ _ _ _ _=>.bad)) s
def app1n (n:Option Nat):SV->H->List SV->Nat->TypeId->Eff:=(Option.rec (motive:=fun _=>SV->H->List SV->Nat->TypeId->Eff) (fun _ _ _ _ _=>.bad) (fun n=>fun s h xs size elem=>ifB (Nat.beq (lenS xs) (Nat.mul n size)) (app2 s h xs n size elem))) n
def app1 (xs:Option (List SV)):Option Nat->SV->H->Nat->TypeId->Eff:=(Option.rec (motive:=fun _=>Option Nat->SV->H->Nat->TypeId->Eff) (fun _ _ _ _ _=>.bad) (fun xs=>fun n s h size elem=>app1n n s h xs size elem)) xs
def appZ (z:Option Value):TypeInfo->Bool:=(Option.rec (motive:=fun _=>TypeInfo->Bool) (fun _=>false) (fun z=>fun i=>andB (Nat.beq (lenS (zt z)) i.size) (Nat.ble i.bytes 1048576))) z
def app00 (i:Option TypeInfo):H->SV->SV->TypeId->Eff:=(Option.rec (motive:=fun _=>H->SV->SV->TypeId->Eff) (fun _ _ _ _=>.bad) (fun i=>fun h s x elem=>ifB (appZ i.zero i) (app1 (zho x h i.size) (lenV x) s h i.size elem))) i
def app0 (d:Option TypeDesc):Program->H->SV->SV->Eff:=match d with|some (.slice elem)=>fun P h s x=>app00 (z5d P elem) h s x elem|_=>fun _ _ _ _=>.bad
def zw3 (d:Option TypeDesc):Bool:=match d with|some (.int _)=>false|some _=>true|none=>false
def z2p (d:Option TypeDesc):Option TypeId:=match d with|some (.slice e)=>some e|_=>none
def argT (ts:Array TypeId):Option TypeId:=(List.rec (motive:=fun _=>Option TypeId) (none) (fun t _ _=>some t)) ts.toList
def zy0 (ts:Array TypeId):Option TypeId:=(List.rec (motive:=fun _=>Option TypeId) (none) (fun _ l _=>(List.rec (motive:=fun _=>Option TypeId) (none) (fun t _ _=>some t)) l)) ts.toList
def undT (t:Option TypeId):Program->Option TypeDesc:=(Option.rec (motive:=fun _=>Program->Option TypeDesc) (fun _=>none) (fun t=>fun P=>undO P t)) t
def zcd (P:Program) (h:H) (ts:Array TypeId) (s x:SV):Eff:=ifB (zw3 (undT (zy0 ts) P)) (app0 (undT (argT ts) P) P h s x)
def z004 (o:Option (List Value)):Value->Option (List Value):=(Option.rec (motive:=fun _=>Value->Option (List Value)) (fun _=>none) (fun r=>fun x=>some (x::r))) o
def lits1 (v:SV):Option (List Value)->Option (List Value):=((fun ζ=>SV.rec (motive_1:=fun _=>Option (List Value)->Option (List Value)) (motive_2:=fun _=>Unit) (fun v=>fun ih=>z004 ih v) (fun _ _=>ζ) (fun _ _ _ _ _=>ζ) (ζ) (fun _=>ζ) (fun _ _ _ _ _=>ζ) (fun _=>ζ) (fun _ _ _=>ζ) (fun _ _=>ζ) (fun _ _=>ζ) (ζ) () (fun _ _ _ _=>())) (fun _=>none)) v
def lits (l:List SV):Option (List Value):=(List.rec (motive:=fun _=>Option (List Value)) (some []) (fun v _ ih=>lits1 v ih)) l
def z025 (r:StillR Next):H->Eff:=match r with|.ok (.value v)=>fun h=>.val (.lit v) h|.panic v=>fun _=>.panic (.lit v)|_=>fun _=>.bad
def zka (P:Program) (h:H) (s:Sem Next):Eff:=z025 (still P s) h
def escape (fn:Func) (l:List SV) (h:H):Eff:=match l with
 | [v]=>match fn.name== "internal/abi.NoEscape"&&fn.origin== "" with|true=>.val v h|false=>.bad
 | _=>.bad
def call3 (vs:Option (List Value)):Program->H->FuncId->Func->List SV->Eff:=(Option.rec (motive:=fun _=>Program->H->FuncId->Func->List SV->Eff) (fun _ h _ fn l=>escape fn l h) (fun vs=>fun P h f _ _=>zka P h (callFunc f vs.toArray))) vs
def call2b (b:Bool):FuncId->List SV->Eff:=(Bool.rec (motive:=fun _=>FuncId->List SV->Eff) (fun f l=>.enter f l) (fun _ _=>.bad)) b
def call2 (body:Option Code):Program->H->FuncId->Func->List SV->Eff:=(Option.rec (motive:=fun _=>Program->H->FuncId->Func->List SV->Eff) (fun P h f fn l=>call3 (lits l) P h f fn l) (fun _=>fun _ _ f fn l=>call2b (fn.name== "runtime.NumGoroutine") f l)) body
def call1 (fn:Option Func):Program->H->FuncId->List SV->Eff:=(Option.rec (motive:=fun _=>Program->H->FuncId->List SV->Eff) (fun _ _ _ _=>.bad) (fun fn=>fun P h f l=>call2 fn.body P h f fn l)) fn
def zus (g:SV):Program->H->List SV->Eff:=((fun ζ=>SV.rec (motive_1:=fun _=>Program->H->List SV->Eff) (motive_2:=fun _=>Unit) (fun _=>ζ) (fun _ _=>ζ) (fun _ _ _ _ _=>ζ) (ζ) (fun _=>ζ) (fun f first cap _ _=>fun P h args=>call1 (z95 P f) P h f (appS (appS first args) cap)) (fun l=>fun _ _ args=>.round l args) (fun _ _ _=>ζ) (fun _ _=>ζ) (fun _ _=>ζ) (ζ) () (fun _ _ _ _=>())) (fun _ _ _=>.bad)) g
def zcz (d:Option TypeDesc):Bool:=match d with|some (.slice _)=>true|_=>false
def isMap (d:Option TypeDesc):Bool:=match d with|some (.map _ _)=>true|_=>false
def z00e (d:Option TypeDesc):Bool:=match d with|some .string=>true|_=>false
def zxh (d:Option TypeDesc):Bool:=match d with|some (.int .u8)=>true|_=>false
def z00f (v:Value):Value->Program->H->Array TypeId->TypeId->Eff:=((fun ζ=>Value.rec (motive_1:=fun _=>Value->Program->H->Array TypeId->TypeId->Eff) (motive_2:=fun _=>Unit) (motive_3:=fun _=>Unit) (fun _=>ζ) (fun _ _=>ζ) (fun _ _=>ζ) (fun _ _ _=>ζ) (fun s=>fun _ P h ts _=>ifB (z00e (undT (argT ts) P)) (.val (.lit (.int .i64 (.ofNat s.size))) h)) (fun _=>ζ) (fun _ _ _=>ζ) (fun _=>ζ) (fun _=>ζ) (fun _ _ _ _ _=>ζ) (ζ) (fun _ _ _=>ζ) (ζ) (fun _ _=>ζ) (fun _ _=>ζ) (fun _ _=>()) () (fun _ _ _ _=>())) (fun v P h ts ty=>z2y P h (Builtin.len_ ts ty #[v]))) v
def zxi (o:SO):Program->H->Array TypeId->Eff:=((fun ζ=>SO.rec (motive:=fun _=>Program->H->Array TypeId->Eff) (ζ) (fun _ _ _=>ζ) (fun es _ _=>fun P h ts=>ifB (isMap (undT (argT ts) P)) (.val (.lit (.int .i64 (.ofNat es.length))) h)) (fun _ _=>ζ) (fun _ _ _ _=>ζ) (fun _ _ _ _ _ _ _ _=>ζ) (fun _=>ζ)) (fun _ _ _=>.bad)) o
def zsk (P:Program) (h:H) (ts:Array TypeId):Eff:=match undT (argT ts) P with
 | some (.array n _)=>.val (.lit (goInt n)) h
 | some (.pointer a)=>match undO P a with|some (.array n _)=>.val (.lit (goInt n)) h|_=>.bad
 | _=>.bad
def z00g (x:SV):Program->H->Array TypeId->TypeId->Eff:=((fun ζ=>SV.rec (motive_1:=fun _=>Program->H->Array TypeId->TypeId->Eff) (motive_2:=fun _=>Unit) (fun v=>z00f v v) (fun _ _=>ζ) (fun _ _ n _ _=>fun P h ts _=>ifB (zcz (undT (argT ts) P)) (.val (.lit (.int .i64 (.ofNat n))) h)) (fun P h ts _=>ifB (zcz (undT (argT ts) P)) (.val (.lit (.int .i64 (.ofNat 0))) h)) (fun o=>fun P h ts _=>zxi (hget h o) P h ts) (fun _ _ _ _ _=>ζ) (fun _=>ζ) (fun _ _ _=>ζ) (fun _ _=>ζ) (fun _ _=>ζ) (ζ) () (fun _ _ _ _=>())) (fun P h ts _=>zsk P h ts)) x
def copy3 (d:SV) (cs:Option (List SV)) (n:Nat) (h:H):Eff:=match d,cs with
 | .slc o off _ _ _,some cs=>zht h o off cs fun h=>.val (.lit (.int .i64 (.ofNat n))) h
 | _,_=>.bad
def copy2 (P:Program) (h:H) (d s:SV) (a b size:Nat) (cs:List SV):Eff:=ifB (Nat.beq (lenS cs) (Nat.mul b size)) (match Nat.ble a b with
 | true=>copy3 d (zap (Nat.mul a size) cs) a h
 | false=>copy3 d (zap (Nat.mul b size) cs) b h)
def copy1 (P:Program) (h:H) (d s:SV) (a b size:Option Nat):Eff:=match a,b,size with
 | some a,some b,some size=>match zho s h size with
   | some cs=>copy2 P h d s a b size cs
   | none=>.bad
 | _,_,_=>.bad
def z02g (P:Program) (h:H) (ts:Array TypeId) (d s:SV):Eff:=match z2p (undT (argT ts) P) with
 | some elem=>copy1 P h d s (lenV d) (lenV s) (zu P elem)
 | none=>.bad
def z01e (z:Int):Option UInt8:=(Int.rec (motive:=fun _=>Option UInt8) (fun n=>some (UInt8.ofNat n)) (fun _=>none)) z
def z01f (k:IntKind):Int->Option UInt8:=(IntKind.rec (motive:=fun _=>Int->Option UInt8) (fun _=>none) (fun _=>none) (fun _=>none) (fun _=>none) (z01e) (fun _=>none) (fun _=>none) (fun _=>none)) k
def z01g (v:Value):Option UInt8:=(Value.rec (motive_1:=fun _=>Option UInt8) (motive_2:=fun _=>Unit) (motive_3:=fun _=>Unit) (fun _=>none) (fun k z=>z01f k z) (fun _ _=>none) (fun _ _ _=>none) (fun _=>none) (fun _=>none) (fun _ _ _=>none) (fun _=>none) (fun _=>none) (fun _ _ _ _ _=>none) (none) (fun _ _ _=>none) (none) (fun _ _=>none) (fun _ _=>none) (fun _ _=>()) () (fun _ _ _ _=>())) v
def zqd (v:SV):Option UInt8:=(SV.rec (motive_1:=fun _=>Option UInt8) (motive_2:=fun _=>Unit) (fun v=>z01g v) (fun _ _=>none) (fun _ _ _ _ _=>none) (none) (fun _=>none) (fun _ _ _ _ _=>none) (fun _=>none) (fun _ _ _=>none) (fun _ _=>none) (fun _ _=>none) (none) () (fun _ _ _ _=>())) v
def z01i (o:Option (List UInt8)):UInt8->Option (List UInt8):=(Option.rec (motive:=fun _=>UInt8->Option (List UInt8)) (fun _=>none) (fun r=>fun x=>some (x::r))) o
def bytes1 (b:Option UInt8):Option (List UInt8)->Option (List UInt8):=(Option.rec (motive:=fun _=>Option (List UInt8)->Option (List UInt8)) (fun _=>none) (fun b=>fun ih=>z01i ih b)) b
def z6l (l:List SV):Option (List UInt8):=(List.rec (motive:=fun _=>Option (List UInt8)) (some []) (fun v _ ih=>bytes1 (zqd v) ih)) l
def strE (o:Option (List UInt8)):H->Eff:=(Option.rec (motive:=fun _=>H->Eff) (fun _=>.bad) (fun bs=>fun h=>.val (.lit (.string ⟨bs.toArray⟩)) h)) o
def zx7 (l:Option (List SV)):H->Eff:=(Option.rec (motive:=fun _=>H->Eff) (fun _=>.bad) (fun l=>fun h=>strE (z6l l) h)) l
def zyt (n:Option Nat):Bool:=match n with|some 1=>true|_=>false
def arg1 (l:List SV):(SV->Eff)->Eff:=(List.rec (motive:=fun _=>(SV->Eff)->Eff) (fun _=>.bad) (fun x l _=>(List.rec (motive:=fun _=>SV->(SV->Eff)->Eff) (fun x K=>K x) (fun _ _ _=>fun _ _=>.bad)) l x)) l
def arg2 (l:List SV):(SV->SV->Eff)->Eff:=match l with|[x,y]=>fun K=>K x y|_=>fun _=>.bad
def zdz (b:Builtin):Program->H->Array TypeId->TypeId->List SV->Eff:=((fun ζ=>Builtin.rec (motive:=fun _=>Program->H->Array TypeId->TypeId->List SV->Eff) (fun P h ts _ l=>arg2 l fun s x=>zcd P h ts s x) (ζ) (ζ) (ζ) (ζ) (ζ) (ζ) (ζ) (fun P h ts ty l=>arg1 l fun x=>z00g x P h ts ty) (ζ) (ζ) (ζ) (ζ) (ζ) (ζ) (ζ) (ζ) (ζ) (ζ) (ζ) (ζ) (ζ) (ζ) (ζ) (ζ) (ζ)) (fun _ _ _ _ _=>.bad)) b
def zx5 (z:Option Value):TypeId->H->Eff:=(Option.rec (motive:=fun _=>TypeId->H->Eff) (fun _ _=>.bad) (fun z=>fun el h=>newE h (.cells (zt z) el true) fun i h=>.val (.ptr i 0) h)) z
def aggE (o:Option (List SV)):H->Eff:=(Option.rec (motive:=fun _=>H->Eff) (fun _=>.bad) (fun l=>fun h=>.val (.agg l) h)) o
def zxo (n:Option Nat):Nat->Option (Nat×Nat):=(Option.rec (motive:=fun _=>Nat->Option (Nat×Nat)) (fun _=>none) (fun n=>fun off=>some (off,n))) n
def ztl (f:Option Field):Program->Option (Nat×Nat):=(Option.rec (motive:=fun _=>Program->Option (Nat×Nat)) (fun _=>none) (fun f=>fun P=>zxo (zu P f.type) f.offset)) f
def zc0 (n i:Nat):Option (Nat×Nat):=some (Nat.mul i n,n)
def zva (P:Program) (fs:Array Field):Bool:=fs.toList.all fun f=>(zu P f.type).isSome
def build3 (n:Option Nat):T SV->H->List (Nat×Operand)->List SV->Eff:=match n with
 | some n=>fun t h parts z=>aggE (fill parts t (zc0 n) z) h
 | none=>fun _ _ _ _=>.bad
def build2 (d:Option TypeDesc):Program->T SV->H->List (Nat×Operand)->List SV->Eff:=match d with
 | some (.struct fields)=>fun P t h parts z=>ifB (zva P fields) (aggE (fill parts t (fun i=>ztl (nthD i fields.toList) P) z) h)
 | some (.array _ el)=>fun P t h parts z=>build3 (zu P el) t h parts z
 | _=>fun _ _ _ _ _=>.bad
def build1 (z:Option Value):TypeId->Program->T SV->H->List (Nat×Operand)->Eff:=match z with
 | some z=>fun ty P t h parts=>build2 (undO P ty) P t h parts (zt z)
 | none=>fun _ _ _ _ _=>.bad
def bslice4 (o:Option (List SV)):H->TypeId->Nat->Eff:=match o with
 | some cs=>fun h el n=>newE h (.cells cs el true) fun i h=>.val (.slc i 0 n n true) h
 | none=>fun _ _ _=>.bad
def bslice2 (z:Option Value) (s:Option Nat):TypeId->Nat->T SV->H->List (Nat×Operand)->Eff:=match z,s with
 | some z,some s=>fun el n t h parts=>ifB (Bool.and (Nat.beq (lenS (zt z)) s) (Nat.ble (Nat.mul n s) 16777216)) (bslice4 (fill parts t (zc0 s) (repS n (zt z))) h el n)
 | _,_=>fun _ _ _ _ _=>.bad
def bslice1 (e:Option TypeId):Nat->Program->T SV->H->List (Nat×Operand)->Eff:=match e with
 | some el=>fun n P t h parts=>bslice2 (z54 P el) (zu P el) el n t h parts
 | none=>fun _ _ _ _ _=>.bad
def zsq (cs:Option (List SV)):Option Bool->H->Eff:=(Option.rec (motive:=fun _=>Option Bool->H->Eff) (fun _ _=>.bad) (fun cs=>fun b h=>valO (zor b cs) h)) cs
def zu3 (a:SV):H->List SV->Eff:=((fun ζ=>SV.rec (motive_1:=fun _=>H->List SV->Eff) (motive_2:=fun _=>Unit) (fun _=>ζ) (fun o off=>fun h cs=>zht h o off cs fun h=>.val z2h h) (fun _ _ _ _ _=>ζ) (ζ) (fun _=>ζ) (fun _ _ _ _ _=>ζ) (fun _=>ζ) (fun _ _ _=>ζ) (fun _ _=>ζ) (fun _ _=>ζ) (ζ) () (fun _ _ _ _=>())) (fun _ _=>.bad)) a
def zxt (b:Bool):SV->H->List SV->Eff:=(Bool.rec (motive:=fun _=>SV->H->List SV->Eff) (fun _ _ _=>.bad) (zu3)) b
def zmk (n:Option Nat):SV->H->List SV->Eff:=(Option.rec (motive:=fun _=>SV->H->List SV->Eff) (fun _ _ _=>.bad) (fun n=>fun a h cs=>zxt (Nat.beq (lenS cs) n) a h cs)) n
def z00s (a:Option Addr):Program->H->Eff:=(Option.rec (motive:=fun _=>Program->H->Eff) (fun P h=>z2y P h (runtimePanic .nilDeref)) (fun a=>fun _ h=>.val (.lit (.pointer (some a))) h)) a
def z00r (v:Value):Program->H->Eff:=((fun ζ=>Value.rec (motive_1:=fun _=>Program->H->Eff) (motive_2:=fun _=>Unit) (motive_3:=fun _=>Unit) (fun _=>ζ) (fun _ _=>ζ) (fun _ _=>ζ) (fun _ _ _=>ζ) (fun _=>ζ) (fun a=>z00s a) (fun _ _ _=>ζ) (fun _=>ζ) (fun _=>ζ) (fun _ _ _ _ _=>ζ) (ζ) (fun _ _ _=>ζ) (ζ) (fun _ _=>ζ) (fun _ _=>ζ) (fun _ _=>()) () (fun _ _ _ _=>())) (fun _ _=>.bad)) v
def z7d (v:SV):Program->H->Eff:=((fun ζ=>SV.rec (motive_1:=fun _=>Program->H->Eff) (motive_2:=fun _=>Unit) (fun v=>z00r v) (fun o off=>fun _ h=>.val (.ptr o off) h) (fun _ _ _ _ _=>ζ) (ζ) (fun _=>ζ) (fun f a b _ _=>fun _ h=>.val (.fn f a b) h) (fun o=>fun _ h=>.val (.yld o) h) (fun _ _ _=>ζ) (fun _ _=>ζ) (fun _ _=>ζ) (ζ) () (fun _ _ _ _=>())) (fun _ _=>.bad)) v
def zx6 (r:Option Value):Program->H->BinOp->TypeId->Operand->Operand->Value->Value->Eff:=(Option.rec (motive:=fun _=>Program->H->BinOp->TypeId->Operand->Operand->Value->Value->Eff) (fun P h op xT x y a b=>z2y P h (do eqGuard op xT x y a b;binOp op xT a b)) (fun v=>fun _ h _ _ _ _ _ _=>.val (.lit v) h)) r
def bin2 (b:SV):SV->Program->H->BinOp->TypeId->Operand->Operand->Value->Eff:=((fun ζ=>SV.rec (motive_1:=fun _=>SV->Program->H->BinOp->TypeId->Operand->Operand->Value->Eff) (motive_2:=fun _=>Unit) (fun b=>fun _ P h op xT x y a=>zx6 (zco a op b) P h op xT x y a b) (fun _ _=>ζ) (fun _ _ _ _ _=>ζ) (ζ) (fun _=>ζ) (fun _ _ _ _ _=>ζ) (fun _=>ζ) (fun _ _ _=>ζ) (fun _ _=>ζ) (fun _ _=>ζ) (ζ) () (fun _ _ _ _=>())) (fun _ _ _ _ _ _ _ _=>.bad)) b
def bin1 (a:SV):SV->Program->H->BinOp->TypeId->Operand->Operand->SV->Eff:=((fun ζ=>SV.rec (motive_1:=fun _=>SV->Program->H->BinOp->TypeId->Operand->Operand->SV->Eff) (motive_2:=fun _=>Unit) (fun a=>fun _ P h op xT x y b=>bin2 b b P h op xT x y a) (fun _ _=>ζ) (fun _ _ _ _ _=>ζ) (ζ) (fun _=>ζ) (fun _ _ _ _ _=>ζ) (fun _=>ζ) (fun _ _ _=>ζ) (fun _ _=>ζ) (fun _ _=>ζ) (ζ) () (fun _ _ _ _=>())) (fun _ _ _ _ _ _ _ _=>.bad)) a
def zih (P:Program) (h:H) (s d:TypeId) (str:ByteArray):Eff:=match undO P s,undO P d with
 | some .string,some (.slice el)=>match undO P el with
   | some (.int .u8)=>ifB (zyt (zu P el)) <| ifB (Nat.ble str.size 16777216) <| newE h (.cells (z7u str) el false) fun i h=>.val (.slc i 0 str.size str.size false) h
   | _=>.bad
 | _,_=>z2y P h (convert s d (.string str))
def zql (d:Option TypeDesc):Program->H->TypeId->TypeId->IntKind->Int->Eff:=(Option.rec (motive:=fun _=>Program->H->TypeId->TypeId->IntKind->Int->Eff) (fun _ _ _ _ _ _=>.bad) (fun d=>((fun ζ=>TypeDesc.rec (motive:=fun _=>Program->H->TypeId->TypeId->IntKind->Int->Eff) (ζ) (ζ) (fun k=>fun P h s d _ z=>ifB (undO P s).isSome (.val (.lit (.int k (zl9 k z))) h)) (fun _=>ζ) (fun _=>ζ) (ζ) (ζ) (fun _=>ζ) (fun _=>ζ) (fun _ _=>ζ) (fun _ _=>ζ) (fun _ _=>ζ) (fun _=>ζ) (fun _ _ _=>ζ) (fun _=>ζ) (fun _=>ζ) (fun _ _=>ζ)) (fun P h s d k z=>z2y P h (convert s d (.int k z)))) d)) d
def zy3 (v:Value):Value->Program->H->TypeId->TypeId->Eff:=((fun ζ=>Value.rec (motive_1:=fun _=>Value->Program->H->TypeId->TypeId->Eff) (motive_2:=fun _=>Unit) (motive_3:=fun _=>Unit) (fun _=>ζ) (fun k z=>fun _ P h s d=>zql (undO P d) P h s d k z) (fun _ _=>ζ) (fun _ _ _=>ζ) (fun str=>fun _ P h s d=>zih P h s d str) (fun _=>ζ) (fun _ _ _=>ζ) (fun _=>ζ) (fun _=>ζ) (fun _ _ _ _ _=>ζ) (ζ) (fun _ _ _=>ζ) (ζ) (fun _ _=>ζ) (fun _ _=>ζ) (fun _ _=>()) () (fun _ _ _ _=>())) (fun v P h s d=>z2y P h (convert s d v))) v
def zig (P:Program) (h:H) (s d:TypeId) (o:Pa) (off n:Nat):Eff:=match undO P s,undO P d with
 | some (.slice el),some .string=>ifB (zxh (undO P el)) (zx7 (z5b (hget h o) off n) h)
 | _,_=>.bad
def conv1 (a:SV):Program->H->TypeId->TypeId->Eff:=((fun ζ=>SV.rec (motive_1:=fun _=>Program->H->TypeId->TypeId->Eff) (motive_2:=fun _=>Unit) (fun v=>zy3 v v) (fun _ _=>ζ) (fun o off n _ _=>fun P h s d=>zig P h s d o off n) (ζ) (fun _=>ζ) (fun _ _ _ _ _=>ζ) (fun _=>ζ) (fun _ _ _=>ζ) (fun _ _=>ζ) (fun _ _=>ζ) (ζ) () (fun _ _ _ _=>())) (fun _ _ _ _=>.bad)) a
def litO (x:SV):Option Value:=(SV.rec (motive_1:=fun _=>Option Value) (motive_2:=fun _=>Unit) (fun v=>some v) (fun _ _=>none) (fun _ _ _ _ _=>none) (none) (fun _=>none) (fun _ _ _ _ _=>none) (fun _=>none) (fun _ _ _=>none) (fun _ _=>none) (fun _ _=>none) (none) () (fun _ _ _ _=>())) x
def zyk (n:Nat):H->Pa->Nat->Eff:=(Nat.rec (motive:=fun _=>H->Pa->Nat->Eff) (fun _ _ _=>.bad) (fun _ _=>fun h o off=>.val (.ptr o off) h)) n
def zrh (sz:Option Nat):H->Pa->Nat->Eff:=(Option.rec (motive:=fun _=>H->Pa->Nat->Eff) (fun _ _ _=>.bad) (fun n=>zyk n)) sz
def zrg (f:Option Field):Program->H->Pa->Nat->Eff:=(Option.rec (motive:=fun _=>Program->H->Pa->Nat->Eff) (fun _ _ _ _=>.bad) (fun fd=>fun P h o off=>zrh (zu P fd.type) h o (Nat.add off fd.offset))) f
def z9u (d:Option TypeDesc):List Field:=match d with|some (.struct fs)=>fs.toList|_=>[]
def z5t (a:SV):Program->H->TypeId->Nat->Eff:=((fun ζ=>SV.rec (motive_1:=fun _=>Program->H->TypeId->Nat->Eff) (motive_2:=fun _=>Unit) (fun v=>fun P h s f=>z2y P h (Instr.fieldAt s v f)) (fun o off=>fun P h s f=>zrg (nthD f (z9u (undO P s))) P h o off) (fun _ _ _ _ _=>ζ) (ζ) (fun _=>ζ) (fun _ _ _ _ _=>ζ) (fun _=>ζ) (fun _ _ _=>ζ) (fun _ _=>ζ) (fun _ _=>ζ) (ζ) () (fun _ _ _ _=>())) (fun _ _ _ _=>.bad)) a
def aggW (v:Value):Option (List SV):=(Value.rec (motive_1:=fun _=>Option (List SV)) (motive_2:=fun _=>Unit) (motive_3:=fun _=>Unit) (fun _=>none) (fun _ _=>none) (fun _ _=>none) (fun _ _ _=>none) (fun _=>none) (fun _=>none) (fun _ _ _=>none) (fun _=>none) (fun _=>none) (fun _ _ _ _ _=>none) (none) (fun _ _ _=>none) (none) (fun cs _=>some (cs.toList.map .lit)) (fun _ _=>none) (fun _ _=>()) () (fun _ _ _ _=>())) v
def zla (v:SV):Option (List SV):=(SV.rec (motive_1:=fun _=>Option (List SV)) (motive_2:=fun _=>Unit) (fun v=>aggW v) (fun _ _=>none) (fun _ _ _ _ _=>none) (none) (fun _=>none) (fun _ _ _ _ _=>none) (fun _=>none) (fun _ _ _=>none) (fun l _=>some l) (fun _ _=>none) (none) () (fun _ _ _ _=>())) v
def idxN (i:Option Nat):(Nat->Eff)->Eff:=(Option.rec (motive:=fun _=>(Nat->Eff)->Eff) (fun _=>.bad) (fun i=>fun K=>K i)) i
def idxF (size:Option Nat):H->Pa->Nat->Nat->Eff:=(Option.rec (motive:=fun _=>H->Pa->Nat->Nat->Eff) (fun _ _ _ _=>.bad) (fun s=>fun h o off i=>.val (.ptr o (Nat.add off (Nat.mul i s))) h)) size
def idxE (b:Bool):Option Nat->H->Pa->Nat->Nat->Eff:=(Bool.rec (motive:=fun _=>Option Nat->H->Pa->Nat->Nat->Eff) (fun _ _ _ _ _=>.bad) (idxF)) b
def idxS (el:Option TypeId):Program->H->Pa->Nat->Nat->Nat->Eff:=(Option.rec (motive:=fun _=>Program->H->Pa->Nat->Nat->Nat->Eff) (fun _ _ _ _ _ _=>.bad) (fun el=>fun P h o off n i=>idxE (Nat.ble (Nat.succ i) n) (zu P el) h o off i)) el
def arrD (d:Option TypeDesc):Option (Nat×TypeId):=match d with|some (.array n e)=>some (n,e)|_=>none
def idxA (p:Option (Nat×TypeId)):Program->H->Pa->Nat->Nat->Eff:=(Option.rec (motive:=fun _=>Program->H->Pa->Nat->Nat->Eff) (fun _ _ _ _ _=>.bad) (fun p=>fun P h o off i=>idxE (Nat.ble (Nat.succ i) p.1) (zu P p.2) h o off i)) p
def idxL (i:Option Value):Program->H->TypeId->Value->Eff:=(Option.rec (motive:=fun _=>Program->H->TypeId->Value->Eff) (fun _ _ _ _=>.bad) (fun i=>fun P h ty v=>z2y P h (Instr.indexAt ty v i))) i
def idx1 (a:SV):Program->H->TypeId->SV->Eff:=((fun ζ=>SV.rec (motive_1:=fun _=>Program->H->TypeId->SV->Eff) (motive_2:=fun _=>Unit) (fun v=>fun P h ty i=>idxL (litO i) P h ty v) (fun o off=>fun P h ty i=>idxN (asN i) (fun i=>idxA (arrD (undO P ty)) P h o off i)) (fun o off n _ _=>fun P h ty i=>idxN (asN i) (fun i=>idxS (z2p (undO P ty)) P h o off n i)) (ζ) (fun _=>ζ) (fun _ _ _ _ _=>ζ) (fun _=>ζ) (fun _ _ _=>ζ) (fun _ _=>ζ) (fun _ _=>ζ) (ζ) () (fun _ _ _ _=>())) (fun _ _ _ _=>.bad)) a
def eqF (e:TypeId->SV->SV->Option Bool) (P:Program) (xs ys:List SV):List Field->Option Bool
 | []=>some true
 | f::fs=>match f.name== "_" with
   | true=>eqF e P xs ys fs
   | false=>match part P f.type xs f.offset,part P f.type ys f.offset with
     | some a,some b=>(match e f.type a b with
       | some true=>eqF e P xs ys fs
       | some false=>some false
       | none=>none)
     | _,_=>none
def eqS2 (e:TypeId->SV->SV->Option Bool) (P:Program) (t:TypeId) (a b:SV):Option Bool:=match undO P t,P.stoodInHeld t,zla a,zla b with
 | some (.struct fs),false,some xs,some ys=>eqF e P xs ys fs.toList
 | _,_,_,_=>none
def z97 (b:Builtin):Program->H->Array TypeId->TypeId->List SV->Eff:=((fun ζ=>Builtin.rec (motive:=fun _=>Program->H->Array TypeId->TypeId->List SV->Eff) (ζ) (ζ) (ζ) (ζ) (ζ) (ζ) (ζ) (ζ) (ζ) (ζ) (ζ) (ζ) (ζ) (ζ) (ζ) (ζ) (ζ) (ζ) (ζ) (ζ) (ζ) (ζ) (ζ) (ζ) (ζ) (ζ)) (fun P h ts ty l=>zdz b P h ts ty l)) b
def zm7 (c:Callee):Program->T SV->H->TypeId->Array TypeId->List Operand->Eff:=(Callee.rec (motive:=fun _=>Program->T SV->H->TypeId->Array TypeId->List Operand->Eff) (fun f=>fun P t h _ _ l=>zus (ev f t) P h (evL l t)) (fun _ _=>fun _ _ _ _ _ _=>.bad) (fun b=>fun P t h ty ts l=>z97 b P h ts ty (evL l t))) c
def zlw (fn:Fn):H->List SV->List SV->Eff:=match fn with|.func f=>fun h a b=>.val (.fn f a b) h|_=>fun _ _ _=>.bad
def sop (op:Op):TypeId->Program->Glob->T SV->H->Eff:=((fun ζ=>Op.rec (motive:=fun _=>TypeId->Program->Glob->T SV->H->Eff) (fun x=>fun _ _ _ t h=>.val (ev x t) h) (fun x=>fun _ _ _ t h=>.val (ev x t) h) (fun _ _ _=>ζ) (fun el=>fun _ P _ _ h=>zx5 (z54 P el) el h) (fun el x=>fun _ _ _ t h=>newE h (.cells (cellsOf (ev x t)) el true) fun i h=>.val (.ptr i 0) h) (fun ty p=>fun _ P _ t h=>build1 (z54 P ty) ty P t h p.toList) (fun ty n p=>fun _ P _ t h=>bslice1 (z2p (undO P ty)) n P t h p.toList) (fun _ _ _ _=>ζ) (fun ty a=>fun _ P G t h=>zsq (zoj (zu P ty) (ev a t) G h) (aggT P ty) h) (fun ty a x=>fun _ P _ t h=>zmk (zu P ty) (ev a t) h (cellsOf (ev x t))) (fun _=>ζ) (fun _=>ζ) (fun x=>fun _ P _ t h=>z7d (ev x t) P h) (fun op xT x y _=>fun _ P _ t h=>bin1 (ev x t) (ev x t) P h op xT x y (ev y t)) (fun _ _ _=>ζ) (fun s d x=>fun _ P _ t h=>conv1 (ev x t) P h s d) (fun _ _=>ζ) (fun _ _=>ζ) (fun fn a b=>fun _ _ _ t h=>zlw fn h (evL a.toList t) (evL b.toList t)) (fun _ _=>ζ) (fun _ _=>ζ) (fun _ _ _=>ζ) (fun _ _ _ _ _=>ζ) (fun s x f=>fun _ P _ t h=>z5t (ev x t) P h s f) (fun _ _ _=>ζ) (fun ty x i=>fun _ P _ t h=>idx1 (ev x t) P h ty (ev i t)) (fun _ _ _=>ζ) (fun _ _ _ _=>ζ) (fun _ _ _ _=>ζ) (fun _ _ _=>ζ) (fun _ _ _ _=>ζ) (fun _ _=>ζ) (fun _ _=>ζ) (fun _=>ζ) (fun _ _ _ _=>ζ) (fun _ _=>ζ) (fun c=>fun ty P _ t h=>zm7 c.callee P t h ty c.argTypes c.args.toList) (fun _=>ζ) (fun _=>ζ) (fun _=>ζ) (fun _ _=>ζ) (fun _ _ _=>ζ) (fun _ _=>ζ)) (fun _ _ _ _ _=>.bad)) op
abbrev RunF:=SF->List SF->H->Res
inductive Bd where
 | mk (fi:FI) (de:List SDef) (cs:List SF) (R:RunF)
inductive Cx where
 | mk (ops:Array Oper) (b:Bd) (k:List SI)
def zd5 (b:Bd):T SV->List SI->H->Res:=(Bd.rec (motive:=fun _=>T SV->List SI->H->Res) (fun fi de cs _=>fun tm k h=>.next (.mk fi tm k de .run) cs h)) b
def z74 (o:Oper):Option Tmp:=(Oper.rec (motive:=fun _=>Option Tmp) (fun d _ _ _ _ _=>d)) o
def setO (d:Option Tmp):SV->T SV->(T SV->Res)->Res:=(Option.rec (motive:=fun _=>SV->T SV->(T SV->Res)->Res) (fun _ tm K=>K tm) (fun d=>sset (pa d))) d
def finish3 (l:List Oper):Array Oper->FI->T SV->List SI->List SDef->SMode->SV->(SF->Res)->Res:=(List.rec (motive:=fun _=>Array Oper->FI->T SV->List SI->List SDef->SMode->SV->(SF->Res)->Res) (fun _ _ _ _ _ _ _ _=>.bad) (fun o rest _=>fun ops fi tm k de mode v K=>setO (z74 o) v tm fun tm=>K (.mk fi tm (.inReg ops rest::k) de mode))) l
def finish2 (i:SI):FI->T SV->List SI->List SDef->SMode->SV->(SF->Res)->Res:=((fun ζ=>SI.rec (motive:=fun _=>FI->T SV->List SI->List SDef->SMode->SV->(SF->Res)->Res) (fun _=>ζ) (fun _=>ζ) (fun _=>ζ) (fun _=>ζ) (fun ops l=>fun fi tm k de mode v K=>finish3 l ops fi tm k de mode v K) (fun l=>fun fi tm k de mode v K=>K (.mk fi tm (.endRF l::k) de mode)) (fun _=>ζ) (ζ)) (fun _ _ _ _ _ _ _=>.bad)) i
def finish1 (todo:List SI):FI->T SV->List SDef->SMode->SV->(SF->Res)->Res:=(List.rec (motive:=fun _=>FI->T SV->List SDef->SMode->SV->(SF->Res)->Res) (fun _ _ _ _ _ _=>.bad) (fun i k _=>fun fi tm de mode v K=>finish2 i fi tm k de mode v K)) todo
def z9v (f:SF):SV->(SF->Res)->Res:=(SF.rec (motive:=fun _=>SV->(SF->Res)->Res) (fun fi tm todo de mode=>fun v K=>finish1 todo fi tm de mode v K)) f
def zt9 (d:Option Tmp):Nat->Bool:=(Option.rec (motive:=fun _=>Nat->Bool) (fun _=>true) (fun d=>fun nt=>Nat.ble (Nat.succ d) nt)) d
def z8d (l:List Oper):Nat->Bool:=(List.rec (motive:=fun _=>Nat->Bool) (fun _=>true) (fun o _ ih=>fun nt=>andB (zt9 (z74 o) nt) (ih nt))) l
def zaa (l:List Tmp):Nat->Bool:=(List.rec (motive:=fun _=>Nat->Bool) (fun _=>true) (fun p _ ih=>fun nt=>andB (Nat.ble (Nat.succ p) nt) (ih nt))) l
def z1n (c:Code):Nat->Bool:=
 Code.rec (motive:=fun _=>Nat->Bool) (fun _=>true) (fun _ ops _ nt=>z8d ops.toList nt) (fun _ _ iha ihb nt=>andB (iha nt) (ihb nt)) (fun _ _ _ iha ihb nt=>andB (iha nt) (ihb nt))
  (fun _ _ ih=>ih) (fun _ ih=>ih) (fun _ ps _ _ iha ihb nt=>andB (zaa ps.toList nt) (andB (iha nt) (ihb nt))) (fun _ _=>true) (fun _ ih=>ih) (fun _ _=>true) (fun _ _=>true) (fun _=>true) (fun _ _=>true) c
def zi7 (args:List SV):T SV->Pa->(T SV->Res)->Res:=
 (List.rec (motive:=fun _=>T SV->Pa->(T SV->Res)->Res) (fun t _ K=>K t) (fun v _ ih=>fun t i K=>sset i v t fun t=>ih t (Pa.succ i) K)) args
def enter3 (b:Bool):Code->FuncId->List SV->CallKind->(SF->Res)->Res:=(Bool.rec (motive:=fun _=>Code->FuncId->List SV->CallKind->(SF->Res)->Res) (fun _ _ _ _ _=>.bad) (fun c f args kind K=>zi7 args .nil .e fun tm=>K (.mk (.mk f kind none) tm [.code c] [] .run))) b
def enter2 (c:Option Code):FuncId->Nat->List SV->CallKind->(SF->Res)->Res:=(Option.rec (motive:=fun _=>FuncId->Nat->List SV->CallKind->(SF->Res)->Res) (fun _ _ _ _ _=>.bad) (fun c=>fun f nt args kind K=>enter3 (z1n c nt) c f args kind K)) c
def enter1 (fn:Option Func):FuncId->List SV->CallKind->(SF->Res)->Res:=(Option.rec (motive:=fun _=>FuncId->List SV->CallKind->(SF->Res)->Res) (fun _ _ _ _=>.bad) (fun fn=>fun f args kind K=>enter2 fn.body f fn.ntmps args kind K)) fn
def z56 (P:Program) (f:FuncId) (args:List SV) (kind:CallKind) (K:SF->Res):Res:=enter1 (z95 P f) f args kind K
def raise (f:SF) (c:List (SV×Bool)):SF:=match f with
 | .mk fi tm todo de mode=>match mode with
   | .pan old=>.mk fi tm todo de (.pan (c++old))
   | _=>.mk fi tm todo de (.pan c)
def exit1 (b:Bool):List SI->Option (List SI)->Option (List SI):=(Bool.rec (motive:=fun _=>List SI->Option (List SI)->Option (List SI)) (fun _ r=>r) (fun k _=>some k)) b
def exit2 (i:SI):Nat->List SI->Option (List SI)->Option (List SI):=((fun ζ=>SI.rec (motive:=fun _=>Nat->List SI->Option (List SI)->Option (List SI)) (fun _=>ζ) (fun id'=>fun id k ih=>exit1 (Nat.beq id' id) k ih) (fun _=>ζ) (fun _=>ζ) (fun _ _=>ζ) (fun _=>ζ) (fun _=>ζ) (ζ)) (fun _ _ ih=>ih)) i
def zv6 (l:List SI):Nat->Option (List SI):=(List.rec (motive:=fun _=>Nat->Option (List SI)) (fun _=>none) (fun i k ih=>fun id=>exit2 i id k (ih id))) l
def zo3 (l:Nat):List SI->Option (List SI)
 | .inScope body::k=>match findLabel body l with
   | some rest=>some (.code rest::.inScope body::k)
   | none=>zo3 l k
 | _::k=>zo3 l k
 | []=>none
def zy1 (v:Value):Option Bool:=(Value.rec (motive_1:=fun _=>Option Bool) (motive_2:=fun _=>Unit) (motive_3:=fun _=>Unit) (fun b=>some b) (fun _ _=>none) (fun _ _=>none) (fun _ _ _=>none) (fun _=>none) (fun _=>none) (fun _ _ _=>none) (fun _=>none) (fun _=>none) (fun _ _ _ _ _=>none) (none) (fun _ _ _=>none) (none) (fun _ _=>none) (fun _ _=>none) (fun _ _=>()) () (fun _ _ _ _=>())) v
def zlf (v:SV):Option Bool:=(SV.rec (motive_1:=fun _=>Option Bool) (motive_2:=fun _=>Unit) (fun v=>zy1 v) (fun _ _=>none) (fun _ _ _ _ _=>none) (none) (fun _=>none) (fun _ _ _ _ _=>none) (fun _=>none) (fun _ _ _=>none) (fun _ _=>none) (fun _ _=>none) (none) () (fun _ _ _ _=>())) v
def yield2 (d:Option Tmp):T SV->Option Bool:=(Option.rec (motive:=fun _=>T SV->Option Bool) (fun _=>none) (fun d=>fun t=>zlf (sget (pa d) t))) d
def yield1 (o:Option Oper):T SV->Option Bool:=(Option.rec (motive:=fun _=>T SV->Option Bool) (fun _=>none) (fun o=>yield2 (z74 o))) o
def syielded (ops:Array Oper) (t:T SV) (j:Nat):Option Bool:=yield1 (nthO j ops.toList) t
def zkr (cs:Option (List SV)):Option Bool->Option SV:=(Option.rec (motive:=fun _=>Option Bool->Option SV) (fun _=>none) (fun cs=>fun b=>zor b cs)) cs
def zde (r:ResultVar):Program->Glob->H->T SV->Option SV:=match r with
 | .tmp t=>fun _ _ _ tm=>some (sget (pa t) tm)
 | .cell a t=>fun P G h tm=>zkr (zoj (zu P t) (sget (pa a) tm) G h) (aggT P t)
def zxb (o:Option SV):Option (List SV)->Option (List SV):=(Option.rec (motive:=fun _=>Option (List SV)->Option (List SV)) (fun _=>none) (fun v=>fun l=>ze7 l v)) o
def z4z (l:List ResultVar):Program->Glob->H->T SV->Option (List SV):=
 (List.rec (motive:=fun _=>Program->Glob->H->T SV->Option (List SV)) (fun _ _ _ _=>some []) (fun r _ ih=>fun P G h tm=>zxb (zde r P G h tm) (ih P G h tm))) l
def tup2 (l:List SV):List SV->SV->SV:=(List.rec (motive:=fun _=>List SV->SV->SV) (fun _ v=>v) (fun _ _ _=>fun vs _=>.tup vs)) l
def tup1 (l:List SV):List SV->SV:=(List.rec (motive:=fun _=>List SV->SV) (fun _=>.tup []) (fun v l _=>fun vs=>tup2 l vs v)) l
def tupO (l:Option (List SV)):Option SV:=(Option.rec (motive:=fun _=>Option SV) (none) (fun l=>some (tup1 l l))) l
def results1 (fn:Option Func):Program->Glob->H->T SV->Option SV:=(Option.rec (motive:=fun _=>Program->Glob->H->T SV->Option SV) (fun _ _ _ _=>none) (fun fn=>fun P G h tm=>tupO (z4z fn.results.toList P G h tm))) fn
def zai (c:SF) (rest:List SF) (h:H):Res:=match c with
 | .mk fi tm todo de mode=>match mode with
   | .pan ((_,true)::_)=>.next (.mk fi tm todo de .ret) rest h
   | .run=>.bad
   | mode=>.next (.mk fi tm todo de mode) rest h
def zea (kind:CallKind):SF->List SF->SV->H->Res:=((fun ζ=>CallKind.rec (motive:=fun _=>SF->List SF->SV->H->Res) (fun c rest v h=>z9v c v fun c=>.next c rest h) (fun c rest _ h=>zai c rest h) (ζ) (ζ) (ζ)) (fun _ _ _ _=>.bad)) kind
def z01j (kind:CallKind):SV->H->Res:=((fun ζ=>CallKind.rec (motive:=fun _=>SV->H->Res) (fun v h=>.done v h) (ζ) (ζ) (ζ) (ζ)) (fun _ _=>.bad)) kind
def zeb (cs:List SF):CallKind->SV->H->Res:=(List.rec (motive:=fun _=>CallKind->SV->H->Res) (z01j) (fun c rest _=>fun kind v h=>zea kind c rest v h)) cs
def retO (v:Option SV):List SF->CallKind->H->Res:=(Option.rec (motive:=fun _=>List SF->CallKind->H->Res) (fun _ _ _=>.bad) (fun v=>fun cs kind h=>zeb cs kind v h)) v
def zvr (de:List SDef):Program->Glob->FuncId->CallKind->T SV->List SI->List SF->H->List SDef->Res:=(List.rec (motive:=fun _=>Program->Glob->FuncId->CallKind->T SV->List SI->List SF->H->List SDef->Res) (fun P G fn kind tm _ cs h _=>retO (results1 (z95 P fn) P G h tm) cs kind h) (fun _ _ _=>fun _ _ fn kind tm todo cs h de=>.next (.mk (.mk fn kind none) tm todo de .ret) cs h)) de
def zse (c:Option Code):Bool:=match c with|none=>true|some .ret=>true|_=>false
def leave3 (b:Bool):List SDef->Program->Glob->FuncId->CallKind->T SV->List SI->List SF->H->Res:=(Bool.rec (motive:=fun _=>List SDef->Program->Glob->FuncId->CallKind->T SV->List SI->List SF->H->Res) (fun _ _ _ _ _ _ _ _ _=>.bad) (fun de P G fn kind tm todo cs h=>zvr de P G fn kind tm todo cs h de)) b
def isNil (l:List SDef):Bool:=(List.rec (motive:=fun _=>Bool) (true) (fun _ _ _=>false)) l
def leave2 (ro:Option Pa):Program->Glob->FuncId->CallKind->T SV->List SI->List SDef->List SF->H->Option Code->Res:=(Option.rec (motive:=fun _=>Program->Glob->FuncId->CallKind->T SV->List SI->List SDef->List SF->H->Option Code->Res) (fun P G fn kind tm todo de cs h jump=>leave3 (zse jump) de P G fn kind tm todo cs h) (fun _=>fun _ _ _ _ _ _ _ _ _ _=>.bad)) ro
def leave (fi:FI):Program->Glob->T SV->List SI->List SDef->List SF->H->Option Code->Res:=(FI.rec (motive:=fun _=>Program->Glob->T SV->List SI->List SDef->List SF->H->Option Code->Res) (fun fn kind ro=>fun P G tm todo de cs h jump=>leave2 ro P G fn kind tm todo de cs h jump)) fi
def zsj (b:Bd):Program->Glob->T SV->List SI->H->Option Code->Res:=(Bd.rec (motive:=fun _=>Program->Glob->T SV->List SI->H->Option Code->Res) (fun fi de cs _=>fun P G tm todo h jump=>leave fi P G tm todo de cs h jump)) b
def effE (e:Eff):Program->FI->T SV->List SI->List SDef->List SF->H->Res:=((fun ζ=>Eff.rec (motive:=fun _=>Program->FI->T SV->List SI->List SDef->List SF->H->Res) (fun v h'=>fun _ fi tm todo de cs _=>z9v (.mk fi tm todo de .run) v fun f=>.next f cs h') (fun g args=>fun P fi tm todo de cs h=>z56 P g args .normal fun f=>.next f (.mk fi tm todo de .run::cs) h) (fun _ _=>ζ) (ζ) (fun _=>ζ) (fun _=>ζ) (ζ)) (fun _ _ _ _ _ _ _=>.bad)) e
def effB (b:Bd):Eff->Array Oper->List SI->Oper->List Oper->Program->T SV->H->Res:=(Bd.rec (motive:=fun _=>Eff->Array Oper->List SI->Oper->List Oper->Program->T SV->H->Res) (fun fi de cs _=>fun e ops k o rest P tm h=>effE e P fi tm (.inReg ops (o::rest)::k) de cs h)) b
def effC (c:Cx):Eff->Oper->List Oper->Program->T SV->H->Res:=(Cx.rec (motive:=fun _=>Eff->Oper->List Oper->Program->T SV->H->Res) (fun ops b k=>fun e o rest P tm h=>effB b e ops k o rest P tm h)) c
inductive CO where
 | pure (d:Pa) (f:T SV->SV)
 | gen (d:Option Tmp) (f:T SV->H->Eff)
 | grd (j:Nat) (want:Bool) (d:Option Tmp) (f:T SV->H->Eff)
def comp3 (op:Op):Op->Tmp->TypeId->Program->Glob->CO:=((fun ζ=>Op.rec (motive:=fun _=>Op->Tmp->TypeId->Program->Glob->CO) (fun x=>fun _ d _ _ _=>.pure (pa d) (ev x)) (fun x=>fun _ d _ _ _=>.pure (pa d) (ev x)) (fun _ _ _=>ζ) (fun _=>ζ) (fun _ _=>ζ) (fun _ _=>ζ) (fun _ _ _=>ζ) (fun _ _ _ _=>ζ) (fun _ _=>ζ) (fun _ _ _=>ζ) (fun _=>ζ) (fun _=>ζ) (fun _=>ζ) (fun _ _ _ _ _=>ζ) (fun _ _ _=>ζ) (fun _ _ _=>ζ) (fun _ _=>ζ) (fun _ _=>ζ) (fun _ _ _=>ζ) (fun _ _=>ζ) (fun _ _=>ζ) (fun _ _ _=>ζ) (fun _ _ _ _ _=>ζ) (fun _ _ _=>ζ) (fun _ _ _=>ζ) (fun _ _ _=>ζ) (fun _ _ _=>ζ) (fun _ _ _ _=>ζ) (fun _ _ _ _=>ζ) (fun _ _ _=>ζ) (fun _ _ _ _=>ζ) (fun _ _=>ζ) (fun _ _=>ζ) (fun _=>ζ) (fun _ _ _ _=>ζ) (fun _ _=>ζ) (fun _=>ζ) (fun _=>ζ) (fun _=>ζ) (fun _=>ζ) (fun _ _=>ζ) (fun _ _ _=>ζ) (fun _ _=>ζ)) (fun op d ty P G=>.gen (some d) (sop op ty P G))) op
def comp2 (d:Option Tmp):Op->TypeId->Program->Glob->CO:=(Option.rec (motive:=fun _=>Op->TypeId->Program->Glob->CO) (fun op ty P G=>.gen none (sop op ty P G)) (fun d=>fun op ty P G=>comp3 op op d ty P G)) d
def comp1 (g:Option (Nat×Bool)):Option Tmp->Op->TypeId->Program->Glob->CO:=(Option.rec (motive:=fun _=>Option Tmp->Op->TypeId->Program->Glob->CO) (comp2) (fun g=>fun d op ty P G=>.grd g.1 g.2 d (sop op ty P G))) g
def comp (o:Oper):Program->Glob->CO:=(Oper.rec (motive:=fun _=>Program->Glob->CO) (fun d op ty _ _ g=>fun P G=>comp1 g d op ty P G)) o
def guard1 (b:Bool):Bool->Bool:=(Bool.rec (motive:=fun _=>Bool->Bool) (notB) (fun w=>w)) b
def z79 (y:Option Bool):Bool->Bool:=(Option.rec (motive:=fun _=>Bool->Bool) (fun _=>false) (fun b=>guard1 b)) y
def zth (c:Cx):Array Oper:=(Cx.rec (motive:=fun _=>Array Oper) (fun ops _ _=>ops)) c
def zc2 (e:Eff):Eff->Option Tmp->Oper->List Oper->Program->Cx->T SV->H->(T SV->H->Res)->Res:=((fun ζ=>Eff.rec (motive:=fun _=>Eff->Option Tmp->Oper->List Oper->Program->Cx->T SV->H->(T SV->H->Res)->Res) (fun v h'=>fun _ d _ _ _ _ tm _ K=>setO d v tm fun tm=>K tm h') (fun _ _=>ζ) (fun _ _=>ζ) (ζ) (fun _=>ζ) (fun _=>ζ) (fun _ _ _ _ _ _ _ _ _=>.bad)) (fun e _ o rest P c tm h _=>effC c e o rest P tm h)) e
def zxr (w:Bool):Option Tmp->(T SV->H->Eff)->Oper->List Oper->Program->Cx->T SV->H->(T SV->H->Res)->Res:=(Bool.rec (motive:=fun _=>Option Tmp->(T SV->H->Eff)->Oper->List Oper->Program->Cx->T SV->H->(T SV->H->Res)->Res) (fun d _ _ _ _ _ tm h K=>setO d z2h tm fun tm=>K tm h) (fun d f o rest P c tm h K=>zc2 (f tm h) (f tm h) d o rest P c tm h K)) w
def zwn (q:CO):Oper->List Oper->Program->Cx->T SV->H->(T SV->H->Res)->Res:=(CO.rec (motive:=fun _=>Oper->List Oper->Program->Cx->T SV->H->(T SV->H->Res)->Res) (fun d f=>fun _ _ _ _ tm h K=>sset d (f tm) tm fun tm=>K tm h) (fun d f=>fun o rest P c tm h K=>zc2 (f tm h) (f tm h) d o rest P c tm h K) (fun j want d f=>fun o rest P c tm h K=>zxr (z79 (syielded (zth c) tm j) want) d f o rest P c tm h K)) q
def z008 (c:Cx):T SV->H->Res:=(Cx.rec (motive:=fun _=>T SV->H->Res) (fun _ b k=>fun tm h=>zd5 b tm k h)) c
def z7j (l:List Oper):Program->Glob->Cx->T SV->H->Res:=
 (List.rec (motive:=fun _=>Program->Glob->Cx->T SV->H->Res) (fun _ _ c tm h=>z008 c tm h) (fun o rest ih=>fun P G c tm h=>zwn (comp o P G) o rest P c tm h (ih P G c))) l
def z00a (b:Builtin):Bool:=(Builtin.rec (motive:=fun _=>Bool) (true) (false) (true) (true) (true) (true) (true) (true) (false) (true) (false) (false) (true) (true) (true) (true) (true) (true) (true) (true) (true) (true) (true) (true) (true) (true)) b
def z00b (c:Callee):Bool:=(Callee.rec (motive:=fun _=>Bool) (fun _=>true) (fun _ _=>true) (fun b=>z00a b)) c
def zyo (op:Op):Bool:=(Op.rec (motive:=fun _=>Bool) (fun _=>false) (fun _=>false) (fun _ _ _=>false) (fun _=>false) (fun _ _=>false) (fun _ _=>false) (fun _ _ _=>false) (fun _ _ _ _=>true) (fun _ _=>false) (fun _ _ _=>true) (fun _=>true) (fun _=>true) (fun _=>false) (fun _ _ _ _ _=>false) (fun _ _ _=>false) (fun _ _ _=>false) (fun _ _=>false) (fun _ _=>false) (fun _ _ _=>false) (fun _ _=>false) (fun _ _=>true) (fun _ _ _=>false) (fun _ _ _ _ _=>false) (fun _ _ _=>false) (fun _ _ _=>false) (fun _ _ _=>false) (fun _ _ _=>false) (fun _ _ _ _=>true) (fun _ _ _ _=>true) (fun _ _ _=>true) (fun _ _ _ _=>true) (fun _ _=>true) (fun _ _=>true) (fun _=>true) (fun _ _ _ _=>false) (fun _ _=>false) (fun c=>z00b c.callee) (fun _=>true) (fun _=>true) (fun _=>true) (fun _ _=>true) (fun _ _ _=>true) (fun _ _=>true)) op
inductive PI where
 | mk (i:Nat) (o:Oper) (heavy:Bool) (mask:Nat)
def PI.i (p:PI):Nat:=match p with|.mk i _ _ _=>i
def PI.heavy (p:PI):Bool:=match p with|.mk _ _ h _=>h
def PI.mask (p:PI):Nat:=match p with|.mk _ _ _ m=>m
def PI.o (p:PI):Oper:=match p with|.mk _ o _ _=>o
def za2 (ms:List Nat):List Edge->Nat
 | []=>0
 | e::l=>match Region.binds .any e with
   | true=>Nat.lor (Nat.lor (Nat.pow 2 e.on) (ms.getD e.on 0)) (za2 ms l)
   | false=>za2 ms l
def masks:List Oper->List Nat->List Nat
 | [],ms=>ms
 | o::l,ms=>masks l (ms++[za2 ms o.after.toList])
def items:List Oper->List Nat->Nat->List PI
 | o::l,m::ms,i=>.mk i o (zyo o.op) m::items l ms (Nat.succ i)
 | _,_,_=>[]
def sub (a b:Nat):Bool:=Nat.beq (Nat.land a b) a
def z9y:List PI->Nat
 | []=>0
 | p::l=>match p.heavy with
   | true=>Nat.lor (Nat.pow 2 p.i) (z9y l)
   | false=>z9y l
def zm8 (H:Nat):List PI->List PI->Nat->List PI
 | [],pend,_=>pend
 | h::hs,pend,hm=>pend.filter (fun p=>sub (Nat.land p.mask H) hm)++h::zm8 H hs (pend.filter (fun p=> !sub (Nat.land p.mask H) hm)) (Nat.lor hm (Nat.pow 2 h.i))
def planned (l:List PI):List PI:=zm8 (z9y l) (l.filter (·.heavy)) (l.filter (!·.heavy)) 0
def zma:List PI->Nat->Nat->Option Nat
 | [],em,_=>some em
 | p::l,em,hm=>match Nat.testBit em p.i,sub p.mask em,sub hm p.mask with
   | false,true,true=>zma l (Nat.lor em (Nat.pow 2 p.i)) (match p.heavy with|true=>Nat.lor hm (Nat.pow 2 p.i)|false=>hm)
   | _,_,_=>none
def z47 (o:Op):List Tmp:=o.operands.toList.filterMap fun|.tmp t=>some t|_=>none
def writers:List Oper->Nat->List (Tmp×Nat)
 | [],_=>[]
 | o::l,i=>match o.dst with
   | some d=>(d,i)::writers l (Nat.succ i)
   | none=>writers l (Nat.succ i)
def z2q (t:Tmp):List (Tmp×Nat)->Option Nat
 | []=>none
 | p::l=>match Nat.beq p.1 t with
   | true=>some p.2
   | false=>z2q t l
def zlb (ms:List Nat) (j:Nat) (w:Option Nat):Bool:=match w with
 | none=>true
 | some i=>Nat.beq i j||Nat.testBit (ms.getD j 0) i||Nat.testBit (ms.getD i 0) j
def zs3 (ops:List Oper) (ms:List Nat) (j:Nat) (g:Option (Nat×Bool)):Bool:=match g with
 | none=>true
 | some (i,_)=>Nat.testBit (ms.getD j 0) i
def zdi (all:List Oper) (ms:List Nat) (w:List (Tmp×Nat)):List Oper->Nat->Bool
 | [],_=>true
 | o::l,j=>(match o.dst with|some d=>(match z2q d w with|some i=>Nat.beq i j|none=>false)|none=>true)
    && (z47 o.op).all (fun t=>zlb ms j (z2q t w))&&zs3 all ms j o.guard&&zdi all ms w l (Nat.succ j)
def zit (md:Region.Mode) (m:Nat) (o:Oper):Bool:=o.after.toList.all fun e=> !Region.binds md e||Nat.testBit m e.on
def z8h (md:Region.Mode) (ops:List Oper):List Nat->Nat->Bool
 | [],m=>Nat.beq m (Nat.sub (Nat.pow 2 ops.length) 1)
 | i::l,m=>match ops[i]? with
   | some o=>zit md m o&&z8h md ops l (Nat.lor m (Nat.pow 2 i))
   | none=>false
def zru (l:List (Oper×Nat)) (m:Nat):List (Oper×Nat)×List Nat×Nat:=l.foldl (fun (rest,out,m) (o,i)=>match zit .gc m o with
 | true=>(rest,out++[i],Nat.lor m (Nat.pow 2 i))
 | false=>(rest++[(o,i)],out,m)) ([],[],m)
def zrt:Nat->List (Oper×Nat)->Nat->List Nat
 | 0,_,_=>[]
 | _+1,[],_=>[]
 | n+1,l,m=>(zru l m).2.1++zrt n (zru l m).1 (zru l m).2.2
def zlh (b:Bool) (ops:List Oper):Bool:=match b with
 | true=>z8h .gc ops (zrt 8 ops.zipIdx 0) 0
 | false=>true
def z010 (b:Bool) (l:List PI):Option (List PI):=match b with
 | true=>some (planned l)
 | false=>none
def z011 (em:Option Nat) (n:Nat):Bool:=match em with
 | some m=>Nat.beq m (Nat.sub (Nat.pow 2 n) 1)
 | none=>false
def z012 (ops:List Oper) (ms:List Nat) (dep:Bool):Option (List PI):=
 z010 (z011 (zma (planned (items ops ms 0)) 0 0) ops.length&&zdi ops ms (writers ops 0) ops 0&&z8h .text ops (List.range ops.length) 0&&zlh dep ops) (items ops ms 0)
def plan (ops:Array Oper):Option (List PI):=z012 ops.toList (masks ops.toList []) (Region.departs ops)
def ptrO (v:SV):Option Pa:=(SV.rec (motive_1:=fun _=>Option Pa) (motive_2:=fun _=>Unit) (fun _=>none) (fun o _=>some o) (fun o _ _ _ _=>some o) (none) (fun o=>some o) (fun _ _ _ _ _=>none) (fun _=>none) (fun _ _ _=>none) (fun _ _=>none) (fun _ _=>none) (none) () (fun _ _ _ _=>())) v
def z009 (l:List Operand):T SV->Option Pa:=(List.rec (motive:=fun _=>T SV->Option Pa) (fun _=>none) (fun x _ _=>fun t=>ptrO (ev x t))) l
def z1o (op:Op):T SV->Option Pa:=((fun ζ=>Op.rec (motive:=fun _=>T SV->Option Pa) (fun _=>ζ) (fun _=>ζ) (fun _ _ _=>ζ) (fun _=>ζ) (fun _ _=>ζ) (fun _ _=>ζ) (fun _ _ _=>ζ) (fun _ _ _ _=>ζ) (fun _ a=>fun t=>ptrO (ev a t)) (fun _ _ _=>ζ) (fun _=>ζ) (fun _=>ζ) (fun _=>ζ) (fun _ _ _ _ _=>ζ) (fun _ _ _=>ζ) (fun _ _ x=>fun t=>ptrO (ev x t)) (fun _ _=>ζ) (fun _ _=>ζ) (fun _ _ _=>ζ) (fun _ _=>ζ) (fun _ _=>ζ) (fun _ _ _=>ζ) (fun _ x _ _ _=>fun t=>ptrO (ev x t)) (fun _ _ _=>ζ) (fun _ _ _=>ζ) (fun _ _ _=>ζ) (fun _ _ _=>ζ) (fun _ _ _ _=>ζ) (fun _ _ _ _=>ζ) (fun _ _ _=>ζ) (fun _ _ _ _=>ζ) (fun _ _=>ζ) (fun _ _=>ζ) (fun _=>ζ) (fun _ _ _ _=>ζ) (fun _ _=>ζ) (fun c=>z009 c.args.toList) (fun _=>ζ) (fun _=>ζ) (fun _=>ζ) (fun _ _=>ζ) (fun _ _ _=>ζ) (fun _ _=>ζ)) (fun _=>none)) op
def dimO (hide:Bool) (o:SO):SO:=(Bool.rec (motive:=fun _=>SO->SO) (fun o=>((fun ζ=>SO.rec (motive:=fun _=>SO->SO) (ζ) (fun vs e _=>fun _=>.cells vs e false) (fun es c _=>fun _=>.mapo es c false) (fun _ _=>ζ) (fun _ _ _ _=>ζ) (fun _ _ _ _ _ _ _ _=>ζ) (fun _=>ζ)) (fun _=>.none)) o o) (fun _=>.none)) hide o
def nOf (h:H):Pa:=(H.rec (motive:=fun _=>Pa) (fun n _=>n)) h
def one (o:Pa) (ob:SO):T SO:=Pa.rec (motive:=fun _=>SO->T SO) (fun ob=>.node ob .nil .nil) (fun _ ih ob=>.node .none (ih ob) .nil) (fun _ ih ob=>.node .none .nil (ih ob)) o ob
def z46 (o:Option Pa) (h:H):H:=(Option.rec (motive:=fun _=>H->H) (fun h=>.mk (nOf h) .nil) (fun o=>fun h=>.mk (nOf h) (one o (dimO false (hget h o))))) o h
abbrev Fl:=List (Nat×Pa×Bool)
def flR (o:Option Pa):Nat->Fl->Fl:=(Option.rec (motive:=fun _=>Nat->Fl->Fl) (fun _ l=>l) (fun o=>fun i l=>(i,o,false)::l)) o
abbrev z55:=SV->H->Fl->Res
def zjy (b:Bool):SV->Pa->SO->H->Nat->Fl->z55->Res:=(Bool.rec (motive:=fun _=>SV->Pa->SO->H->Nat->Fl->z55->Res) (fun _ _ _ _ _ _ _=>.bad) (fun v n ob h i fl K=>newR h ob fun _ h=>K v h ((i,n,true)::fl))) b
def zsn (b:Bool):SV->Pa->Pa->T SO->H->Nat->Fl->z55->Res:=(Bool.rec (motive:=fun _=>SV->Pa->Pa->T SO->H->Nat->Fl->z55->Res) (fun v n n' ob h i fl K=>zjy (Pa.beq n' (Pa.succ n)) v n (oget n ob) h i fl K) (fun v _ _ _ h _ fl K=>K v h fl)) b
def z00i (hs:H):SV->H->Nat->Fl->z55->Res:=(H.rec (motive:=fun _=>SV->H->Nat->Fl->z55->Res) (fun n' ob=>fun v h i fl K=>zsn (Pa.beq n' (nOf h)) v (nOf h) n' ob h i fl K)) hs
def zsm (e:Eff):H->Nat->Fl->z55->Res:=((fun ζ=>Eff.rec (motive:=fun _=>H->Nat->Fl->z55->Res) (fun v hs=>fun h i fl K=>z00i hs v h i fl K) (fun _ _=>ζ) (fun _ _=>ζ) (ζ) (fun _=>ζ) (fun _=>ζ) (ζ)) (fun _ _ _ _=>.bad)) e
def dimB (b:Bool):Pa->Bool->H->(H->List (Pa×SO)->Res)->List (Pa×SO)->Res:=(Bool.rec (motive:=fun _=>Pa->Bool->H->(H->List (Pa×SO)->Res)->List (Pa×SO)->Res) (fun o hide h K u=>putR h o (dimO hide (hget h o)) fun h'=>K h' ((o,hget h o)::u)) (fun _ _ h K u=>K h u)) b
def dimK (fl:Fl):Nat->H->List (Pa×SO)->(H->List (Pa×SO)->Res)->Res:=(List.rec (motive:=fun _=>Nat->H->List (Pa×SO)->(H->List (Pa×SO)->Res)->Res) (fun _ h u K=>K h u) (fun p _ ih=>fun m h u K=>dimB (Nat.testBit m p.1) p.2.1 p.2.2 h (fun h u=>ih m h u K) u)) fl
def z91 (u:List (Pa×SO)):H->(H->Res)->Res:=(List.rec (motive:=fun _=>H->(H->Res)->Res) (fun h K=>K h) (fun p _ ih=>fun h K=>putR h p.1 p.2 fun h=>ih h K)) u
def deB (b:Bd):List SDef:=(Bd.rec (motive:=fun _=>List SDef) (fun _ de _ _=>de)) b
def runB (b:Bd):RunF:=(Bd.rec (motive:=fun _=>RunF) (fun _ _ _ R=>R)) b
def panB (b:Bool):Bd->List (SV×Bool)->H->Res:=(Bool.rec (motive:=fun _=>Bd->List (SV×Bool)->H->Res) (fun _ _ _=>.bad) (fun _ _ _=>.bad)) b
def subR (r:Res):Bd->List (Pa×SO)->(SV->H->Res)->Res:=(Res.rec (motive:=fun _=>Bd->List (Pa×SO)->(SV->H->Res)->Res) (fun _ _ _=>fun _ _ _=>.bad) (fun v h=>fun _ u K=>z91 u h fun h=>K v h) (fun chain h=>fun b u _=>z91 u h fun h=>panB (isNil (deB b)) b chain h) (fun _ _ _=>.bad)) r
def zs8 (e:Eff):Program->Bd->H->List (Pa×SO)->(SV->H->Res)->Res:=((fun ζ=>Eff.rec (motive:=fun _=>Program->Bd->H->List (Pa×SO)->(SV->H->Res)->Res) (fun v h'=>fun _ _ _ u K=>z91 u h' fun h=>K v h) (fun f args=>fun P b h u K=>z56 P f args .normal fun f=>subR (runB b f [] h) b u K) (fun _ _=>ζ) (ζ) (fun _=>ζ) (fun v=>fun _ b h u _=>z91 u h fun h=>panB (isNil (deB b)) b [(v,false)] h) (ζ)) (fun _ _ _ _ _=>.bad)) e
abbrev zi3:=T SV->H->Fl->Res
def z01k (heavy:Bool):Nat->Nat->Op->TypeId->Program->Glob->Bd->T SV->H->Fl->z55->Res:=(Bool.rec (motive:=fun _=>Nat->Nat->Op->TypeId->Program->Glob->Bd->T SV->H->Fl->z55->Res) (fun i _ op ty P G _ tm h fl K=>zsm (sop op ty P G tm (z46 (z1o op tm) h)) h i (flR (z1o op tm) i fl) K) (fun _ mask op ty P G b tm h fl K=>dimK fl mask h [] fun h u=>zs8 (sop op ty P G tm h) P b h u fun v h=>K v h fl)) heavy
def zux (want:Bool):Bool->Nat->Nat->Op->TypeId->Program->Glob->Bd->T SV->H->Fl->z55->Res:=(Bool.rec (motive:=fun _=>Bool->Nat->Nat->Op->TypeId->Program->Glob->Bd->T SV->H->Fl->z55->Res) (fun _ _ _ _ _ _ _ _ _ h fl K=>K z2h h fl) (z01k)) want
def zaw (g:Option (Nat×Bool)):Array Oper->T SV->Bool:=(Option.rec (motive:=fun _=>Array Oper->T SV->Bool) (fun _ _=>true) (fun g=>fun ops tm=>z79 (syielded ops tm g.1) g.2)) g
def zy9 (o:Oper):Nat->Bool->Nat->Array Oper->Program->Glob->Bd->T SV->H->Fl->zi3->Res:=(Oper.rec (motive:=fun _=>Nat->Bool->Nat->Array Oper->Program->Glob->Bd->T SV->H->Fl->zi3->Res) (fun d op ty _ _ g=>fun i heavy mask ops P G b tm h fl K=>zux (zaw g ops tm) heavy i mask op ty P G b tm h fl fun v h fl=>setO d v tm fun tm=>K tm h fl)) o
def znn (p:PI):Array Oper->Program->Glob->Bd->T SV->H->Fl->zi3->Res:=PI.rec (motive:=fun _=>Array Oper->Program->Glob->Bd->T SV->H->Fl->zi3->Res) (fun i o heavy mask ops P G b tm h fl K=>zy9 o i heavy mask ops P G b tm h fl K) p
def zir (l:List PI):Array Oper->Program->Glob->Bd->T SV->List SI->H->Fl->Res:=
 (List.rec (motive:=fun _=>Array Oper->Program->Glob->Bd->T SV->List SI->H->Fl->Res) (fun _ _ _ b tm k h _=>zd5 b tm k h) (fun p _ ih=>fun ops P G b tm k h fl=>znn p ops P G b tm h fl fun tm h fl=>ih ops P G b tm k h fl)) l
def z007 (l:Option (List PI)):Array Oper->Program->Glob->Bd->T SV->List SI->H->Res:=(Option.rec (motive:=fun _=>Array Oper->Program->Glob->Bd->T SV->List SI->H->Res) (fun _ _ _ _ _ _ _=>.bad) (fun l=>fun ops P G b tm k h=>zir l ops P G b tm k h [])) l
def zyh (o:Option (List SI)):Program->Glob->Bd->T SV->List SI->H->Code->Res:=(Option.rec (motive:=fun _=>Program->Glob->Bd->T SV->List SI->H->Code->Res) (fun P G b tm todo h c=>zsj b P G tm todo h (some c)) (fun k=>fun _ _ b tm _ h _=>zd5 b tm k h)) o
def z01h (v:Value):(Bool->Res)->Res:=((fun ζ=>Value.rec (motive_1:=fun _=>(Bool->Res)->Res) (motive_2:=fun _=>Unit) (motive_3:=fun _=>Unit) (fun b=>fun K=>K b) (fun _ _=>ζ) (fun _ _=>ζ) (fun _ _ _=>ζ) (fun _=>ζ) (fun _=>ζ) (fun _ _ _=>ζ) (fun _=>ζ) (fun _=>ζ) (fun _ _ _ _ _=>ζ) (ζ) (fun _ _ _=>ζ) (ζ) (fun _ _=>ζ) (fun _ _=>ζ) (fun _ _=>()) () (fun _ _ _ _=>())) (fun _=>.bad)) v
def z003 (v:SV):(Bool->Res)->Res:=((fun ζ=>SV.rec (motive_1:=fun _=>(Bool->Res)->Res) (motive_2:=fun _=>Unit) (fun v=>z01h v) (fun _ _=>ζ) (fun _ _ _ _ _=>ζ) (ζ) (fun _=>ζ) (fun _ _ _ _ _=>ζ) (fun _=>ζ) (fun _ _ _=>ζ) (fun _ _=>ζ) (fun _ _=>ζ) (ζ) () (fun _ _ _ _=>())) (fun _=>.bad)) v
abbrev z92:=Program->Glob->Bd->T SV->List SI->H->Res
def z002 (b:Bool):z92->z92->z92:=(Bool.rec (motive:=fun _=>z92->z92->z92) (fun _ y=>y) (fun x _=>x)) b
def region (draw:Bool):Array Oper->z92:=(Bool.rec (motive:=fun _=>Array Oper->z92) (fun ops P G b tm k h=>z7j ops.toList P G (.mk ops b k) tm h) (fun ops P G b tm k h=>z007 (plan ops) ops P G b tm k h)) draw
def z7n (c:Code):z92:=
 Code.rec (motive:=fun _=>z92)
  (fun _ _ b tm k h=>zd5 b tm k h)
  (fun _ ops draw=>region draw ops)
  (fun _ y iha _ P G b tm k h=>iha P G b tm (.code y::k) h)
  (fun c _ _ iha ihb P G b tm k h=>z003 (ev c tm) fun t=>z002 t iha ihb P G b tm k h)
  (fun id _ ih P G b tm k h=>ih P G b tm (.inBlock id::k) h)
  (fun y ih P G b tm k h=>ih P G b tm (.inLoop y::k) h)
  (fun _ _ _ _ _ _ _ _ _ _ _ _=>.bad)
  (fun id P G b tm k h=>zyh (zv6 k id) P G b tm (.code (.exit id)::k) h (.exit id))
  (fun y ih P G b tm k h=>ih P G b tm (.inScope y::k) h)
  (fun _ _ _ b tm k h=>zd5 b tm k h)
  (fun l P G b tm k h=>zyh (zo3 l k) P G b tm (.code (.goto l)::k) h (.goto l))
  (fun P G b tm k h=>zsj b P G tm (.code .ret::k) h (some .ret))
  (fun _ _ _ _ _ _ _=>.bad) c
def z029 (p:Option Code) (k:List SI):List SI:=match p with|some c=>.code c::k|none=>k
def endRF (ob:SO):Pa->Bd->T SV->List SI->H->Res:=((fun ζ=>SO.rec (motive:=fun _=>Pa->Bd->T SV->List SI->H->Res) (ζ) (fun _ _ _=>ζ) (fun _ _ _=>ζ) (fun _ _=>ζ) (fun _ _ _ _=>ζ) (fun st pend fn tmps params assign body d=>fun l b tm k h=>(match st with|.busy=>.bad|_=>putR h l (.loop .exhausted pend fn tmps params assign body d) fun h=>zd5 b tm (z029 pend k) h)) (fun _=>ζ)) (fun _ _ _ _ _=>.bad)) ob
def zmi (i:SI):z92:=(SI.rec (motive:=fun _=>z92) (fun c=>z7n c) (fun _=>fun _ _ b tm k h=>zd5 b tm k h) (fun c=>fun P G b tm k h=>z7n c P G b tm (.inLoop c::k) h) (fun _=>fun _ _ b tm k h=>zd5 b tm k h) (fun ops l=>fun P G b tm k h=>z7j l P G (.mk ops b k) tm h) (fun _=>fun _ _ _ _ _ _=>.bad) (fun _=>fun _ _ _ _ _ _=>.bad) (fun _ _ _ _ _ _=>.bad)) i
def zu2 (todo:List SI):Program->Glob->Bd->T SV->H->Res:=(List.rec (motive:=fun _=>Program->Glob->Bd->T SV->H->Res) (fun P G b tm h=>zsj b P G tm [] h none) (fun i k _=>fun P G b tm h=>zmi i P G b tm k h)) todo
def z02d (mode:SMode):SMode->RunF->Program->Glob->FI->T SV->List SI->List SDef->List SF->H->Res:=(SMode.rec (motive:=fun _=>SMode->RunF->Program->Glob->FI->T SV->List SI->List SDef->List SF->H->Res) (fun _ R P G fi tm todo de cs h=>zu2 todo P G (.mk fi de cs R) tm h) (fun _ _ _ _ _ _ _ _ _ _=>.bad) (fun _=>fun _ _ _ _ _ _ _ _ _ _=>.bad)) mode
def step (f:SF):RunF->Program->Glob->List SF->H->Res:=(SF.rec (motive:=fun _=>RunF->Program->Glob->List SF->H->Res) (fun fi tm todo de mode=>fun R P G cs h=>z02d mode mode R P G fi tm todo de cs h)) f
def runR (r:Res):RunF->Res:=(Res.rec (motive:=fun _=>RunF->Res) (fun f cs h=>fun ih=>ih f cs h) (fun v h=>fun _=>.done v h) (fun c h=>fun _=>.pan c h) (fun _=>.bad)) r
def runF (P:Program) (G:Glob) (n:Nat):RunF:=
 Nat.rec (motive:=fun _=>RunF) (fun f cs h=>.next f cs h) (fun _ ih f cs h=>runR (step f ih P G cs h) ih) n
def start (P:Program) (G:Glob) (n:Nat) (f:FuncId) (args:List SV) (h:H):Res:=
 z56 P f args .normal fun f=>runF P G n f [] h
def z01d:Value->Bool
 | .bool _|.agg _|.tuple _=>false
 | _=>true
deriving instance DecidableEq for Pa
def Pa.num:Pa->Nat
 | .e=>0
 | .l p=>2*p.num+1
 | .r p=>2*p.num+2
theorem Pa.num_inj:∀ {p q:Pa},p.num=q.num->p=q:=by
 intro p
 induction p with
 | e=>intro q h;cases q<;>simp only [Pa.num] at h<;>first|rfl|omega
 | l p ih=>intro q h;cases q with
   | l q=>simp only [Pa.num] at h;rw [ih (q:=q) (by omega)]
   | e=>simp only [Pa.num] at h;omega
   | r q=>simp only [Pa.num] at h;omega
 | r p ih=>intro q h;cases q with
   | r q=>simp only [Pa.num] at h;rw [ih (q:=q) (by omega)]
   | e=>simp only [Pa.num] at h;omega
   | l q=>simp only [Pa.num] at h;omega
theorem Pa.num_succ (p:Pa):(Pa.succ p).num=p.num+1:=by
 induction p with
 | e=>rfl
 | l p ih=>show (Pa.r p).num=_;simp only [Pa.num]
 | r p ih=>show (Pa.l (Pa.succ p)).num=_;simp only [Pa.num,ih];omega
theorem Pa.succ_ne (p:Pa):Pa.succ p≠p:=fun h=>by have:=congrArg Pa.num h;rw [Pa.num_succ] at this;omega
theorem zz1:∀ (f n:Nat),n<=f->(paF f n).num=n:=by
 intro f
 induction f with
 | zero=>intro n h;have h0:n=0:=by omega
         rw [h0];rfl
 | succ f ih=>
   intro n h
   cases n with
   | zero=>rfl
   | succ k=>
     show (Bool.rec (motive:=fun _=>(Nat->Pa)->Nat->Pa) (fun ih k=>.r (ih k)) (fun ih k=>.l (ih k)) (Nat.beq (Nat.mod k 2) 0) (paF f) (Nat.div k 2)).num=k+1;have h2:=ih (k / 2) (by omega);have hk:Nat.div k 2=k / 2:=rfl;have hm:Nat.mod k 2=k%2:=rfl;rw [hk,hm];rcases Nat.mod_two_eq_zero_or_one k with h0|h0<;>rw [h0]
     ·show (Pa.l (paF f (k / 2))).num=_;simp only [Pa.num,h2];omega
     ·show (Pa.r (paF f (k / 2))).num=_;simp only [Pa.num,h2];omega
theorem zxm (n:Nat):(pa n).num=n:=zz1 n n (Nat.le_refl n)
theorem zby {m n:Nat} (h:pa m=pa n):m=n:=by have:=congrArg Pa.num h;simpa only [zxm] using this
theorem Pa.beq_iff:∀ (p q:Pa),Pa.beq p q=true↔p=q:=by
 intro p
 induction p with
 | e=>intro q;cases q<;>simp [Pa.beq]
 | l p ih=>intro q;cases q with
   | l q=>show Pa.beq p q=true↔_;rw [ih q];simp
   | e=>simp [Pa.beq]
   | r q=>simp [Pa.beq]
 | r p ih=>intro q;cases q with
   | r q=>show Pa.beq p q=true↔_;rw [ih q];simp
   | e=>simp [Pa.beq]
   | l q=>simp [Pa.beq]
def sset':Pa->SV->T SV->T SV
 | .e,x,.nil=>.node x .nil .nil
 | .e,x,.node _ l r=>.node x l r
 | .l p,x,.nil=>.node z2h (sset' p x .nil) .nil
 | .l p,x,.node v l r=>.node v (sset' p x l) r
 | .r p,x,.nil=>.node z2h .nil (sset' p x .nil)
 | .r p,x,.node v l r=>.node v l (sset' p x r)
theorem zdj (p:Pa):∀ (x:SV) (t:T SV) (K:T SV->Res),sset p x t K=K (sset' p x t):=by
 induction p with
 | e=>intro x t K;cases t<;>rfl
 | l p ih=>intro x t K;cases t<;>(simp only [sset'];exact ih _ _ _)
 | r p ih=>intro x t K;cases t<;>(simp only [sset'];exact ih _ _ _)
theorem zmd (p:Pa):sget p .nil=z2h:=by induction p<;>first|rfl|assumption
theorem z45 (p:Pa):∀ (q:Pa) (x:SV) (t:T SV),sget p (sset' q x t)=if p=q then x else sget p t:=by
 induction p with
 | e=>intro q x t;cases q<;>cases t<;>rfl
 | l p ih=>
   intro q x t
   cases q with
   | e=>cases t<;>rfl
   | l q=>
     have:sget (.l p) (sset' (.l q) x t)=sget p (sset' q x (slt t)):=(by cases t<;>rfl);rw [this,ih];by_cases h:p=q
     ·rw [if_pos h,if_pos (by rw [h])]
     ·rw [if_neg h,if_neg (by simp [h])];rfl
   | r q=>
     have:sget (.l p) (sset' (.r q) x t)=sget p (slt t):=by cases t<;>rfl
     rw [this,if_neg (by simp)];rfl
 | r p ih=>
   intro q x t
   cases q with
   | e=>cases t<;>rfl
   | r q=>
     have:sget (.r p) (sset' (.r q) x t)=sget p (sset' q x (srt t)):=(by cases t<;>rfl);rw [this,ih];by_cases h:p=q
     ·rw [if_pos h,if_pos (by rw [h])]
     ·rw [if_neg h,if_neg (by simp [h])];rfl
   | l q=>have:sget (.r p) (sset' (.l q) x t)=sget p (srt t):=(by cases t<;>rfl);rw [this,if_neg (by simp)];rfl
def oset':Pa->SO->T SO->T SO
 | .e,x,.nil=>.node x .nil .nil
 | .e,x,.node _ l r=>.node x l r
 | .l p,x,.nil=>.node .none (oset' p x .nil) .nil
 | .l p,x,.node v l r=>.node v (oset' p x l) r
 | .r p,x,.nil=>.node .none .nil (oset' p x .nil)
 | .r p,x,.node v l r=>.node v l (oset' p x r)
theorem zdb {R:Type} (p:Pa):∀ (x:SO) (t:T SO) (K:T SO->R),oset p x t K=K (oset' p x t):=by
 induction p with
 | e=>intro x t K;cases t<;>rfl
 | l p ih=>intro x t K;cases t<;>(simp only [oset'];exact ih _ _ _)
 | r p ih=>intro x t K;cases t<;>(simp only [oset'];exact ih _ _ _)
theorem zm3 (p:Pa):∀ (q:Pa) (x:SO) (t:T SO),oget p (oset' q x t)=if p=q then x else oget p t:=by
 induction p with
 | e=>intro q x t;cases q<;>cases t<;>rfl
 | l p ih=>
   intro q x t
   cases q with
   | e=>cases t<;>rfl
   | l q=>
     have:oget (.l p) (oset' (.l q) x t)=oget p (oset' q x (olt t)):=(by cases t<;>rfl);rw [this,ih];by_cases h:p=q
     ·rw [if_pos h,if_pos (by rw [h])]
     ·rw [if_neg h,if_neg (by simp [h])];rfl
   | r q=>
     have:oget (.l p) (oset' (.r q) x t)=oget p (olt t):=by cases t<;>rfl
     rw [this,if_neg (by simp)];rfl
 | r p ih=>
   intro q x t
   cases q with
   | e=>cases t<;>rfl
   | r q=>
     have:oget (.r p) (oset' (.r q) x t)=oget p (oset' q x (ort t)):=(by cases t<;>rfl);rw [this,ih];by_cases h:p=q
     ·rw [if_pos h,if_pos (by rw [h])]
     ·rw [if_neg h,if_neg (by simp [h])];rfl
   | l q=>have:oget (.r p) (oset' (.l q) x t)=oget p (ort t):=(by cases t<;>rfl);rw [this,if_neg (by simp)];rfl
theorem z7g (p:Pa):oget p .nil=.none:=by induction p<;>first|rfl|assumption
def hput (h:H) (i:Pa) (o:SO):H:=match h with|.mk n ob=>.mk n (oset' i o ob)
def hpush (h:H) (o:SO):H:=match h with|.mk n ob=>.mk (Pa.succ n) (oset' n o ob)
theorem z6u (h:H) (o:SO) (K:Pa->H->Eff):newE h o K=K (nOf h) (hpush h o):=by cases h;exact zdb _ _ _ _
theorem ztp (h:H) (i:Pa) (o:SO) (K:H->Eff):putE h i o K=K (hput h i o):=by cases h;exact zdb _ _ _ _
theorem zyy (h:H) (o:SO) (K:Pa->H->Res):newR h o K=K (nOf h) (hpush h o):=by cases h;exact zdb _ _ _ _
theorem ztr (h:H) (i:Pa) (o:SO) (K:H->Res):putR h i o K=K (hput h i o):=by cases h;exact zdb _ _ _ _
theorem z3b (h:H) (i o:Pa) (ob:SO):hget (hput h i ob) o=if o=i then ob else hget h o:=by cases h;exact zm3 _ _ _ _
theorem z3r (h:H) (o:Pa) (ob:SO):hget (hpush h ob) o=if o=nOf h then ob else hget h o:=by cases h;exact zm3 _ _ _ _
theorem z8c (h:H) (i:Pa) (ob:SO):nOf (hput h i ob)=nOf h:=by cases h;rfl
theorem z9a (h:H) (ob:SO):nOf (hpush h ob)=Pa.succ (nOf h):=by cases h;rfl
theorem z2u (a b:Bool):andB a b=(a&&b):=by cases a<;>rfl
theorem zt3 (b:Bool):notB b= !b:=by cases b<;>rfl
theorem za1 (l:List SV):lenS l=l.length:=by
 induction l with
 | nil=>rfl
 | cons x l ih=>show Nat.succ (lenS l)=_;rw [ih];rfl
theorem zuz (n:Nat):∀ l:List SV,zec n l=l.drop n:=by
 induction n with
 | zero=>intro l;rfl
 | succ n ih=>intro l;cases l with
   | nil=>rfl
   | cons x l=>show zec n l=_;rw [ih];rfl
theorem zpm (n:Nat):∀ {l r:List SV},zap n l=some r->n<=l.length/\r=l.take n:=by
 induction n with
 | zero=>intro l r h;cases h;simp
 | succ n ih=>intro l r h;cases l with
   | nil=>cases h
   | cons x l=>
     change ze7 (zap n l) x=some r at h
     cases ht:zap n l with
     | none=>rw [ht] at h;cases h
     | some q=>rw [ht] at h;cases h;obtain ⟨h1,h2⟩:=ih ht;subst h2;simp;omega
theorem z9i (l:List SV):∀ m,appS l m=l++m:=by
 induction l with
 | nil=>intro m;rfl
 | cons x l ih=>intro m;show x::appS l m=_;rw [ih];rfl
theorem zp6 (xs:List SV):∀ {l r:List SV},zti xs l=some r->xs.length<=l.length/\r=xs++l.drop xs.length:=by
 induction xs with
 | nil=>intro l r h;cases h;simp
 | cons x xs ih=>intro l r h;cases l with
   | nil=>cases h
   | cons y l=>
     change ze7 (zti xs l) x=some r at h
     cases ht:zti xs l with
     | none=>rw [ht] at h;cases h
     | some q=>rw [ht] at h;cases h;obtain ⟨h1,h2⟩:=ih ht;subst h2;simp;omega
theorem z4w (off:Nat) (xs:List SV):∀ {l r:List SV},z5k off xs l=some r->off+xs.length<=l.length/\r=l.take off++xs++l.drop (off+xs.length):=by
 induction off with
 | zero=>intro l r h;have:=zp6 xs (show zti xs l=some r from h);simpa using this
 | succ off ih=>intro l r h;cases l with
   | nil=>cases h
   | cons y l=>
     change ze7 (z5k off xs l) y=some r at h
     cases ht:z5k off xs l with
     | none=>rw [ht] at h;cases h
     | some q=>rw [ht] at h;cases h;obtain ⟨h1,h2⟩:=ih ht;subst h2;refine ⟨by simp;omega,?_⟩;have:off+1+xs.length=(off+xs.length)+1:=(by omega);rw [this];simp
theorem zbw {off:Nat} {xs l r:List SV} (h:z5k off xs l=some r) (i:Nat):
 r[i]? =if off<=i/\i<off+xs.length then xs[i-off]? else l[i]? :=by
 obtain ⟨h1,rfl⟩:=z4w off xs h;by_cases h2:i<off
 ·rw [if_neg (by omega),List.append_assoc,List.getElem?_append_left (by simp;omega)];simp [h2]
 ·by_cases h3:i<off+xs.length
  ·rw [if_pos (by omega),List.append_assoc,List.getElem?_append_right (by simp;omega),List.getElem?_append_left (by simp;omega)];simp;congr 1;omega
  ·rw [if_neg (by omega),List.append_assoc,List.getElem?_append_right (by simp;omega),List.getElem?_append_right (by simp;omega)];simp;congr 1;omega
theorem z7h {off:Nat} {xs l r:List SV} (h:z5k off xs l=some r):r.length=l.length:=by obtain ⟨h1,rfl⟩:=z4w off xs h;simp;omega
theorem zzc (n:Nat) (l:List SV):repS n l=(List.replicate n l).flatten:=by
 induction n with
 | zero=>rfl
 | succ n ih=>show appS l (repS n l)=_;rw [z9i,ih,List.replicate_succ,List.flatten_cons]
theorem zz0 (n:Nat):∀ l:List TypeInfo,nthI n l=l[n]? :=by
 induction n with
 | zero=>intro l;cases l<;>rfl
 | succ n ih=>intro l;cases l with
   | nil=>rfl
   | cons x l=>show nthI n l=_;rw [ih];rfl
theorem zyz (n:Nat):∀ l:List Func,nthF n l=l[n]? :=by
 induction n with
 | zero=>intro l;cases l<;>rfl
 | succ n ih=>intro l;cases l with
   | nil=>rfl
   | cons x l=>show nthF n l=_;rw [ih];rfl
theorem zd6 (n:Nat):∀ l:List Field,nthD n l=l[n]? :=by
 induction n with
 | zero=>intro l;cases l<;>rfl
 | succ n ih=>intro l;cases l with
   | nil=>rfl
   | cons x l=>show nthD n l=_;rw [ih];rfl
theorem zt4 (n:Nat):∀ l:List Oper,nthO n l=l[n]? :=by
 induction n with
 | zero=>intro l;cases l<;>rfl
 | succ n ih=>intro l;cases l with
   | nil=>rfl
   | cons x l=>show nthO n l=_;rw [ih];rfl
theorem z78 (P:Program) (f:FuncId):z95 P f=P.funcs[f]? :=by show nthF f P.funcs.toList=_;rw [zyz];simp
end Go.Play
namespace Go.Play
structure Loc where
 block:Nat
 off:Nat
 room:Nat
 esz:Nat
abbrev Env:=Pa->Option Loc
def Env.le (ρ ρ':Env):Prop:=∀ o b,ρ o=some b->ρ' o=some b
theorem Env.le.refl (ρ:Env):Env.le ρ ρ:=fun _ _ h=>h
theorem Env.le.trans {a b c:Env} (h:Env.le a b) (k:Env.le b c):Env.le a c:=fun o l e=>k o l (h o l e)
mutual
inductive VR (ρ:Env):SV->Value->Prop
 | lit (v:Value):VR ρ (.lit v) v
 | ptr {o:Pa} {b:Loc} (off:Nat) (h:ρ o=some b):VR ρ (.ptr o off) (.pointer (some ⟨b.block,b.off+off,none⟩))
 | slc {o:Pa} {b:Loc} (off len cap:Nat) (ex:Bool) (cap':Nat) (h:ρ o=some b) (hc:cap<=cap') (he:ex=true->cap'=cap)
    (hr:ex=false->off+cap'*b.esz<=b.room/\cap'<=9223372036854775807):VR ρ (.slc o off len cap ex) (.slice (some ⟨b.block,b.off+off,none⟩) len cap')
 | eslc (a:Addr) (c:Nat):VR ρ .eslc (.slice (some a) 0 c)
 | mapv {o:Pa} {b:Loc} (h:ρ o=some b):VR ρ (.mapv o) (.map (some b.block))
 | fn {f:FuncId} {a b:List SV} {a' b':Array Value} (ha:VRL ρ a a'.toList) (hb:VRL ρ b b'.toList):VR ρ (.fn f a b) (.func (.func f) a' b')
 | yld {o:Pa} {b:Loc} (h:ρ o=some b):VR ρ (.yld o) (.func (.yield b.block) #[] #[])
 | ifc (t:TypeId) {v:SV} {x:Value} (h:VR ρ v x):VR ρ (.ifc t v) (.iface t x)
 | agg {l:List SV} {xs:Array Value} (h:VRL ρ l xs.toList):VR ρ (.agg l) (.agg xs)
 | tup {l:List SV} {xs:Array Value} (h:VRL ρ l xs.toList):VR ρ (.tup l) (.tuple xs)
 | any {x:Value} (h:z01d x=true):VR ρ .any x
inductive VRL (ρ:Env):List SV->List Value->Prop
 | nil:VRL ρ [] []
 | cons {v:SV} {x:Value} {l:List SV} {xs:List Value} (h:VR ρ v x) (t:VRL ρ l xs):VRL ρ (v::l) (x::xs)
end
mutual
theorem VR.mono {ρ ρ':Env} (hle:Env.le ρ ρ'):∀ {v:SV} {x:Value},VR ρ v x->VR ρ' v x
 | _,_,.lit v=>.lit v
 | _,_,.ptr off h=>.ptr off (hle _ _ h)
 | _,_,.slc off len cap ex cap' h hc he hr=>.slc off len cap ex cap' (hle _ _ h) hc he hr
 | _,_,.eslc a c=>.eslc a c
 | _,_,.mapv h=>.mapv (hle _ _ h)
 | _,_,.fn ha hb=>.fn (VRL.mono hle ha) (VRL.mono hle hb)
 | _,_,.yld h=>.yld (hle _ _ h)
 | _,_,.ifc t h=>.ifc t (VR.mono hle h)
 | _,_,.agg h=>.agg (VRL.mono hle h)
 | _,_,.tup h=>.tup (VRL.mono hle h)
 | _,_,.any h=>.any h
theorem VRL.mono {ρ ρ':Env} (hle:Env.le ρ ρ'):∀ {l:List SV} {xs:List Value},VRL ρ l xs->VRL ρ' l xs
 | _,_,.nil=>.nil
 | _,_,.cons h t=>.cons (VR.mono hle h) (VRL.mono hle t)
end
section
variable {ρ:Env}
theorem VRL.length {l:List SV}:∀ {xs:List Value},VRL ρ l xs->l.length=xs.length:=by
 induction l with
 | nil=>intro xs h;cases h;rfl
 | cons v l ih=>intro xs h;cases h with|cons h t=>simp [ih t]
theorem VRL.get {l:List SV}:∀ {xs:List Value},VRL ρ l xs->∀ (i:Nat) (v:SV),l[i]? =some v->∃ x,xs[i]? =some x/\VR ρ v x:=by
 induction l with
 | nil=>intro xs h i v hv;simp at hv
 | cons u l ih=>
   intro xs h i v hv
   cases h with
   | cons h t=>
     cases i with
     | zero=>simp at hv;subst hv;exact ⟨_,rfl,h⟩
     | succ i=>simpa using ih t i v (by simpa using hv)
theorem VRL.of_get {l:List SV}:∀ {xs:List Value},l.length=xs.length->(∀ (i:Nat) (v:SV),l[i]? =some v->∃ x,xs[i]? =some x/\VR ρ v x)->VRL ρ l xs:=by
 induction l with
 | nil=>intro xs hl h;cases xs with
   | nil=>exact .nil
   | cons=>simp at hl
 | cons u l ih=>
   intro xs hl h
   cases xs with
   | nil=>simp at hl
   | cons x xs=>obtain ⟨y,hy,hv⟩:=h 0 u rfl;simp at hy;subst hy;exact .cons hv (ih (by simpa using hl) fun i v hi=>by simpa using h (i+1) v (by simpa using hi))
theorem VRL.append {l m:List SV}:∀ {xs ys:List Value},VRL ρ l xs->VRL ρ m ys->VRL ρ (l++m) (xs++ys):=by
 induction l with
 | nil=>intro xs ys h k;cases h;exact k
 | cons v l ih=>intro xs ys h k;cases h with|cons h t=>exact .cons h (ih t k)
theorem VRL.take {l:List SV}:∀ {xs:List Value} (n:Nat),VRL ρ l xs->VRL ρ (l.take n) (xs.take n):=by
 induction l with
 | nil=>intro xs n h;cases h;simp;exact .nil
 | cons v l ih=>intro xs n h;cases h with|cons h t=>cases n with
   | zero=>exact .nil
   | succ n=>exact .cons h (ih n t)
theorem VRL.drop {l:List SV}:∀ {xs:List Value} (n:Nat),VRL ρ l xs->VRL ρ (l.drop n) (xs.drop n):=by
 induction l with
 | nil=>intro xs n h;cases h;simp;exact .nil
 | cons v l ih=>intro xs n h;cases h with|cons h t=>cases n with
   | zero=>exact .cons h t
   | succ n=>exact ih n t
theorem VRL.lits (xs:List Value):VRL ρ (xs.map .lit) xs:=by
 induction xs with
 | nil=>exact .nil
 | cons x xs ih=>exact .cons (.lit x) ih
theorem VRL.flatten_replicate {l:List SV} {xs:List Value} (h:VRL ρ l xs) (n:Nat):VRL ρ (List.replicate n l).flatten (List.replicate n xs).flatten:=by
 induction n with
 | zero=>exact .nil
 | succ n ih=>rw [List.replicate_succ,List.replicate_succ,List.flatten_cons,List.flatten_cons];exact h.append ih
theorem zsp {l:List SV}:∀ {vs:List Value} {xs:List Value},lits l=some vs->VRL ρ l xs->xs=vs:=by
 induction l with
 | nil=>intro vs xs h k;cases h;cases k;rfl
 | cons v l ih=>
   intro vs xs h k
   cases k with
   | cons hv t=>
     cases v with
     | lit x=>
       change z004 (Play.lits l) x=some vs at h
       cases hl:Play.lits l with
       | none=>rw [hl] at h;cases h
       | some q=>rw [hl] at h;cases h;cases hv;rw [ih hl t]
     | _=>cases h
theorem z31 (v:Value):VRL ρ (zt v) v.cells.toList:=by
 cases v with
 | agg cs=>exact VRL.lits _
 | _=>exact .cons (.lit _) .nil
theorem z6m {v:SV} {x:Value} (h:VR ρ v x):VRL ρ (cellsOf v) x.cells.toList:=by
 cases h with
 | lit=>exact z31 _
 | agg h=>exact h
 | ptr off h=>exact .cons (.ptr off h) .nil
 | slc off len cap ex cap' h hc he hr=>exact .cons (.slc off len cap ex cap' h hc he hr) .nil
 | eslc a c=>exact .cons (.eslc a c) .nil
 | mapv h=>exact .cons (.mapv h) .nil
 | fn ha hb=>exact .cons (.fn ha hb) .nil
 | yld h=>exact .cons (.yld h) .nil
 | ifc t h=>exact .cons (.ifc t h) .nil
 | tup h=>exact .cons (.tup h) .nil
 | @any x h=>cases x<;>first|(cases h;done)|exact .cons (.any rfl) .nil
theorem zz3 (v:Value):oneW v=v.oneCell':=by cases v<;>rfl
theorem zw6 {v:SV} {x:Value} (h:VR ρ v x) (k:oneV v=true):x.oneCell'=true:=by
 cases h with
 | lit=>have h2:oneW x=true:=k;rwa [zz3] at h2
 | agg h=>cases k
 | tup h=>cases k
 | any h=>cases x<;>first|(cases h;done)|rfl
 | _=>rfl
theorem zm4 {l:List SV}:∀ {xs:List Value},VRL ρ l xs->oneL l=true->∀ x∈xs,x.oneCell'=true:=by
 induction l with
 | nil=>intro xs h k x hx;cases h;cases hx
 | cons v l ih=>
   intro xs h k x hx
   cases h with
   | cons h t=>
     change andB (oneV v) (oneL l)=true at k;rw [z2u,Bool.and_eq_true] at k
     cases hx with
     | head=>exact zw6 h k.1
     | tail _ hm=>exact ih t k.2 x hm
end
inductive DR (ρ:Env):SDef->Deferred->Prop
 | call {f:FuncId} {l:List SV} {args cap:Array Value} (h:VRL ρ l (args++cap).toList):DR ρ (.call f l) { target:=.fn (.func f) cap,args }
 | collected {o:Pa} {b:Loc} (h:ρ o=some b):DR ρ (.collected o) { target:=.collected b.block,args:= #[] }
inductive DRL (ρ:Env):List SDef->List Deferred->Prop
 | nil:DRL ρ [] []
 | cons {d:SDef} {e:Deferred} {l:List SDef} {m:List Deferred} (h:DR ρ d e) (t:DRL ρ l m):DRL ρ (d::l) (e::m)
theorem DR.mono {ρ ρ':Env} (hle:Env.le ρ ρ') {d:SDef} {e:Deferred} (h:DR ρ d e):DR ρ' d e:=by
 cases h with
 | call h=>exact .call (h.mono hle)
 | collected h=>exact .collected (hle _ _ h)
theorem DRL.mono {ρ ρ':Env} (hle:Env.le ρ ρ') {l:List SDef} {m:List Deferred} (h:DRL ρ l m):DRL ρ' l m:=by
 induction h with
 | nil=>exact .nil
 | cons h _ ih=>exact .cons (h.mono hle) ih
def TR (ρ:Env) (tm:T SV) (ts:Array Value):Prop:=∀ i,VR ρ (sget (pa i) tm) (ts.getD i undef)
theorem TR.mono {ρ ρ':Env} (hle:Env.le ρ ρ') {tm:T SV} {ts:Array Value} (h:TR ρ tm ts):TR ρ' tm ts:=fun i=>(h i).mono hle
inductive ER (ρ:Env):List (SV×SV×Nat)->List MapEntry->Prop
 | nil:ER ρ [] []
 | cons {k:SV} {key:Value} {v:SV} {x:Value} {b:Nat} {l:List (SV×SV×Nat)} {m:List MapEntry} (hk:VR ρ k key) (h:VR ρ v x) (t:ER ρ l m):ER ρ ((k,v,b)::l) ({ key:=key,val:=x,born:=b }::m)
theorem ER.mono {ρ ρ':Env} (hle:Env.le ρ ρ') {l:List (SV×SV×Nat)} {m:List MapEntry} (h:ER ρ l m):ER ρ' l m:=by
 induction h with
 | nil=>exact .nil
 | cons hk h _ ih=>exact .cons (hk.mono hle) (h.mono hle) ih
inductive OR (P:Program) (ρ:Env):SO->Loc->Option Obj->Prop
 | none (b:Loc) (ob:Option Obj):OR P ρ .none b ob
 | cells {vs:List SV} {e:TypeId} {own:Bool} {b:Loc} {c:Array Value} {fr:Nat×Nat} (hs:P.cellsOf e=b.esz) (hm:b.off%b.esz=0)
    (hf:own=true->fr=(0,0)) (hr:b.off+b.room<=c.size) (hl:vs.length<=b.room)
    (hv:∀ i v,vs[i]? =some v->∃ x,c[b.off+i]? =some x/\VR ρ v x):OR P ρ (.cells vs e own) b (some (.cells c e fr))
 | mapo {es:List (SV×SV×Nat)} {k:Nat} {own:Bool} {b:Loc} {xs:Array MapEntry} (h:ER ρ es xs.toList):OR P ρ (.mapo es k own) b (some (.map xs k))
 | sit {s:ByteArray} {pos:Nat} {b:Loc} (h:b.off=0):OR P ρ (.sit s pos) b (some (.stringIter s pos))
 | mitN {since st:Nat} {seen:List Nat} {b:Loc} (h:b.off=0):OR P ρ (.mit Option.none since seen st) b (some (.mapIter Option.none since seen.toArray st))
 | mitS {m:Pa} {bm:Loc} {since st:Nat} {seen:List Nat} {b:Loc} (h:b.off=0) (hm:ρ m=some bm):OR P ρ (.mit (some m) since seen st) b (some (.mapIter (some bm.block) since seen.toArray st))
 | loop {st:LoopState} {pend:Option Code} {fn:FuncId} {tm:T SV} {ts:Array Value} {ps:Array Tmp} {as bd:Code} {d:Pa} {bd':Loc} {b:Loc}
    (ht:TR ρ tm ts) (hps:zaa ps.toList ts.size=true) (has:z1n as ts.size=true) (hbd:z1n bd ts.size=true) (hpd:∀ c,pend=some c->∀ n,z1n c n=true) (hd:ρ d=some bd'):
    OR P ρ (.loop st pend fn tm ps as bd d) b (some (.loop { state:=st,pending:=pend,fn,tmps:=ts,params:=ps,assign:=as,body:=bd,defers:=bd'.block }))
 | defN {b:Loc}:OR P ρ (.deferred Option.none) b (some (.deferred Option.none))
 | defS {l:List SDef} {m:List Deferred} {b:Loc} (h:DRL ρ l m):OR P ρ (.deferred (some l)) b (some (.deferred (some m)))
theorem OR.mono {P:Program} {ρ ρ':Env} (hle:Env.le ρ ρ') {ob:SO} {b:Loc} {o:Option Obj} (h:OR P ρ ob b o):OR P ρ' ob b o:=by
 cases h with
 | none=>exact .none _ _
 | cells hs hm hf hr hl hv=>exact .cells hs hm hf hr hl fun i v hi=>let ⟨x,hx,k⟩:=hv i v hi;⟨x,hx,k.mono hle⟩
 | mapo h=>exact .mapo (h.mono hle)
 | sit h=>exact .sit h
 | mitN h=>exact .mitN h
 | mitS h hm=>exact .mitS h (hle _ _ hm)
 | loop ht hps has hbd hpd hd=>exact .loop (ht.mono hle) hps has hbd hpd (hle _ _ hd)
 | defN=>exact .defN
 | defS h=>exact .defS (h.mono hle)
def zw0:SO->Bool
 | .none=>false
 | .cells _ _ own=>own
 | .mapo _ _ own=>own
 | _=>true
structure Sim (P:Program) (G:Glob) (M:Nat->Prop) (ρ:Env) (h:H) (w:World):Prop where
 live:∀ o b,ρ o=some b->OR P ρ (hget h o) b w.heap[b.block]?
 size:∀ o b,ρ o=some b->b.block<w.heap.size
 dom:∀ o b,ρ o=some b->o.num<(nOf h).num
 apart:∀ o o' b b',ρ o=some b->ρ o'=some b'->hget h o≠.none->hget h o'≠.none->b.block=b'.block->o=o'
 mine:∀ o b,ρ o=some b->zw0 (hget h o)=true->M b.block
 fresh:∀ k,w.heap.size<=k->M k
 globs:∀ g cs,gfind G g=some cs->¬ M g/\∃ (c:Array Value) (el:TypeId) (fr:Nat×Nat),w.heap[g]? =some (.cells c el fr)/\∀ (i:Nat) (v:SV),cs[i]? =some v->∃ x:Value,c[i]? =some x/\VR ρ v x
structure Grow (M:Nat->Prop) (ρ:Env) (h:H) (w:World) (ρ':Env) (h':H) (w':World):Prop where
 os:w'.os=w.os
 tape:w'.tape=w.tape
 output:w'.output=w.output
 size:w.heap.size<=w'.heap.size
 same:∀ k,¬ M k->w'.heap[k]? =w.heap[k]?
 nx:(nOf h).num<=(nOf h').num
 keep:Env.le ρ ρ'
 new:∀ o,ρ o=none->ρ' o≠none->(nOf h).num<=o.num
 track:∀ o b,ρ' o=some b->hget h' o≠.none->M b.block∨(ρ o=some b/\hget h o≠.none)
section
variable {P:Program} {G:Glob} {M:Nat->Prop} {ρ ρ' ρ'':Env} {h h' h'':H} {w w' w'':World}
theorem Grow.refl:Grow M ρ h w ρ h w:=⟨rfl,rfl,rfl,Nat.le_refl _,fun _ _=>rfl,Nat.le_refl _,.refl _,fun o h0 h1=>absurd h0 h1,fun o b hb hn=>.inr ⟨hb,hn⟩⟩
theorem Grow.trans (a:Grow M ρ h w ρ' h' w') (b:Grow M ρ' h' w' ρ'' h'' w''):Grow M ρ h w ρ'' h'' w'' where
 os:=b.os.trans a.os
 tape:=b.tape.trans a.tape
 output:=b.output.trans a.output
 size:=Nat.le_trans a.size b.size
 same:=fun k hk=>(b.same k hk).trans (a.same k hk)
 nx:=Nat.le_trans a.nx b.nx
 keep:=a.keep.trans b.keep
 new:=fun o h0 h1=>by
  cases hm:ρ' o with
  | none=>exact Nat.le_trans a.nx (b.new o hm h1)
  | some l=>exact a.new o h0 (by rw [hm];simp)
 track:=fun o l hl hn=>by
  rcases b.track o l hl hn with h1|⟨h1,h2⟩
  ·exact .inl h1
  ·exact a.track o l h1 h2
theorem Sim.drew (s:Sim P G M ρ h w) (hh:w'.heap=w.heap):Sim P G M ρ h w' where
 live:=fun o b hb=>by rw [hh];exact s.live o b hb
 size:=fun o b hb=>by rw [hh];exact s.size o b hb
 dom:=s.dom
 apart:=s.apart
 mine:=s.mine
 fresh:=fun k hk=>s.fresh k (by rw [<- hh];exact hk)
 globs:=fun g cs hg=>by rw [hh];exact s.globs g cs hg
theorem Grow.drew (ho:w'.os=w.os) (ht:w'.tape=w.tape) (hu:w'.output=w.output) (hh:w'.heap=w.heap):Grow M ρ h w ρ h w':=
 ⟨ho,ht,hu,by rw [hh];exact Nat.le_refl _,fun _ _=>by rw [hh],Nat.le_refl _,.refl _,fun o h0 h1=>absurd h0 h1,fun o b hb hn=>.inr ⟨hb,hn⟩⟩
theorem Sim.put (s:Sim P G M ρ h w) {o:Pa} {b:Loc} {ob:SO} (hb:ρ o=some b) (hm:zw0 (hget h o)=true) (ho:w'.os=w.os) (ht:w'.tape=w.tape) (hu:w'.output=w.output)
 (hz:w'.heap.size=w.heap.size) (hk:∀ k,k≠b.block->w'.heap[k]? =w.heap[k]?) (hob:OR P ρ ob b w'.heap[b.block]?):Sim P G M ρ (hput h o ob) w'/\Grow M ρ h w ρ (hput h o ob) w':=by
 have hne:hget h o≠.none:=fun e=>by rw [e] at hm;cases hm
 have hM:=s.mine o b hb hm;refine ⟨⟨?_,?_,?_,?_,?_,?_,?_⟩,⟨ho,ht,hu,Nat.le_of_eq hz.symm,?_,?_,.refl _,fun o h0 h1=>absurd h0 h1,?_⟩⟩
 ·intro o' b' hb';rw [z3b];split
  ·rename_i e;subst e;rw [hb] at hb';cases hb';exact hob
  ·rename_i e;by_cases hn:hget h o'=.none
   ·rw [hn];exact .none _ _
   ·rw [hk b'.block fun e'=>e (s.apart o' o b' b hb' hb hn hne e')];exact s.live o' b' hb'
 ·intro o' b' hb';rw [hz];exact s.size o' b' hb'
 ·intro o' b' hb';rw [z8c];exact s.dom o' b' hb'
 ·intro o1 o2 b1 b2 h1 h2 n1 n2 e;rw [z3b] at n1 n2;have f1:hget h o1≠.none:=by
   split at n1
   ·rename_i e;rw [e];exact hne
   ·exact n1
  have f2:hget h o2≠.none:=by
   split at n2
   ·rename_i e;rw [e];exact hne
   ·exact n2
  exact s.apart o1 o2 b1 b2 h1 h2 f1 f2 e
 ·intro o' b' hb' hm';rw [z3b] at hm';split at hm'
  ·rename_i e;subst e;rw [hb] at hb';cases hb';exact hM
  ·exact s.mine o' b' hb' hm'
 ·intro k hk';exact s.fresh k (by rw [<- hz];exact hk')
 ·intro g cs hg;obtain ⟨h1,h2⟩:=s.globs g cs hg;exact ⟨h1,by rw [hk g fun e=>h1 (e▸hM)];exact h2⟩
 ·intro k hk';exact hk k fun e=>hk' (e▸hM)
 ·rw [z8c];exact Nat.le_refl _
 ·intro o' b' hb' hn;rw [z3b] at hn;split at hn
  ·rename_i e;exact .inr ⟨hb',by rw [e];exact hne⟩
  ·exact .inr ⟨hb',hn⟩
def Env.put (ρ:Env) (o:Pa) (b:Loc):Env:=fun o'=>if o'=o then some b else ρ o'
theorem Env.put_self (ρ:Env) (o:Pa) (b:Loc):ρ.put o b o=some b:=by simp [Env.put]
theorem Env.put_le {ρ:Env} {o:Pa} (b:Loc) (h:ρ o=none):Env.le ρ (ρ.put o b):=fun o' b' hb=>by
 unfold Env.put;split
 ·rename_i e;rw [e,h] at hb;cases hb
 ·exact hb
theorem Sim.none_at (s:Sim P G M ρ h w):ρ (nOf h)=none:=by
 cases hb:ρ (nOf h) with
 | none=>rfl
 | some b=>exact absurd (s.dom _ _ hb) (Nat.lt_irrefl _)
theorem Sim.place (s:Sim P G M ρ h w) {o:Pa} {b:Loc} {ob:SO} (hh:∀ o',o'≠o->hget h' o'=hget h o') (hn:ρ o=none) (hob':hget h' o=ob) (hlt:o.num<(nOf h').num) (hnx:(nOf h).num<=(nOf h').num)
 (ho:w'.os=w.os) (ht:w'.tape=w.tape) (hu:w'.output=w.output)
 (hz:w.heap.size<=w'.heap.size) (hbz:b.block<w'.heap.size) (hk:∀ k,k≠b.block->k<w.heap.size->w'.heap[k]? =w.heap[k]?) (hM:M b.block)
 (hap:∀ o' b',ρ o'=some b'->hget h o'≠.none->b'.block≠b.block) (hob:OR P (ρ.put o b) ob b w'.heap[b.block]?):
 Sim P G M (ρ.put o b) h' w':=by
 have hle:Env.le ρ (ρ.put o b):=Env.put_le b hn;have hsplit:∀ o' b',(ρ.put o b) o'=some b'->(o'=o/\b'=b)∨(o'≠o/\ρ o'=some b'):=by
  intro o' b' hb;unfold Env.put at hb;split at hb
  ·rename_i e;cases hb;exact .inl ⟨e,rfl⟩
  ·rename_i e;exact .inr ⟨e,hb⟩
 refine ⟨?_,?_,?_,?_,?_,?_,?_⟩
 ·intro o' b' hb';rcases hsplit o' b' hb' with ⟨rfl,rfl⟩|⟨hne,hb⟩
  ·rw [hob'];exact hob
  ·rw [hh o' hne];by_cases hn':hget h o'=.none
   ·rw [hn'];exact .none _ _
   ·rw [hk _ (hap o' b' hb hn') (s.size o' b' hb)];exact (s.live o' b' hb).mono hle
 ·intro o' b' hb';rcases hsplit o' b' hb' with ⟨rfl,rfl⟩|⟨hne,hb⟩
  ·exact hbz
  ·exact Nat.lt_of_lt_of_le (s.size o' b' hb) hz
 ·intro o' b' hb';rcases hsplit o' b' hb' with ⟨rfl,rfl⟩|⟨hne,hb⟩
  ·exact hlt
  ·exact Nat.lt_of_lt_of_le (s.dom o' b' hb) hnx
 ·intro o1 o2 b1 b2 h1 h2 n1 n2 e;rcases hsplit o1 b1 h1 with ⟨rfl,rfl⟩|⟨hne1,hb1⟩<;>rcases hsplit o2 b2 h2 with ⟨rfl,rfl⟩|⟨hne2,hb2⟩
  ·rfl
  ·rw [hh o2 hne2] at n2;exact absurd e.symm (hap o2 b2 hb2 n2)
  ·rw [hh o1 hne1] at n1;exact absurd e (hap o1 b1 hb1 n1)
  ·rw [hh o1 hne1] at n1;rw [hh o2 hne2] at n2;exact s.apart o1 o2 b1 b2 hb1 hb2 n1 n2 e
 ·intro o' b' hb' hm';rcases hsplit o' b' hb' with ⟨rfl,rfl⟩|⟨hne,hb⟩
  ·exact hM
  ·rw [hh o' hne] at hm';exact s.mine o' b' hb hm'
 ·intro k hk';exact s.fresh k (Nat.le_trans hz hk')
 ·intro g cs hg;obtain ⟨h1,c,el,fr,h2,h3⟩:=s.globs g cs hg;refine ⟨h1,c,el,fr,?_,fun i v hi=>let ⟨x,hx,hv⟩:=h3 i v hi;⟨x,hx,hv.mono hle⟩⟩;rw [hk g (fun e=>h1 (e▸hM)) (by rcases Nat.lt_or_ge g w.heap.size with h|h;exact h;rw [Array.getElem?_eq_none h] at h2;cases h2)];exact h2
theorem Sim.push (s:Sim P G M ρ h w) {b:Loc} {ob:SO} (ho:w'.os=w.os) (ht:w'.tape=w.tape) (hu:w'.output=w.output)
 (hz:w.heap.size<=w'.heap.size) (hbz:b.block<w'.heap.size) (hk:∀ k,k≠b.block->k<w.heap.size->w'.heap[k]? =w.heap[k]?) (hM:M b.block)
 (hap:∀ o' b',ρ o'=some b'->hget h o'≠.none->b'.block≠b.block) (hob:OR P (ρ.put (nOf h) b) ob b w'.heap[b.block]?):
 Sim P G M (ρ.put (nOf h) b) (hpush h ob) w'/\Grow M ρ h w (ρ.put (nOf h) b) (hpush h ob) w':=by
 have hn:=s.none_at;have hnx:(nOf h).num<(nOf (hpush h ob)).num:=by rw [z9a,Pa.num_succ];omega
 refine ⟨s.place (o:=nOf h) (ob:=ob) (fun o' hne=>by rw [z3r,if_neg hne]) hn (by rw [z3r,if_pos rfl]) hnx (Nat.le_of_lt hnx) ho ht hu hz hbz hk hM hap hob,⟨ho,ht,hu,hz,?_,Nat.le_of_lt hnx,Env.put_le b hn,?_,?_⟩⟩
 ·intro k hk';rcases Nat.lt_or_ge k w.heap.size with hl|hl
  ·exact hk k (fun e=>hk' (e▸hM)) hl
  ·exact absurd (s.fresh k hl) hk'
 ·intro o' h0 h1;unfold Env.put at h1;split at h1
  ·rename_i e;rw [e];exact Nat.le_refl _
  ·exact absurd h0 h1
 ·intro o' b' hb' hn';unfold Env.put at hb';split at hb'
  ·cases hb';exact .inl hM
  ·rename_i e;rw [z3r,if_neg e] at hn';exact .inr ⟨hb',hn'⟩
theorem Sim.alloc (s:Sim P G M ρ h w) {b:Loc} {ob:SO} {obj:Obj} (hb:b.block=w.heap.size) (hob:OR P (ρ.put (nOf h) b) ob b (some obj)):
 Sim P G M (ρ.put (nOf h) b) (hpush h ob) { w with heap:=w.heap.push obj }/\Grow M ρ h w (ρ.put (nOf h) b) (hpush h ob) { w with heap:=w.heap.push obj }:=by
 refine s.push rfl rfl rfl (by simp) (by simp [hb]) (fun k hk hl=>?_) (s.fresh _ (by omega)) (fun o' b' hb' _ e=>?_) (by simpa [hb] using hob)
 ·show (w.heap.push obj)[k]? =_;rw [Array.getElem?_push,if_neg (by omega)]
 ·have:=s.size o' b' hb';omega
end
end Go.Play
namespace Go.Play
theorem zcf {w:World} {b i:Nat} {c:Array Value} {e:TypeId} {fr:Nat×Nat} (h:w.heap[b]? =some (.cells c e fr)):w.cell? ⟨b,i,none⟩=c[i]? :=by simp [World.cell?,h]
theorem z67 (b o i:Nat):(⟨b,o,none⟩:Addr).add i=⟨b,o+i,none⟩:=by
 unfold Addr.add;split
 ·rename_i h;subst h;rfl
 ·rfl
theorem zwq {w:World} {b:Nat} {c:Array Value} {e:TypeId} {fr:Nat×Nat} (h:w.heap[b]? =some (.cells c e fr)):w.shape? b=some (e,c.size):=by simp [World.shape?,h]
theorem zrs {w:World} {b i:Nat} {c:Array Value} {e:TypeId} (h:w.heap[b]? =some (.cells c e (0,0))):w.frozen? ⟨b,i,none⟩=false:=by simp [World.frozen?,h]
structure Turn (w w':World) (b:Nat) (ob:Obj):Prop where
 os:w'.os=w.os
 tape:w'.tape=w.tape
 output:w'.output=w.output
 size:w'.heap.size=w.heap.size
 other:∀ k,k≠b->w'.heap[k]? =w.heap[k]?
 here:w'.heap[b]? =some ob
theorem Turn.trans {w w' w'':World} {b:Nat} {ob ob':Obj} (h:Turn w w' b ob) (k:Turn w' w'' b ob'):Turn w w'' b ob':=
 ⟨k.os.trans h.os,k.tape.trans h.tape,k.output.trans h.output,k.size.trans h.size,fun i hi=>(k.other i hi).trans (h.other i hi),k.here⟩
theorem z4r {w:World} {b:Nat} {ob:Obj} (h:w.heap[b]? =some ob):b<w.heap.size:=by
 rcases Nat.lt_or_ge b w.heap.size with h'|h'
 ·exact h'
 ·rw [Array.getElem?_eq_none h'] at h;cases h
theorem zhw {w:World} {b i:Nat} {c:Array Value} {e:TypeId} {fr:Nat×Nat} (h:w.heap[b]? =some (.cells c e fr)) (v:Value):
 Turn w (w.setCell ⟨b,i,none⟩ v) b (.cells (c.setIfInBounds i v) e fr):=by
 have hlt:=z4r h;refine ⟨rfl,rfl,rfl,by simp [World.setCell],fun k hk=>?_,?_⟩
 ·show (w.heap.modify b _)[k]? =_;rw [Array.getElem?_modify,if_neg (Ne.symm hk)]
 ·show (w.heap.modify b _)[b]? =_;rw [Array.getElem?_modify,if_pos rfl,h];rfl
theorem z6d {P:Program} {b o:Nat} {e:TypeId}:∀ (vs:List Value) (i:Nat) (c:Array Value) (w:World),w.heap[b]? =some (.cells c e (0,0))->o+i+vs.length<=c.size->(∀ v∈vs,v.oneCell'=true)->
 ∃ w' c',(storeCells ⟨b,o,none⟩ vs i).run P w=.ok () w'/\Turn w w' b (.cells c' e (0,0))/\c'.size=c.size/\∀ j,c'[j]? =if o+i<=j/\j<o+i+vs.length then vs[j-(o+i)]? else c[j]? :=by
 intro vs
 induction vs with
 | nil=>
   intro i c w h hs hv
   exact ⟨w,c,rfl,⟨rfl,rfl,rfl,rfl,fun _ _=>rfl,h⟩,rfl,fun j=>by rw [if_neg (by simp only [List.length_nil];omega)]⟩
 | cons v vs ih=>
   intro i c w h hs hv;simp only [List.length_cons] at hs;have hlt:o+i<c.size:=by omega
   have h1:(store ((⟨b,o,none⟩:Addr).add i) v).run P w=.ok () (w.setCell ⟨b,o+i,none⟩ v):=by rw [run_store P w _ v _ (hv v (by simp)),z67,zcf h,Array.getElem?_eq_getElem hlt];simp only [zrs h];rfl
   have ht:=zhw (i:=o+i) h v;obtain ⟨w',c',hr,ht',hz,hc⟩:=ih (i+1) (c.setIfInBounds (o+i) v) _ ht.here (by simp;omega) (fun x hx=>hv x (by simp [hx]));refine ⟨w',c',?_,ht.trans ht',by simpa using hz,fun j=>?_⟩
   ·simp only [storeCells,Sem.run_bind,h1,Result.andThen_ok,hr]
   ·rw [hc j];simp only [List.length_cons];by_cases hj:j=o+i
    ·subst hj;rw [if_neg (by omega),if_pos (by omega)];simp [hlt]
    ·by_cases h2:o+(i+1)<=j/\j<o+(i+1)+vs.length
     ·rw [if_pos h2,if_pos (by omega)];obtain ⟨m,hm⟩:∃ m,j-(o+i)=m+1:=⟨j-(o+i)-1,by omega⟩;rw [hm,List.getElem?_cons_succ];congr 1;omega
     ·rw [if_neg h2,if_neg (by omega),Array.getElem?_setIfInBounds_ne (Ne.symm hj)]
theorem zvm (P:Program) (t:TypeId):z5d P t=P.types[t]? :=by show nthI t P.types.toList=_;rw [zz0];simp
theorem z4f {P:Program} {t:TypeId} {i:TypeInfo} (h:z5d P t=some i):P.info? t=some i:=by
 rw [zvm] at h;have hlt:t<P.types.size:=by
  rcases Nat.lt_or_ge t P.types.size with h'|h'
  ·exact h'
  ·rw [Array.getElem?_eq_none h'] at h;cases h
 show Tables.info? P.toTables t=some i;unfold Tables.info?;rw [if_pos hlt];exact h
theorem zc5 {P:Program} {t:TypeId} {n:Nat} (h:zu P t=some n):∃ i,P.info? t=some i/\i.size=n:=by
 unfold zu at h
 cases hi:z5d P t with
 | none=>rw [hi] at h;cases h
 | some i=>rw [hi] at h;cases h;exact ⟨i,z4f hi,rfl⟩
theorem z3g {P:Program} {t:TypeId} {n:Nat} (h:zu P t=some n):P.cellsOf t=n:=by obtain ⟨i,hi,rfl⟩:=zc5 h;show ((P.info? t).map (·.size)).getD 0=_;rw [hi];rfl
theorem zpw {P:Program} {t:TypeId} {z:Value} (h:z54 P t=some z):∃ i,P.info? t=some i/\i.zero=some z:=by
 unfold z54 at h
 cases hi:z5d P t with
 | none=>rw [hi] at h;cases h
 | some i=>rw [hi] at h;exact ⟨i,z4f hi,h⟩
theorem z7q {P:Program} {t:TypeId} {d:TypeDesc} (h:undO P t=some d):P.underlying t=some d:=by
 unfold undO at h;unfold Program.underlying
 cases hi:z5d P t with
 | none=>rw [hi] at h;cases h
 | some i=>
   rw [hi] at h;rw [z4f hi];change undD i.desc i.desc P=some d at h;obtain ⟨desc,str,size,bytes,hp,al,fa,zero,cmp,ms⟩:=i
   cases desc with
   | named n u=>
     change zy7 (z5d P u)=some d at h
     cases hu:z5d P u with
     | none=>rw [hu] at h;cases h
     | some j=>rw [hu] at h;show (P.info? u).map _=_;rw [z4f hu];exact h
   | _=>exact h
section
variable {P:Program} {w:World}
theorem z1g {t:TypeId} {d:TypeDesc} (h:undO P t=some d):(underlying t).run P w=.ok d w:=run_underlying (z7q h) w
theorem zdg {t:TypeId} {i:TypeInfo} (h:P.info? t=some i):(typeInfo t).run P w=.ok i w:=by simp [typeInfo,h]
theorem z2o {t:TypeId} {n:Nat} (h:zu P t=some n):(sizeOf t).run P w=.ok n w:=by obtain ⟨i,hi,rfl⟩:=zc5 h;simp [sizeOf,zdg hi]
theorem z7k {t:TypeId} {z:Value} (h:z54 P t=some z):(zeroValue t).run P w=.ok z w:=by obtain ⟨i,hi,hz⟩:=zpw h;simp [zeroValue,zdg hi,hz]
theorem ztx {t:TypeId} {b:Bool} (h:aggT P t=some b):(isAgg t).run P w=.ok b w:=by
 unfold aggT at h
 cases hu:undO P t with
 | none=>rw [hu] at h;cases h
 | some d=>rw [hu] at h;change some (aggD d)=some b at h;cases h;simp only [isAgg,Sem.run_bind,z1g hu,Result.andThen_ok];cases d<;>rfl
theorem zmj {α:Type} {s:Sem α} {a:α} (h:still P s=.ok a):s.run P w=.ok a w:=by
 induction s with
 | pure b=>cases h;rfl
 | mark m k ih=>exact ih h
 | program k ih=>exact ih P h
 | halt x=>cases x<;>cases h
 | _=>cases h
theorem zal {α:Type} {s:Sem α} {v:Value} (h:still P s=.panic v):s.run P w=.halt (.panic v) w:=by
 induction s with
 | pure b=>cases h
 | mark m k ih=>exact ih h
 | program k ih=>exact ih P h
 | halt x=>cases x<;>cases h;rfl
 | _=>cases h
end
def zn (P:Program) (G:Glob) (M:Nat->Prop) (ρ:Env) (h:H) (w:World) (r:Result Value):Eff->Prop
 | .val v h'=>∃ ρ' w' x,r=.ok x w'/\VR ρ' v x/\Sim P G M ρ' h' w'/\Grow M ρ h w ρ' h' w'
 | .panic v=>∃ x,r=.halt (.panic x) w/\VR ρ v x
 | .bad=>True
 | _=>False
def zbf (P:Program) (G:Glob) (M:Nat->Prop) (ρ:Env) (h:H) (w:World) (r:Result Unit):Eff->Prop
 | .val v h'=>∃ ρ' w',r=.ok () w'/\v=z2h/\Sim P G M ρ' h' w'/\Grow M ρ h w ρ' h' w'
 | .panic v=>∃ x,r=.halt (.panic x) w/\VR ρ v x
 | .bad=>True
 | _=>False
def z3x (P:Program) (G:Glob) (M:Nat->Prop) (ρ:Env) (h:H) (w:World) (r:Result Next):Eff->Prop
 | .val v h'=>∃ ρ' w',Sim P G M ρ' h' w'/\Grow M ρ h w ρ' h' w'/\((∃ x,r=.ok (.value x) w'/\VR ρ' v x)∨(r=.ok .skip w'/\v=z2h))
 | .enter f args=>∃ args':Array Value,r=.ok (.enter f args') w/\VRL ρ args args'.toList
 | .round l args=>∃ (b:Loc) (args':Array Value),ρ l=some b/\r=(Instr.yield b.block args').run P w/\VRL ρ args args'.toList
 | .recover=>r=.ok .recover w
 | .defer d=>∃ d',r=.ok (.defer d') w/\DR ρ d d'
 | .panic v=>∃ x,r=.halt (.panic x) w/\VR ρ v x
 | .bad=>True
section
variable {P:Program} {G:Glob} {M:Nat->Prop} {ρ:Env} {h:H} {w:World}
theorem zn.eff {s:Sem Value} {e:Eff} (k:zn P G M ρ h w (s.run P w) e):z3x P G M ρ h w ((do pure (Next.value (<- s)):Sem Next).run P w) e:=by
 cases e with
 | val v h'=>
   obtain ⟨ρ',w',x,hr,hv,hs,hg⟩:=k
   exact ⟨ρ',w',hs,hg,.inl ⟨x,by simp only [Sem.run_bind,hr,Result.andThen_ok,Sem.run_pure],hv⟩⟩
 | panic v=>
   obtain ⟨x,hr,hv⟩:=k
   exact ⟨x,by simp only [Sem.run_bind,hr,Result.andThen_halt],hv⟩
 | bad=>trivial
 | _=>exact k.elim
theorem zbf.eff {s:Sem Unit} {e:Eff} (k:zbf P G M ρ h w (s.run P w) e):z3x P G M ρ h w ((do s;pure Next.skip:Sem Next).run P w) e:=by
 cases e with
 | val v h'=>
   obtain ⟨ρ',w',hr,hv,hs,hg⟩:=k
   exact ⟨ρ',w',hs,hg,.inr ⟨by simp only [Sem.run_bind,hr,Result.andThen_ok,Sem.run_pure],hv⟩⟩
 | panic v=>
   obtain ⟨x,hr,hv⟩:=k
   exact ⟨x,by simp only [Sem.run_bind,hr,Result.andThen_halt],hv⟩
 | bad=>trivial
 | _=>exact k.elim
theorem zn.quiet (s:Sim P G M ρ h w) {v:SV} {x:Value} {r:Result Value} (hr:r=.ok x w) (hv:VR ρ v x):zn P G M ρ h w r (.val v h):=
 ⟨ρ,w,x,hr,hv,s,.refl⟩
theorem zn.bad {r:Result Value}:zn P G M ρ h w r .bad:=trivial
theorem zn.still (s:Sim P G M ρ h w) (q:Sem Value):zn P G M ρ h w (q.run P w) (z2y P h q):=by
 unfold z2y
 cases hq:Play.still P q with
 | ok a=>exact .quiet s (zmj hq) (.lit a)
 | panic v=>exact ⟨v,zal hq,.lit v⟩
 | no=>trivial
theorem zn.alloc (s:Sim P G M ρ h w) {vs:List SV} {el:TypeId} {own:Bool} {xs:Array Value} {V:SV} {f:Nat->Value} {r:Result Value}
 (hr:r=.ok (f w.heap.size) { w with heap:=w.heap.push (.cells xs el) }) (hl:vs.length<=xs.size) (hx:∀ (i:Nat) (v:SV),vs[i]? =some v->∃ x:Value,xs[i]? =some x/\VR ρ v x)
 (hV:∀ ρ':Env,Env.le ρ ρ'->ρ' (nOf h)=some ⟨w.heap.size,0,xs.size,P.cellsOf el⟩->VR ρ' V (f w.heap.size)):
 zn P G M ρ h w r (.val V (hpush h (.cells vs el own))):=by
 let b:Loc:=⟨w.heap.size,0,xs.size,P.cellsOf el⟩;have hle:Env.le ρ (ρ.put (nOf h) b):=Env.put_le b s.none_at
 obtain ⟨hs,hg⟩:=s.alloc (b:=b) (ob:=.cells vs el own) (obj:=.cells xs el) rfl
  (.cells rfl (Nat.zero_mod _) (fun _=>rfl) (by simp [b]) (by simpa [b] using hl) fun i v hi=>by obtain ⟨x,h1,h2⟩:=hx i v hi;exact ⟨x,by simpa [b] using h1,h2.mono hle⟩)
 exact ⟨_,_,_,hr,hV _ hle (Env.put_self _ _ _),hs,hg⟩
end
end Go.Play
namespace Go.Play
section
variable {P:Program} {G:Glob} {M:Nat->Prop} {ρ:Env} {h:H} {w:World}
theorem ze9 {vs:List SV} {c:Array Value} {k off n:Nat} {l:List SV} (hv:∀ (i:Nat) (v:SV),vs[i]? =some v->∃ x:Value,c[k+i]? =some x/\VR ρ v x)
 (hl:zap n (zec off vs)=some l):∃ xs:List Value,xs.length=n/\VRL ρ l xs/\∀ (j:Nat) (v:Value),xs[j]? =some v->c[k+(off+j)]? =some v:=by
 obtain ⟨h1,rfl⟩:=zpm n hl;rw [zuz] at h1 ⊢;simp only [List.length_drop] at h1;have hlen:k+(off+n)<=c.size∨n=0:=by
  rcases Nat.eq_zero_or_pos n with h0|h0
  ·exact .inr h0
  ·left;have hlt:off+(n-1)<vs.length:=by omega
   obtain ⟨x,hx,_⟩:=hv (off+(n-1)) _ (List.getElem?_eq_getElem hlt);rcases Nat.lt_or_ge (k+(off+(n-1))) c.size with h2|h2
   ·omega
   ·rw [Array.getElem?_eq_none h2] at hx;cases hx
 have hxl:((c.toList.drop (k+off)).take n).length=n:=by simp only [List.length_take,List.length_drop,Array.length_toList];omega
 refine ⟨(c.toList.drop (k+off)).take n,hxl,VRL.of_get ?_ ?_,?_⟩
 ·rw [hxl];simp only [List.length_take,List.length_drop];omega
 ·intro i v hi;have hin:i<n:=by
   rcases Nat.lt_or_ge i n with h2|h2
   ·exact h2
   ·rw [List.getElem?_eq_none (by simp;omega)] at hi;cases hi
  rw [List.getElem?_take,if_pos hin,List.getElem?_drop] at hi;obtain ⟨x,hx,hr⟩:=hv _ _ hi;refine ⟨x,?_,hr⟩;rw [List.getElem?_take,if_pos hin,List.getElem?_drop,Array.getElem?_toList,Nat.add_assoc];exact hx
 ·intro j v hj;have hin:j<n:=by
   rcases Nat.lt_or_ge j n with h2|h2
   ·exact h2
   ·rw [List.getElem?_eq_none (by rw [hxl];exact h2)] at hj;cases hj
  rw [List.getElem?_take,if_pos hin,List.getElem?_drop,Array.getElem?_toList,Nat.add_assoc] at hj;exact hj
theorem z7f (s:Sim P G M ρ h w) {o:Pa} {b:Loc} {off n:Nat} {l:List SV} (hb:ρ o=some b) (hl:z5b (hget h o) off n=some l):
 ∃ xs:List Value,xs.length=n/\VRL ρ l xs/\∀ (j:Nat) (v:Value),xs[j]? =some v->w.cell? ⟨b.block,b.off+off+j,none⟩=some v:=by
 have hlive:=s.live o b hb
 cases ho:hget h o with
 | cells vs e own=>
   rw [ho] at hl hlive
   cases hk:w.heap[b.block]? with
   | none=>rw [hk] at hlive;cases hlive
   | some ob=>
     rw [hk] at hlive
     cases hlive with
     | cells hs hm hf hr hlen hv=>
       obtain ⟨xs,h1,h2,h3⟩:=ze9 hv (show zap n (zec off vs)=some l from hl)
       exact ⟨xs,h1,h2,fun j v hj=>by rw [zcf hk,Nat.add_assoc];exact h3 j v hj⟩
 | _=>rw [ho] at hl;cases hl
theorem zbp (s:Sim P G M ρ h w) {a:SV} {x:Value} {n:Nat} {l:List SV} (ha:VR ρ a x) (hl:zoi a G h n=some l):
 ∃ bk o,x=.pointer (some ⟨bk,o,none⟩)/\∃ xs:List Value,xs.length=n/\VRL ρ l xs/\∀ (j:Nat) (v:Value),xs[j]? =some v->w.cell? ⟨bk,o+j,none⟩=some v:=by
 cases a with
 | ptr o off=>
   cases ha with
   | ptr _ hb=>
     rename_i b
     exact ⟨b.block,b.off+off,rfl,z7f s hb hl⟩
 | lit v=>
   cases ha
   cases x with
   | pointer p=>
     cases p with
     | none=>cases hl
     | some p=>
       obtain ⟨g,off,spot⟩:=p
       cases spot with
       | some _=>cases hl
       | none=>
         refine ⟨g,off,rfl,?_⟩;change zxf (gfind G g) off n=some l at hl
         cases hg:gfind G g with
         | none=>rw [hg] at hl;cases hl
         | some cs=>
           rw [hg] at hl;obtain ⟨_,c,el,fr,hk,hv⟩:=s.globs g cs hg;obtain ⟨xs,h1,h2,h3⟩:=ze9 (k:=0) (fun i v hi=>by simpa using hv i v hi) (show zap n (zec off cs)=some l from hl)
           exact ⟨xs,h1,h2,fun j v hj=>by rw [zcf hk];simpa using h3 j v hj⟩
   | _=>cases hl
 | _=>cases hl
theorem zh0 {b:Bool} {l:List SV} {V:SV} {xs:List Value} (hl:VRL ρ l xs) (hV:zor (some b) l=some V):
 (b=true/\VR ρ V (.agg xs.toArray))∨(b=false/\∃ x,xs=[x]/\VR ρ V x):=by
 cases b with
 | true=>cases hV;exact .inl ⟨rfl,.agg (by simpa using hl)⟩
 | false=>
   right;change single l=some V at hV
   cases hl with
   | nil=>cases hV
   | cons h t=>
     cases t with
     | nil=>cases hV;exact ⟨rfl,_,rfl,h⟩
     | cons _ _=>cases hV
theorem zc3 {t:TypeId} {bk o:Nat} {xs:List Value} {b:Bool} (hb:aggT P t=some b) (hn:zu P t=some xs.length) (hx:∀ (j:Nat) (v:Value),xs[j]? =some v->w.cell? ⟨bk,o+j,none⟩=some v):
 (b=true->(loadVar t ⟨bk,o,none⟩).run P w=.ok (.agg xs.toArray) w)/\(b=false->∀ x,xs=[x]->(loadVar t ⟨bk,o,none⟩).run P w=.ok x w):=by
 constructor
 ·rintro rfl;have:=run_loadCells_list (P:=P) w ⟨bk,o,none⟩ xs (fun j v hj=>by rw [z67];exact hx j v hj);simp only [loadVar,Sem.run_bind,ztx hb,Result.andThen_ok,if_true,z2o hn,this,Sem.run_pure]
 ·rintro rfl x rfl;have h0:=hx 0 x rfl;simp only [Nat.add_zero] at h0;simp only [loadVar,Sem.run_bind,ztx hb,Result.andThen_ok,Bool.false_eq_true,if_false,run_load,h0]
theorem zyu (s:Sim P G M ρ h w) (ty:TypeId) {a:SV} {x:Value} (ha:VR ρ a x):
 zn P G M ρ h w ((Instr.loadAt ty x).run P w) (zsq (zoj (zu P ty) a G h) (aggT P ty) h):=by
 cases hn:zu P ty with
 | none=>exact .bad
 | some n=>
   change zn P G M ρ h w _ (zsq (zoi a G h n) (aggT P ty) h)
   cases hl:zoi a G h n with
   | none=>exact .bad
   | some l=>
     obtain ⟨bk,o,rfl,xs,hlen,hrel,hx⟩:=zbp s ha hl;change zn P G M ρ h w _ (valO (zor (aggT P ty) l) h)
     cases hb:aggT P ty with
     | none=>exact .bad
     | some b=>
       cases hV:zor (some b) l with
       | none=>exact .bad
       | some V=>
         obtain ⟨r1,r2⟩:=zc3 (b:=b) hb (by rw [hn,hlen]) hx;have e1:∀ y,(loadVar ty ⟨bk,o,none⟩).run P w=.ok y w->(Instr.loadAt ty (.pointer (some ⟨bk,o,none⟩))).run P w=.ok y w:=fun y hy=>by simp only [Instr.loadAt,Instr.sureAddr,Sem.run_bind,Sem.run_pure,Result.andThen_ok,hy]
         rcases zh0 hrel hV with ⟨hb',hv⟩|⟨hb',y,hy,hv⟩
         ·exact .quiet s (e1 _ (r1 hb')) hv
         ·exact .quiet s (e1 _ (r2 hb' y hy)) hv
theorem zhu (s:Sim P G M ρ h w) {o:Pa} {b:Loc} {off:Nat} {xs:List SV} {ys:List Value} (hb:ρ o=some b) (hy:VRL ρ xs ys) {K:H->Eff}
 {Q:Eff->Prop} (hbad:Q .bad)
 (hK:∀ h' w',(storeCells ⟨b.block,b.off+off,none⟩ ys).run P w=.ok () w'->Sim P G M ρ h' w'->Grow M ρ h w ρ h' w'->nOf h'=nOf h->Q (K h')):Q (zht h o off xs K):=by
 unfold zht;have hlive:=s.live o b hb
 cases ho:hget h o with
 | cells vs e own=>
   rw [ho] at hlive;change Q (store2 (andB own (oneL xs)) vs e h o off xs K);rw [z2u]
   cases own with
   | false=>exact hbad
   | true=>
     cases h1:oneL xs with
     | false=>exact hbad
     | true=>
       change Q (store3 (z5k off xs vs) h o e K)
       cases hv:z5k off xs vs with
       | none=>exact hbad
       | some vs'=>
         change Q (putE h o (.cells vs' e true) K);rw [ztp]
         cases hk:w.heap[b.block]? with
         | none=>rw [hk] at hlive;cases hlive
         | some ob=>
           rw [hk] at hlive
           cases hlive with
           | @cells _ _ _ _ c fr hs hm hf hr hlen hvs=>
             obtain rfl:fr=(0,0):=hf rfl;have hov:=z4w off xs hv;have hyl:=hy.length;obtain ⟨w',c',hrun,ht,hz,hc⟩:=z6d (P:=P) (o:=b.off+off) ys 0 c w hk (by omega) (zm4 hy h1);have hput:=s.put (w':=w') (ob:=.cells vs' e true) hb (by rw [ho];rfl) ht.os ht.tape ht.output ht.size ht.other (by
              rw [ht.here];refine .cells hs hm (fun _=>rfl) (by rw [hz];exact hr) (by rw [z7h hv];exact hlen) fun i v hi=>?_;rw [hc];rw [zbw hv] at hi;by_cases hin:off<=i/\i<off+xs.length
              ·rw [if_pos hin] at hi;rw [if_pos (by omega)];obtain ⟨x,hx,hr⟩:=hy.get _ _ hi;exact ⟨x,by rw [<- hx];congr 1;omega,hr⟩
              ·rw [if_neg hin] at hi;rw [if_neg (by omega)];exact hvs i v hi)
             exact hK _ _ hrun hput.1 hput.2 (z8c _ _ _)
 | _=>exact hbad
theorem zwu (s:Sim P G M ρ h w) (ty:TypeId) {a x:SV} {p y:Value} (ha:VR ρ a p) (hx:VR ρ x y):
 zbf P G M ρ h w ((Instr.storeAt ty p y).run P w) (zmk (zu P ty) a h (cellsOf x)):=by
 cases hn:zu P ty with
 | none=>exact trivial
 | some n=>
   change zbf P G M ρ h w _ (zxt (Nat.beq (lenS (cellsOf x)) n) a h (cellsOf x))
   cases hb:Nat.beq (lenS (cellsOf x)) n with
   | false=>exact trivial
   | true=>
     have hlen:(cellsOf x).length=n:=(by have:=Nat.eq_of_beq_eq_true hb;rwa [za1] at this);change zbf P G M ρ h w _ (zu3 a h (cellsOf x))
     cases a with
     | ptr o off=>
       cases ha with
       | ptr _ hb=>
         have hrel:=z6m hx;have hsz:y.cells.size=n:=(by rw [<- Array.length_toList,<-hrel.length,hlen]);refine zhu (Q:=zbf P G M ρ h w _) s hb hrel trivial fun h' w' hr hs hg _=>⟨ρ,w',?_,rfl,hs,hg⟩
         simp only [Instr.storeAt,Instr.sureAddr,Sem.run_bind,Sem.run_pure,Result.andThen_ok,storeVar,z2o hn,hsz,ne_eq,not_true_eq_false,if_false,hr]
     | _=>exact trivial
theorem zui (s:Sim P G M ρ h w) (el:TypeId):zn P G M ρ h w ((Instr.alloc el true (.tuple #[])).run P w) (zx5 (z54 P el) el h):=by
 cases hz:z54 P el with
 | none=>exact .bad
 | some z=>
   change zn P G M ρ h w _ (newE h (.cells (zt z) el true) fun i h=>.val (.ptr i 0) h);rw [z6u];have hrel:VRL ρ (zt z) z.cells.toList:=z31 z;refine .alloc (f:=fun k=>.pointer (some ⟨k,0,none⟩)) (xs:=z.cells) s ?_ ?_ (fun i v hi=>by simpa using hrel.get i v hi) fun ρ' _ hn=>.ptr 0 hn
   ·simp only [Instr.alloc,Sem.run_bind,z7k hz,Result.andThen_ok,newVar,newRow,run_newObj,Sem.run_pure]
   ·rw [hrel.length];simp
theorem zzy (s:Sim P G M ρ h w) (el:TypeId) {x:SV} {y:Value} (hx:VR ρ x y):
 zn P G M ρ h w ((Instr.box el y).run P w) (newE h (.cells (cellsOf x) el true) fun i h=>.val (.ptr i 0) h):=by
 rw [z6u];have hrel:=z6m hx;refine .alloc (f:=fun k=>.pointer (some ⟨k,0,none⟩)) (xs:=y.cells) s ?_ ?_ (fun i v hi=>by simpa using hrel.get i v hi) fun ρ' _ hn=>.ptr 0 hn
 ·simp only [Instr.box,Sem.run_bind,Result.andThen_ok,newVar,newRow,run_newObj,Sem.run_pure]
 ·rw [hrel.length];simp
end
end Go.Play
namespace Go.Play
section
variable {P:Program} {G:Glob} {M:Nat->Prop} {ρ:Env} {h:H} {w:World}
theorem z3x.quiet (s:Sim P G M ρ h w) {v:SV} {x:Value} {r:Result Next} (hr:r=.ok (.value x) w) (hv:VR ρ v x):z3x P G M ρ h w r (.val v h):=
 ⟨ρ,w,s,.refl,.inl ⟨x,hr,hv⟩⟩
theorem z3x.bad {r:Result Next}:z3x P G M ρ h w r .bad:=trivial
theorem zkb (s:Sim P G M ρ h w) {x:SV} {y:Value} (hx:VR ρ x y) {o:Oper} {ev:Operand->Value} {a:Operand} (ho:o.op=.nilCheck a) (hy:ev a=y):
 z3x P G M ρ h w ((execOp ev o).run P w) (z7d x P h):=by
 cases x with
 | ptr o off=>cases hx with|ptr _ hb=>exact .quiet s (by simp only [execOp,ho,hy,Sem.run_pure]) (.ptr off hb)
 | fn f a b=>cases hx with|fn ha hb=>exact .quiet s (by simp only [execOp,ho,hy,Sem.run_pure]) (.fn ha hb)
 | yld l=>cases hx with|yld hb=>exact .quiet s (by simp only [execOp,ho,hy,Sem.run_pure]) (.yld hb)
 | lit v=>
   cases hx
   cases y with
   | pointer p=>
     cases p with
     | some p=>exact .quiet s (by simp only [execOp,ho,hy,Sem.run_pure]) (.lit _)
     | none=>
       refine ⟨_,?_,.lit _⟩;simp only [execOp,ho,hy]
       rfl
   | _=>exact .bad
 | _=>exact .bad
theorem z3s {b:Bool} {e:Eff} {Q:Eff->Prop} (hbad:Q .bad) (hK:b=true->Q e):Q (ifB b e):=by
 cases b with
 | false=>exact hbad
 | true=>exact hK rfl
theorem zk1 (s:Sim P G M ρ h w) (fn:Fn) {a b:List SV} {a' b':Array Value} (ha:VRL ρ a a'.toList) (hb:VRL ρ b b'.toList):
 zn P G M ρ h w ((Instr.makeFunc fn a' b').run P w) (zlw fn h a b):=by
 cases fn with
 | func f=>exact .quiet s rfl (.fn ha hb)
 | _=>exact .bad
theorem zld {x:SV} {y:Value} {n:Nat} (hx:VR ρ x y) (h:asN x=some n):∃ k,y=.int k n:=by
 cases x with
 | lit v=>
   cases hx
   cases y with
   | int k z=>
     cases z with
     | ofNat m=>cases h;exact ⟨k,rfl⟩
     | negSucc m=>cases h
   | _=>cases h
 | _=>cases h
theorem zvf (xs:List Value) (hx:xs≠[] ) (c:Nat):∀ i,i<c*xs.length->(List.replicate c xs).flatten[i]? =xs[i%xs.length]? :=by
 have hpos:0<xs.length:=List.length_pos_iff.2 hx
 induction c with
 | zero=>intro i hi;simp at hi
 | succ c ih=>
   intro i hi;rw [List.replicate_succ,List.flatten_cons];by_cases h1:i<xs.length
   ·rw [List.getElem?_append_left h1,Nat.mod_eq_of_lt h1]
   ·rw [List.getElem?_append_right (by omega),ih _ (by rw [Nat.add_mul,Nat.one_mul] at hi;omega)];rw [show i%xs.length=(i-xs.length)%xs.length from Nat.mod_eq_sub_mod (by omega)]
theorem zx3 (z:Array Value) (c n:Nat) (hn:n=c*z.size):((Array.range n).map (z[· % z.size]!)).toList=(List.replicate c z.toList).flatten:=by
 apply List.ext_getElem?;intro i;by_cases hi:i<n
 ·have hz:z.toList≠[]:=fun e=>by
   have:z.size=0:=by rw [<- Array.length_toList,e];rfl
   rw [this] at hn;simp at hn;omega
  have hp:0<z.size:=by rw [<- Array.length_toList];exact List.length_pos_iff.2 hz
  rw [zvf z.toList hz c i (by rw [Array.length_toList,<-hn];exact hi)];have hm:i%z.size<z.size:=Nat.mod_lt _ hp;rw [Array.length_toList];simp [hi,hm]
 ·rw [List.getElem?_eq_none (by simp;omega),List.getElem?_eq_none];rw [List.length_flatten,List.map_replicate,List.sum_replicate_nat,Array.length_toList];omega
end
end Go.Play
namespace Go.Play
section
variable {P:Program} {G:Glob} {M:Nat->Prop} {ρ:Env} {h:H} {w:World}
theorem zef {d:Option TypeDesc} {f:Nat} {fd:Field} (h:nthD f (z9u d)=some fd):∃ fs,d=some (.struct fs)/\fs[f]? =some fd:=by
 cases d with
 | none=>rw [zd6] at h;cases h
 | some t=>
   cases t with
   | struct fs=>rw [zd6] at h;exact ⟨fs,rfl,by simpa [z9u] using h⟩
   | _=>rw [zd6] at h;cases h
theorem zee (s:Sim P G M ρ h w) (ty:TypeId) {x:SV} {y:Value} (hx:VR ρ x y) (f:Nat):
 zn P G M ρ h w ((Instr.fieldAt ty y f).run P w) (z5t x P h ty f):=by
 cases x with
 | ptr o off=>
   cases hx with
   | @ptr _ b _ hb=>
     change zn P G M ρ h w _ (zrg (nthD f (z9u (undO P ty))) P h o off)
     cases hf:nthD f (z9u (undO P ty)) with
     | none=>exact .bad
     | some fd=>
       obtain ⟨fs,hu,hfs⟩:=zef hf;change zn P G M ρ h w _ (zrh (zu P fd.type) h o (off+fd.offset))
       cases hn:zu P fd.type with
       | none=>exact .bad
       | some n=>
         cases n with
         | zero=>exact .bad
         | succ n=>
           refine .quiet s (x:=.pointer (some ⟨b.block,b.off+(off+fd.offset),none⟩)) ?_ (.ptr _ hb)
           simp only [Instr.fieldAt,Sem.run_bind,z1g hu,Result.andThen_ok,hfs,Instr.sureAddr,Sem.run_pure,fieldPlace,z2o hn,Nat.succ_ne_zero,if_false,Nat.add_eq_zero_iff,Nat.one_ne_zero,and_false,z67,Nat.add_assoc]
 | lit v=>cases hx;exact .still s _
 | _=>exact .bad
theorem z6e {d:Option TypeDesc} {e:TypeId} (h:z2p d=some e):d=some (.slice e):=by
 cases d with
 | none=>cases h
 | some t=>cases t<;>cases h;rfl
theorem zq4 {d:Option TypeDesc} {p:Nat×TypeId} (h:arrD d=some p):d=some (.array p.1 p.2):=by
 cases d with
 | none=>cases h
 | some t=>cases t<;>cases h;rfl
theorem zgk (s:Sim P G M ρ h w) (ty:TypeId) {x i:SV} {y j:Value} (hx:VR ρ x y) (hi:VR ρ i j):
 zn P G M ρ h w ((Instr.indexAt ty y j).run P w) (idx1 x P h ty i):=by
 cases x with
 | slc o off n cap ex=>
   cases hx with
   | @slc _ b _ _ _ _ cap' hb hc he hr=>
     change zn P G M ρ h w _ (idxN (asN i) fun i=>idxS (z2p (undO P ty)) P h o off n i)
     cases hN:asN i with
     | none=>exact .bad
     | some i'=>
       obtain ⟨k,rfl⟩:=zld hi hN;change zn P G M ρ h w _ (idxS (z2p (undO P ty)) P h o off n i')
       cases he':z2p (undO P ty) with
       | none=>exact .bad
       | some el=>
         have hu:=z6e he';change zn P G M ρ h w _ (idxE (Nat.ble (Nat.succ i') n) (zu P el) h o off i')
         cases hlt:Nat.ble (Nat.succ i') n with
         | false=>exact .bad
         | true=>
           have hlt':i'<n:=Nat.le_of_ble_eq_true hlt;change zn P G M ρ h w _ (idxF (zu P el) h o off i')
           cases hn:zu P el with
           | none=>exact .bad
           | some z=>
             refine .quiet s (x:=.pointer (some ⟨b.block,b.off+(off+i'*z),none⟩)) ?_ (.ptr _ hb);have h0:(0:Int)<=(i':Int)/\(i':Int)<(n:Int):=by omega
             simp only [Instr.indexAt,Sem.run_bind,asIntOf,z1g hu,Result.andThen_ok,Sem.run_pure,h0,and_self,if_true,z2o hn,z67,Int.toNat_natCast,Nat.add_assoc]
 | ptr o off=>
   cases hx with
   | @ptr _ b _ hb=>
     change zn P G M ρ h w _ (idxN (asN i) fun i=>idxA (arrD (undO P ty)) P h o off i)
     cases hN:asN i with
     | none=>exact .bad
     | some i'=>
       obtain ⟨k,rfl⟩:=zld hi hN;change zn P G M ρ h w _ (idxA (arrD (undO P ty)) P h o off i')
       cases he':arrD (undO P ty) with
       | none=>exact .bad
       | some p=>
         have hu:=zq4 he';obtain ⟨n,el⟩:=p;change zn P G M ρ h w _ (idxE (Nat.ble (Nat.succ i') n) (zu P el) h o off i')
         cases hlt:Nat.ble (Nat.succ i') n with
         | false=>exact .bad
         | true=>
           have hlt':i'<n:=Nat.le_of_ble_eq_true hlt;change zn P G M ρ h w _ (idxF (zu P el) h o off i')
           cases hn:zu P el with
           | none=>exact .bad
           | some z=>
             refine .quiet s (x:=.pointer (some ⟨b.block,b.off+(off+i'*z),none⟩)) ?_ (.ptr _ hb);have h0:(0:Int)<=(i':Int)/\(i':Int)<(n:Int):=by omega
             simp only [Instr.indexAt,Instr.sureAddr,Sem.run_bind,asIntOf,z1g hu,Result.andThen_ok,Sem.run_pure,h0,and_self,if_true,z2o hn,z67,Int.toNat_natCast,Nat.add_assoc]
 | lit v=>
   cases hx;change zn P G M ρ h w _ (idxL (litO i) P h ty y)
   cases i with
   | lit u=>cases hi;exact .still s _
   | _=>exact .bad
 | _=>exact .bad
theorem zob {d:Option TypeDesc} (h:z00e d=true):d=some .string:=by
 cases d with
 | none=>cases h
 | some t=>cases t<;>cases h;rfl
end
end Go.Play
namespace Go.Play
section
variable {P:Program} {G:Glob} {M:Nat->Prop} {ρ:Env} {h:H} {w:World}
theorem zrp (off:Nat):∀ (vs:List Value) (k:Nat) (c:Array Value),
 ((vs.zipIdx k).foldl (fun (cs:Array Value) (p:Value×Nat)=>cs.setIfInBounds (off+p.2) p.1) c).size=c.size/\
 ∀ j:Nat,((vs.zipIdx k).foldl (fun (cs:Array Value) (p:Value×Nat)=>cs.setIfInBounds (off+p.2) p.1) c)[j]? =if off+k<=j/\j<off+k+vs.length/\j<c.size then vs[j-(off+k)]? else c[j]? :=by
 intro vs
 induction vs with
 | nil=>intro k c;exact ⟨rfl,fun j=>by rw [if_neg (by simp only [List.length_nil];omega)];rfl⟩
 | cons v vs ih=>
   intro k c;obtain ⟨h1,h2⟩:=ih (k+1) (c.setIfInBounds (off+k) v);simp only [List.zipIdx_cons,List.foldl_cons];refine ⟨by rw [h1];simp,fun j=>?_⟩;rw [h2];simp only [List.length_cons,Array.size_setIfInBounds];by_cases hj:j=off+k
   ·subst hj;rw [if_neg (by omega)];by_cases hs:off+k<c.size
    ·rw [if_pos (by omega)];simp [hs]
    ·rw [if_neg (by omega),Array.getElem?_eq_none (by simpa using hs),Array.getElem?_eq_none (by simpa using hs)]
   ·by_cases h3:off+(k+1)<=j/\j<off+(k+1)+vs.length/\j<c.size
    ·rw [if_pos h3,if_pos (by omega)];obtain ⟨m,hm⟩:∃ m,j-(off+k)=m+1:=⟨j-(off+k)-1,by omega⟩;rw [hm,List.getElem?_cons_succ];congr 1;omega
    ·rw [if_neg h3,if_neg (by omega),Array.getElem?_setIfInBounds_ne (Ne.symm hj)]
theorem ziy {t:T SV} {ev:Operand->Value} (hev:∀ x,VR ρ (Play.ev x t) (ev x)) {place:Nat->Option (Nat×Nat)}:∀ (l:List (Nat×Operand)) {cells r:List SV} {zs:Array Value},fill l t place cells=some r->VRL ρ cells zs.toList->
 ∃ ys:Array Value,Instr.fill place zs (l.map fun p=>(p.1,ev p.2))=some ys/\VRL ρ r ys.toList:=by
 intro l
 induction l with
 | nil=>intro cells r zs h k;cases h;exact ⟨zs,rfl,k⟩
 | cons p l ih=>
   intro cells r zs hf hz;obtain ⟨i,x⟩:=p;change fill1 (place i) (cellsOf (Play.ev x t)) cells (fill l t place)=some r at hf
   cases hp:place i with
   | none=>rw [hp] at hf;cases hf
   | some q=>
     obtain ⟨off,size⟩:=q;rw [hp] at hf;change fill2 (Nat.beq (lenS (cellsOf (Play.ev x t))) size) off (cellsOf (Play.ev x t)) cells (fill l t place)=some r at hf
     cases hb:Nat.beq (lenS (cellsOf (Play.ev x t))) size with
     | false=>rw [hb] at hf;cases hf
     | true=>
       rw [hb] at hf;change fill3 (z5k off (cellsOf (Play.ev x t)) cells) (fill l t place)=some r at hf
       cases hov:z5k off (cellsOf (Play.ev x t)) cells with
       | none=>rw [hov] at hf;cases hf
       | some cs=>
         rw [hov] at hf;change fill l t place cs=some r at hf;have hrel:=z6m (hev x);have hlen:(ev x).cells.size=size:=by rw [<- Array.length_toList,<-hrel.length,<-za1];exact Nat.eq_of_beq_eq_true hb
         obtain ⟨h1,_⟩:=z4w off _ hov;have hzl:=hz.length;rw [hrel.length,Array.length_toList,hlen,hzl,Array.length_toList] at h1;obtain ⟨f1,f2⟩:=zrp off (ev x).cells.toList 0 zs;let zs':=((ev x).cells.toList.zipIdx 0).foldl (fun (cs:Array Value) (p:Value×Nat)=>cs.setIfInBounds (off+p.2) p.1) zs;have hz':VRL ρ cs zs'.toList:=by
          refine VRL.of_get ?_ fun j v hj=>?_
          ·rw [z7h hov,hzl,Array.length_toList,Array.length_toList];exact f1.symm
          ·have e:zs'.toList[j]? =zs'[j]? :=(by simp);rw [e,f2 j];rw [zbw hov] at hj;by_cases h2:off<=j/\j<off+(cellsOf (Play.ev x t)).length
           ·rw [if_pos h2] at hj;have h2':=h2.2;rw [hrel.length] at h2';rw [if_pos ⟨by omega,by omega,by rw [Array.length_toList,hlen] at h2';omega⟩];exact hrel.get _ _ hj
           ·rw [if_neg h2] at hj;rw [if_neg (by rw [<- hrel.length];omega)];obtain ⟨y,hy,hv⟩:=hz.get _ _ hj;exact ⟨y,by simpa using hy,hv⟩
         obtain ⟨ys,hy1,hy2⟩:=ih hf hz';refine ⟨ys,?_,hy2⟩;rw [<- hy1];show Instr.fill place zs ((i,ev x)::l.map fun p=>(p.1,ev p.2))=_;rw [Instr.fill,hp];simp only [hlen];rw [if_neg (by simp;omega)]
         congr 1
         rw [<- Array.foldl_toList,Array.toList_zipIdx]
theorem zwo {α β:Type} {f:α->Sem β} {g:α->β}:∀ (l:List α),(∀ a∈l,(f a).run P w=.ok (g a) w)->(l.mapM f).run P w=.ok (l.map g) w:=by
 intro l
 induction l with
 | nil=>intro _;rfl
 | cons a l ih=>intro hl;rw [List.mapM_cons];simp only [Sem.run_bind,hl a (by simp),Result.andThen_ok,ih (fun b hb=>hl b (by simp [hb])),Sem.run_pure,List.map_cons]
theorem zbd {α β:Type} {f:α->Sem β} {g:α->β} (l:Array α) (hl:∀ a∈l.toList,(f a).run P w=.ok (g a) w):(l.mapM f).run P w=.ok (l.map g) w:=by
 rw [Array.mapM_eq_mapM_toList];simp only [Sem.run_map,zwo l.toList hl,Result.andThen_ok]
 congr 1
 apply Array.ext';simp
theorem zpy (s:Sim P G M ρ h w) {o:Option (List SV)} {r:Result Value} (hr:∀ l,o=some l->∃ ys:Array Value,r=.ok (.agg ys) w/\VRL ρ l ys.toList):zn P G M ρ h w r (aggE o h):=by
 cases o with
 | none=>exact .bad
 | some l=>obtain ⟨ys,h1,h2⟩:=hr l rfl;exact .quiet s h1 (.agg h2)
theorem zuq (s:Sim P G M ρ h w) (ty:TypeId) {t:T SV} {ev:Operand->Value} (hev:∀ x,VR ρ (Play.ev x t) (ev x)) (p:Array (Nat×Operand)):
 zn P G M ρ h w ((Instr.build ty (p.map fun (i,x)=>(i,ev x))).run P w) (build1 (z54 P ty) ty P t h p.toList):=by
 cases hz:z54 P ty with
 | none=>exact .bad
 | some z=>
   change zn P G M ρ h w _ (build2 (undO P ty) P t h p.toList (zt z));have hrel:VRL ρ (zt z) z.cells.toList:=z31 z;have hpl:(p.map fun (i,x)=>(i,ev x)).toList=p.toList.map fun q=>(q.1,ev q.2):=by simp
   cases hu:undO P ty with
   | none=>exact .bad
   | some d=>
     cases d with
     | struct fields=>
       refine z3s (Q:=zn P G M ρ h w _) (e:=aggE (fill p.toList t (fun i=>ztl (nthD i fields.toList) P) (zt z)) h) .bad fun hk=>?_;have hsz:∀ f∈fields.toList,(zu P f.type).isSome=true:=fun f hf=>List.all_eq_true.1 (show (fields.toList.all fun f=>(zu P f.type).isSome)=true from hk) f hf;refine zpy s fun l hl=>?_;obtain ⟨ys,hy1,hy2⟩:=ziy hev p.toList hl hrel;refine ⟨ys,?_,hy2⟩;have hm:=zbd (P:=P) (w:=w) (f:=fun f:Field=>(do pure (f.offset,<-sizeOf f.type):Sem (Nat×Nat))) (g:=fun f=>(f.offset,P.cellsOf f.type)) fields (fun f hf=>by
        have:=hsz f hf
        cases hn:zu P f.type with
        | none=>rw [hn] at this;cases this
        | some n=>simp only [Sem.run_bind,z2o hn,Result.andThen_ok,Sem.run_pure,z3g hn])
       have hplace:(fun i=>ztl (nthD i fields.toList) P)=fun i=>(fields.map fun f=>(f.offset,P.cellsOf f.type))[i]? :=by
        funext i;rw [zd6];simp only [Array.getElem?_map,Array.getElem?_toList]
        cases hf:fields[i]? with
        | none=>rfl
        | some f=>
          have:=hsz f (List.mem_of_getElem? (by simpa using hf));show zxo (zu P f.type) f.offset=_
          cases hn:zu P f.type with
          | none=>rw [hn] at this;cases this
          | some n=>rw [<- z3g hn];rfl
       rw [hplace] at hy1
       simp only [Instr.build,Sem.run_bind,z7k hz,z1g hu,Result.andThen_ok,hm,hpl,hy1,Sem.run_pure]
     | array n el=>
       change zn P G M ρ h w _ (build3 (zu P el) t h p.toList (zt z))
       cases hn:zu P el with
       | none=>exact .bad
       | some size=>
         change zn P G M ρ h w _ (aggE (fill p.toList t (zc0 size) (zt z)) h);refine zpy s fun l hl=>?_;obtain ⟨ys,hy1,hy2⟩:=ziy hev p.toList hl hrel;refine ⟨ys,?_,hy2⟩;have hplace:zc0 size=fun i=>some (i*size,size):=rfl;rw [hplace] at hy1
         simp only [Instr.build,Sem.run_bind,z7k hz,z1g hu,Result.andThen_ok,z2o hn,hpl,hy1,Sem.run_pure]
     | _=>exact .bad
theorem zce (s:Sim P G M ρ h w) (ty:TypeId) (n:Nat) {t:T SV} {ev:Operand->Value} (hev:∀ x,VR ρ (Play.ev x t) (ev x)) (p:Array (Nat×Operand)):
 zn P G M ρ h w ((Instr.buildSlice ty n (p.map fun (i,x)=>(i,ev x))).run P w) (bslice1 (z2p (undO P ty)) n P t h p.toList):=by
 have hpl:(p.map fun (i,x)=>(i,ev x)).toList=p.toList.map fun q=>(q.1,ev q.2):=by simp
 cases he:z2p (undO P ty) with
 | none=>exact .bad
 | some el=>
   have hu:=z6e he;unfold bslice1;simp only []
   cases hz:z54 P el with
   | none=>exact .bad
   | some z=>
     cases hs:zu P el with
     | none=>exact .bad
     | some size=>
       unfold bslice2;simp only [];refine z3s (Q:=zn P G M ρ h w _) .bad fun hk=>?_;simp only [Bool.and_eq_true] at hk;obtain ⟨k1,k2⟩:=hk;have k1:(zt z).length=size:=(by rw [<- za1];exact Nat.eq_of_beq_eq_true k1);have k2:n*size<=16777216:=Nat.le_of_ble_eq_true k2;have hrel:VRL ρ (zt z) z.cells.toList:=z31 z;have hzs:z.cells.size=size:=by rw [<- Array.length_toList,<-hrel.length];exact k1
       cases hf:fill p.toList t (zc0 size) (repS n (zt z)) with
       | none=>exact .bad
       | some cs=>
         unfold bslice4;simp only [];rw [z6u];let zs:Array Value:=if n*size=0 then #[] else z.cells
         let xs:Array Value:=(Array.range (n*size)).map (zs[· % zs.size]!);have hxl:xs.toList=(List.replicate n z.cells.toList).flatten:=by
          show ((Array.range (n*size)).map _).toList=_;by_cases h0:n*size=0
          ·have e0:∀ f:Nat->Value,((Array.range 0).map f).toList=[]:=fun f=>by simp
           rw [h0,e0];rcases Nat.mul_eq_zero.1 h0 with h5|h5
           ·rw [h5];rfl
           ·have:z.cells.toList=[]:=List.eq_nil_of_length_eq_zero (by rw [Array.length_toList,hzs,h5]);rw [this];simp
          ·have:zs=z.cells:=if_neg h0;rw [this];exact zx3 z.cells n _ (by rw [hzs])
         have hxr:VRL ρ (repS n (zt z)) xs.toList:=(by rw [zzc,hxl];exact hrel.flatten_replicate n);obtain ⟨ys,hy1,hy2⟩:=ziy hev p.toList hf hxr;have hplace:zc0 size=fun i=>some (i*size,size):=rfl;rw [hplace] at hy1;refine .alloc (f:=fun k=>.slice (some ⟨k,0,none⟩) n n) (xs:=ys) s ?_ ?_ ?_ ?_
         ·have hle:¬ (n*size>2^24):=(by omega);simp only [Instr.buildSlice,Sem.run_bind,z1g hu,Result.andThen_ok,z2o hs,hle,if_false];by_cases h0:n*size=0
          ·have:zs= #[]:=if_pos h0;simp only [xs,this] at hy1;simp only [h0,if_true,Sem.run_bind,Sem.run_pure,Result.andThen_ok,hpl] at hy1 ⊢;simp only [hy1,Sem.run_bind,newRow,run_newObj,Result.andThen_ok,Sem.run_pure]
          ·have:zs=z.cells:=if_neg h0;simp only [xs,this] at hy1;simp only [h0,if_false,Sem.run_bind,z7k hz,Sem.run_pure,Result.andThen_ok,hpl,hy1,newRow,run_newObj]
         ·rw [hy2.length];simp
         ·intro j v hj;obtain ⟨x,hx,hv⟩:=hy2.get j v hj;exact ⟨x,by simpa using hx,hv⟩
         ·intro ρ' _ hn;have:=VR.slc (ρ:=ρ') 0 n n true n hn (Nat.le_refl _) (fun _=>rfl) (fun e=>by cases e);simpa using this
end
end Go.Play
namespace Go.Play
section
variable {P:Program} {G:Glob} {M:Nat->Prop} {ρ:Env} {h:H} {w:World}
theorem z5a {ts:Array TypeId} {t:TypeId} (h:argT ts=some t):ts[0]? =some t:=by
 obtain ⟨l⟩:=ts
 cases l with
 | nil=>cases h
 | cons a l=>cases h;rfl
theorem zmw {ts:Array TypeId} {t:TypeId} (h:zy0 ts=some t):ts[1]? =some t:=by
 obtain ⟨l⟩:=ts
 cases l with
 | nil=>cases h
 | cons a l=>cases l with
   | nil=>cases h
   | cons b l=>cases h;rfl
theorem z4m {t:Option TypeId} {d:TypeDesc} (h:undT t P=some d):∃ t',t=some t'/\undO P t'=some d:=by
 cases t with
 | none=>cases h
 | some t=>exact ⟨t,rfl,h⟩
theorem ze0 (s:ByteArray):VRL ρ (z7u s) (s.data.toList.map fun b=>Value.int .u8 b.toNat):=by
 unfold z7u
 induction s.data.toList with
 | nil=>exact .nil
 | cons b l ih=>exact .cons (.lit _) ih
theorem z35 {a:Addr} {xs:List Value} {n:Nat} (hn:xs.length=n) (hx:∀ (j:Nat) (v:Value),xs[j]? =some v->w.cell? (a.add j)=some v):(loadCells a n).run P w=.ok xs.toArray w:=by subst hn;exact run_loadCells_list w a xs hx
theorem zcq (s:Sim P G M ρ h w) {x:SV} {y:Value} (hx:VR ρ x y) {size n:Nat} {l:List SV} (hl:zho x h size=some l) (hn:lenV x=some n):
 ∃ ys:Array Value,VRL ρ l ys.toList/\∀ w':World,w'.heap=w.heap->(Builtin.firstCells size n y).run P w'=.ok ys w'/\(Builtin.lenOf y).run P w'=.ok n w':=by
 cases x with
 | slc o off len cap ex=>
   cases hx with
   | @slc _ b _ _ _ _ cap' hb hc he hr=>
     cases hn;obtain ⟨xs,h1,h2,h3⟩:=z7f s hb (show z5b (hget h o) off (n*size)=some l from hl);refine ⟨xs.toArray,by simpa using h2,fun w' hw=>⟨?_,rfl⟩⟩;show (loadCells _ (n*size)).run P w'=_;refine z35 h1 fun j v hj=>?_;rw [z67];have:=h3 j v hj;unfold World.cell? at this ⊢
     rw [hw];exact this
 | eslc=>
   cases hx with
   | eslc a c=>cases hn;cases hl;exact ⟨#[],.nil,fun w' hw=>⟨by show (loadCells a (0*size)).run P w'=_;rw [Nat.zero_mul];rfl,rfl⟩⟩
 | lit v=>
   cases hx
   cases y with
   | slice a len cap=>
     cases a with
     | none=>
       cases len with
       | zero=>cases hn;cases hl;exact ⟨#[],.nil,fun w' hw=>⟨rfl,rfl⟩⟩
       | succ k=>cases hl
     | some a=>cases hl
   | string str=>
     cases hn;cases hl;refine ⟨str.data.map fun b=>.int .u8 b.toNat,?_,fun w' hw=>⟨?_,rfl⟩⟩
     ·rw [Array.toList_map];exact ze0 str
     ·have e:str.extract 0 str.size=str:=ByteArray.extract_zero_size
      simp only [Builtin.firstCells,e,Sem.run_pure]
   | _=>cases hl
 | _=>cases hl
theorem zs0 (n:Nat):∀ (r c:Nat),c<=n+(n+768) / 4->Builtin.growBy n r c<=n+(n+768) / 4:=by
 intro r
 induction r with
 | zero=>intro c h;exact h
 | succ r ih=>
   intro c h;unfold Builtin.growBy;split
   ·exact h
   ·exact ih _ (by omega)
theorem za6 {n c:Nat} (h:c<n):Builtin.nextslicecap n c<=2*n+768:=by
 unfold Builtin.nextslicecap;split
 ·omega
 ·split
  ·omega
  ·have:=zs0 n 4 c (by omega);omega
theorem z6c {ts:Array TypeId} {sT xT elem ty:TypeId} {i:TypeInfo} {base:Option Addr} {sLen sCap n:Nat} {x' z:Value} {old' new':Array Value} {d:TypeDesc}
 (h0:ts[0]? =some sT) (h1:ts[1]? =some xT) (hs:undO P sT=some (.slice elem)) (hxT:undO P xT=some d) (hd:zw3 (some d)=true) (hi:z5d P elem=some i) (hz:i.zero=some z) (hb:i.bytes<=1048576)
 (hlen:∀ w':World,w'.heap=w.heap->(Builtin.lenOf x').run P w'=.ok n w') (hnew:∀ w':World,w'.heap=w.heap->(Builtin.firstCells i.size n x').run P w'=.ok new' w')
 (hold:∀ w':World,w'.heap=w.heap->(Builtin.firstCells i.size sLen (.slice base sLen sCap)).run P w'=.ok old' w') (hcap:sCap<sLen+n) (hneed:sLen+n<=16777216):
 ∃ newCap,(sLen+n<=newCap/\newCap<=9223372036854775807)/\(Builtin.append_ ts ty #[.slice base sLen sCap,x']).run P w=
  .ok (.slice (some ⟨w.heap.size,0,none⟩) (sLen+n) newCap) { w with drawn:=w.drawn+1,heap:=w.heap.push (.cells (old'++new'++Builtin.zeroCells z.cells (newCap-(sLen+n))) elem) }:=by
 have hsz:zu P elem=some i.size:=by unfold zu;rw [hi];rfl
 have hzr:z54 P elem=some z:=by unfold z54;rw [hi];exact hz
 have hzeros:(match d with|.int _=>true|_=>false)=false:=by cases d<;>first|rfl|cases hd
 let q:Question:=.appendCap (sLen+n) sCap elem;refine ⟨q.cut (w.tape w.drawn q),?_,?_⟩
 ·have hlt:=Nat.mod_lt (w.tape w.drawn q) (show 0<2^63-(sLen+n) by omega);show sLen+n<=(sLen+n)+(w.tape w.drawn q)%(2^63-(sLen+n))/\(sLen+n)+(w.tape w.drawn q)%(2^63-(sLen+n))<=9223372036854775807;omega
 ·have hnc:=za6 hcap;have e1:¬ (sLen+n<=sCap):=by omega
  have e3:¬ (Builtin.nextslicecap (sLen+n) sCap*i.bytes>2^48):=by have:Builtin.nextslicecap (sLen+n) sCap*i.bytes<=33555200*1048576:=Nat.mul_le_mul (by omega) hb;omega
  have e2:¬ (((sLen+n:Nat):Int)>IntKind.i64.max):=by
   have:IntKind.i64.max=9223372036854775807:=by decide
   rw [this];omega
  have hf:q.forced=false:=rfl;have hw1:=hold { w with drawn:=w.drawn+1 } rfl;have hw2:=hnew { w with drawn:=w.drawn+1 } rfl;have hz1:∀ w':World,(zeroValue elem).run P w'=.ok z w':=fun w'=>z7k hzr;have hl0:=hlen w rfl;simp only [Builtin.append_,h0,h1,List.getElem?_toArray,List.getElem?_cons_zero,List.getElem?_cons_succ,Sem.run_bind,z1g hs,Result.andThen_ok,z2o hsz,z1g hxT,Sem.run_pure,hzeros,hl0]
  cases d with
  | int k=>cases hd
  | _=>simp only [Bool.false_eq_true,if_false,Sem.run_bind,hl0,Result.andThen_ok,e1,e2,e3,false_and,zdg (z4f hi),run_choose,hf,run_askRoom,hw1,hw2,hz1,Bool.not_false,if_true,newRow,run_newObj,Sem.run_pure,q]
theorem z6b {ts:Array TypeId} {sT xT elem ty:TypeId} {i:TypeInfo} {a:Addr} {sLen sCap n:Nat} {x':Value} {new':Array Value} {d:TypeDesc} {w':World}
 (h0:ts[0]? =some sT) (h1:ts[1]? =some xT) (hs:undO P sT=some (.slice elem)) (hxT:undO P xT=some d) (hd:zw3 (some d)=true) (hi:z5d P elem=some i)
 (hlen:(Builtin.lenOf x').run P w=.ok n w) (hnew:(Builtin.firstCells i.size n x').run P w=.ok new' w) (hcap:sLen+n<=sCap) (hst:(storeCells (a.add (sLen*i.size)) new'.toList).run P w=.ok () w'):
 (Builtin.append_ ts ty #[.slice (some a) sLen sCap,x']).run P w=.ok (.slice (some a) (sLen+n) sCap) w':=by
 have hsz:zu P elem=some i.size:=by unfold zu;rw [hi];rfl
 simp only [Builtin.append_,h0,h1,List.getElem?_toArray,List.getElem?_cons_zero,List.getElem?_cons_succ,Sem.run_bind,z1g hs,Result.andThen_ok,z2o hsz,z1g hxT,Sem.run_pure,hlen]
 cases d with
 | int k=>cases hd
 | _=>simp only [Bool.false_eq_true,if_false,Sem.run_bind,hlen,Result.andThen_ok,hcap,if_true,hnew,Bool.not_false,hst,Sem.run_pure]
theorem zbb {ts:Array TypeId} {sT xT elem ty:TypeId} {i:TypeInfo} {x':Value} {new':Array Value} {d:TypeDesc}
 (h0:ts[0]? =some sT) (h1:ts[1]? =some xT) (hs:undO P sT=some (.slice elem)) (hxT:undO P xT=some d) (hd:zw3 (some d)=true) (hi:z5d P elem=some i)
 (hlen:(Builtin.lenOf x').run P w=.ok 0 w) (hnew:(Builtin.firstCells i.size 0 x').run P w=.ok new' w):
 (Builtin.append_ ts ty #[.slice none 0 0,x']).run P w=.ok (.slice none 0 0) w:=by
 have hsz:zu P elem=some i.size:=by unfold zu;rw [hi];rfl
 simp only [Builtin.append_,h0,h1,List.getElem?_toArray,List.getElem?_cons_zero,List.getElem?_cons_succ,Sem.run_bind,z1g hs,Result.andThen_ok,z2o hsz,z1g hxT,Sem.run_pure,hlen]
 cases d with
 | int k=>cases hd
 | _=>simp only [Bool.false_eq_true,if_false,Sem.run_bind,hlen,Result.andThen_ok,Nat.add_zero,Nat.le_refl,if_true,hnew,Bool.not_false,Sem.run_pure]
theorem zbh (s:Sim P G M ρ h w) {cs:List SV} {ys zs:Array Value} {el:TypeId} {need newCap size:Nat} {r:Result Value} (hrel:VRL ρ cs ys.toList) (hle:need<=newCap/\newCap<=9223372036854775807)
 (hys:ys.size=need*size) (hzs:zs.size=(newCap-need)*size) (hes:P.cellsOf el=size)
 (hr:r=.ok (.slice (some ⟨w.heap.size,0,none⟩) need newCap) { w with drawn:=w.drawn+1,heap:=w.heap.push (.cells (ys++zs) el) }):
 zn P G M ρ h w r (.val (.slc (nOf h) 0 need need false) (hpush h (.cells cs el true))):=by
 have hs1:Sim P G M ρ h { w with drawn:=w.drawn+1 }:=s.drew rfl;have hg1:Grow M ρ h w ρ h { w with drawn:=w.drawn+1 }:=.drew rfl rfl rfl rfl;have hsum:need*size+(newCap-need)*size=newCap*size:=by rw [<- Nat.add_mul];congr 1;have:=hle.1;omega
 have key:zn P G M ρ h { w with drawn:=w.drawn+1 } r (.val (.slc (nOf h) 0 need need false) (hpush h (.cells cs el true))):=by
  refine .alloc (f:=fun k=>.slice (some ⟨k,0,none⟩) need newCap) (xs:=ys++zs) hs1 hr ?_ ?_ ?_
  ·rw [hrel.length,Array.length_toList,Array.size_append];omega
  ·intro i v hi;obtain ⟨x,hx,hv⟩:=hrel.get i v hi;have hlt:i<ys.size:=by
    rcases Nat.lt_or_ge i ys.size with h1|h1
    ·exact h1
    ·rw [List.getElem?_eq_none (by simpa using h1)] at hx;cases hx
   exact ⟨x,by rw [Array.getElem?_append_left hlt];simpa using hx,hv⟩
  ·intro ρ' _ hn;have:=VR.slc (ρ:=ρ') 0 need need false newCap hn hle.1 (fun e=>by cases e) (fun _=>⟨by
    show 0+newCap*P.cellsOf el<=(ys++zs).size;rw [hes,Array.size_append,hys,hzs,hsum,Nat.zero_add];exact Nat.le_refl _,hle.2⟩)
   simpa using this
 obtain ⟨ρ',w',x,h1,h2,h3,h4⟩:=key;exact ⟨ρ',w',x,h1,h2,h3,hg1.trans h4⟩
theorem zq3 (s:Sim P G M ρ h w) (ts:Array TypeId) (ty:TypeId) {x y:SV} {x' y':Value} (hx:VR ρ x x') (hy:VR ρ y y'):
 zn P G M ρ h w ((Builtin.append_ ts ty #[x',y']).run P w) (zcd P h ts x y):=by
 unfold zcd;refine z3s (Q:=zn P G M ρ h w _) .bad fun hni=>?_
 cases hd2:undT (zy0 ts) P with
 | none=>rw [hd2] at hni;cases hni
 | some d=>
   rw [hd2] at hni;obtain ⟨xT,h1',hxT⟩:=z4m hd2;have h1:=zmw h1'
   cases hd1:undT (argT ts) P with
   | none=>exact .bad
   | some d1=>
     obtain ⟨sT,h0',hsT⟩:=z4m hd1;have h0:=z5a h0'
     cases d1 with
     | slice el=>
       change zn P G M ρ h w _ (app00 (z5d P el) h x y el)
       cases hi:z5d P el with
       | none=>exact .bad
       | some i=>
         refine z3s (Q:=zn P G M ρ h w _) (e:=app1 (zho y h i.size) (lenV y) x h i.size el) .bad fun hk=>?_
         cases hz:i.zero with
         | none=>rw [hz] at hk;cases hk
         | some z=>
           rw [hz] at hk;change andB (Nat.beq (lenS (zt z)) i.size) (Nat.ble i.bytes 1048576)=true at hk;rw [z2u,Bool.and_eq_true] at hk;have hzl:z.cells.size=i.size:=by rw [<- Array.length_toList,<-(z31 (ρ:=ρ) z).length,<-za1];exact Nat.eq_of_beq_eq_true hk.1
           have hby:i.bytes<=1048576:=Nat.le_of_ble_eq_true hk.2;have hsz:zu P el=some i.size:=(by unfold zu;rw [hi];rfl);have hes:P.cellsOf el=i.size:=z3g hsz;have hzc:∀ k,(Builtin.zeroCells z.cells k).size=k*i.size:=fun k=>by simp [Builtin.zeroCells,hzl]
           cases hl:zho y h i.size with
           | none=>exact .bad
           | some xs=>
             cases hn:lenV y with
             | none=>exact .bad
             | some n=>
               obtain ⟨ys,hrel,hrun⟩:=zcq s hy hl hn;refine z3s (Q:=zn P G M ρ h w _) (e:=app2 x h xs n i.size el) .bad fun hxn=>?_;have hxl:xs.length=n*i.size:=(by rw [<- za1];exact Nat.eq_of_beq_eq_true hxn);have hyl:ys.size=n*i.size:=by rw [<- Array.length_toList,<-hrel.length];exact hxl
               cases x with
               | lit v=>
                 cases hx;unfold app2;change zn P G M ρ h w _ (app2v x' h xs n el);unfold app2v;split
                 ·cases n with
                  | zero=>exact .quiet s (zbb h0 h1 hsT hxT hni hi (hrun w rfl).2 (hrun w rfl).1) (.lit _)
                  | succ n=>refine z3s (Q:=zn P G M ρ h w _) (e:=newE h (.cells xs el true) fun i h=>.val (.slc i 0 (n+1) (n+1) false) h) .bad fun hle=>?_;have hle:n+1<=16777216:=Nat.le_of_ble_eq_true hle;rw [z6u];obtain ⟨nc,hnc,hr⟩:=z6c (w:=w) (ty:=ty) (base:=none) (sLen:=0) (sCap:=0) (old':= #[]) h0 h1 hsT hxT hni hi hz hby (fun w' hw=>(hrun w' hw).2) (fun w' hw=>(hrun w' hw).1) (fun w' hw=>rfl) (by omega) (by omega);rw [Nat.zero_add] at hnc hr;exact zbh s hrel hnc hyl (hzc _) hes (by rw [hr];simp)
                 ·exact .bad
               | slc o off len cap ex=>
                 cases hx with
                 | @slc _ b _ _ _ _ cap' hb hc he hr=>
                   change zn P G M ρ h w _ (app3 (Nat.ble (Nat.add len n) cap) h o off len cap ex xs n i.size el)
                   cases hfit:Nat.ble (Nat.add len n) cap with
                   | true=>
                     have hfit:len+n<=cap:=Nat.le_of_ble_eq_true hfit;refine zhu (Q:=zn P G M ρ h w _) (ys:=ys.toList) s hb hrel .bad fun h' w' hst hs hg hnx=>?_;refine ⟨ρ,w',_,z6b h0 h1 hsT hxT hni hi (hrun w rfl).2 (hrun w rfl).1 (Nat.le_trans hfit hc) ?_,.slc off _ _ ex cap' hb hc he hr,hs,hg⟩
                     rw [z67,Nat.add_assoc];exact hst
                   | false=>
                     have hnf:cap<len+n:=by
                      rcases Nat.lt_or_ge cap (len+n) with h2|h2
                      ·exact h2
                      ·have hfit':Nat.ble (len+n) cap=false:=hfit;rw [Nat.ble_eq_true_of_le h2] at hfit';cases hfit'
                     change zn P G M ρ h w _ (app4 (z5b (hget h o) off (Nat.mul len i.size)) ex h o off len xs n i.size el)
                     cases hold:z5b (hget h o) off (Nat.mul len i.size) with
                     | none=>exact .bad
                     | some old=>
                       refine z3s (Q:=zn P G M ρ h w _) (e:=app5 ex h o off len old xs n i.size el) .bad fun hle=>?_;have hle:len+n<=16777216:=Nat.le_of_ble_eq_true hle;obtain ⟨os,ho1,ho2,ho3⟩:=z7f s hb hold;have hfo:∀ w':World,w'.heap=w.heap->(Builtin.firstCells i.size len (.slice (some ⟨b.block,b.off+off,none⟩) len cap')).run P w'=.ok os.toArray w':=fun w' hw=>by show (loadCells _ (len*i.size)).run P w'=_;refine z35 ho1 fun j v hj=>?_;rw [z67];have:=ho3 j v hj;unfold World.cell? at this ⊢;rw [hw];exact this
                       have hrel2:VRL ρ (old++xs) (os.toArray++ys).toList:=by rw [Array.toList_append];exact ho2.append hrel
                       have hsz2:(os.toArray++ys).size=(len+n)*i.size:=by rw [Array.size_append,hyl,List.size_toArray,ho1,Nat.add_mul];rfl
                       have fresh:cap'<len+n->∀ h2:H,Sim P G M ρ h2 w->(nOf h2=nOf h)->
                        zn P G M ρ h2 w ((Builtin.append_ ts ty #[.slice (some ⟨b.block,b.off+off,none⟩) len cap',y']).run P w) (.val (.slc (nOf h2) 0 (len+n) (len+n) false) (hpush h2 (.cells (old++xs) el true))):=by
                        intro hlt h2 s2 _;obtain ⟨nc,hnc,hr⟩:=z6c (w:=w) (ty:=ty) (base:=some ⟨b.block,b.off+off,none⟩) (sLen:=len) (sCap:=cap') (old':=os.toArray) h0 h1 hsT hxT hni hi hz hby (fun w' hw=>(hrun w' hw).2) (fun w' hw=>(hrun w' hw).1) hfo hlt hle;exact zbh s2 hrel2 hnc hsz2 (hzc _) hes hr
                       cases ex with
                       | true=>
                         change zn P G M ρ h w _ (newE h (.cells (appS old xs) el true) fun i h=>.val (.slc i 0 (Nat.add len n) (Nat.add len n) false) h);rw [z6u,z9i]
                         exact fresh (by rw [he rfl];exact hnf) h s rfl
                       | false=>
                         change zn P G M ρ h w _ (app6 (hget h o) h o off len old xs n i.size el);have hlive:=s.live o b hb
                         cases hob:hget h o with
                         | cells vs e own=>
                           rw [hob] at hlive
                           cases own with
                           | false=>exact .bad
                           | true=>
                             change zn P G M ρ h w _ (app8 (andB (Nat.beq e el) (andB (Nat.beq (Nat.mod off i.size) 0) (oneL xs))) h o (Nat.add len n) (appS old xs) el);rw [z2u,z2u]
                             cases hck:(Nat.beq e el&&(Nat.beq (Nat.mod off i.size) 0&&oneL xs)) with
                             | false=>exact .bad
                             | true=>
                               simp only [Bool.and_eq_true] at hck;obtain ⟨k1,k2,k3⟩:=hck;have k1:e=el:=Nat.eq_of_beq_eq_true k1;have k2:off%i.size=0:=Nat.eq_of_beq_eq_true k2;subst k1;change zn P G M ρ h w _ (putE h o .none fun h=>newE h (.cells (appS old xs) e true) fun i h=>.val (.slc i 0 (Nat.add len n) (Nat.add len n) false) h);rw [ztp,z6u,z9i];obtain ⟨s2,g2⟩:=s.put (w':=w) (ob:=.none) hb (by rw [hob];rfl) rfl rfl rfl rfl (fun _ _=>rfl) (.none _ _);rcases Nat.lt_or_ge cap' (len+n) with hlt|hge
                               ·obtain ⟨ρ',w',v,q1,q2,q3,q4⟩:=fresh hlt _ s2 (z8c _ _ _);exact ⟨ρ',w',v,q1,q2,q3,g2.trans q4⟩
                               ·
                                obtain ⟨hr,hrm⟩:=hr rfl
                                cases hk2:w.heap[b.block]? with
                                | none=>rw [hk2] at hlive;cases hlive
                                | some obj=>
                                  rw [hk2] at hlive
                                  cases hlive with
                                  | @cells _ _ _ _ c fr hs hm hf hroom hlen hvs=>
                                    obtain rfl:fr=(0,0):=hf rfl;have hesz:b.esz=i.size:=(by rw [<- hs];exact hes);rw [hesz] at hr hm;have hcapm:(len+n)*i.size<=cap'*i.size:=Nat.mul_le_mul_right _ hge;have hmul:(len+n)*i.size=len*i.size+n*i.size:=Nat.add_mul _ _ _;obtain ⟨w',c',hst,ht,hz',hc'⟩:=z6d (P:=P) (o:=b.off+off+len*i.size) ys.toList 0 c w hk2 (by rw [Array.length_toList,hyl];omega) (zm4 hrel k3);let b':Loc:=⟨b.block,b.off+off,b.room-off,i.size⟩;have hn0:=s2.none_at;have hle':Env.le ρ (ρ.put (nOf (hput h o .none)) b'):=Env.put_le b' hn0;have hblt:=z4r hk2
                                    obtain ⟨s3,g3⟩:=s2.push (w':=w') (b:=b') (ob:=.cells (old++xs) e true) ht.os ht.tape ht.output (Nat.le_of_eq ht.size.symm) (by rw [ht.size];exact hblt) (fun k hk _=>ht.other k hk)
                                     (s.mine o b hb (by rw [hob];rfl))
                                     (fun o' bb hb' hn' e'=>by
                                       rw [z3b] at hn';split at hn'
                                       ·exact absurd rfl hn'
                                       ·rename_i hne;exact hne (s.apart o' o bb b hb' hb hn' (by rw [hob];simp) e'))
                                     (by
                                       rw [show b'.block=b.block from rfl,ht.here];refine .cells (show P.cellsOf e=i.size from hes) (show (b.off+off)%i.size=0 by rw [Nat.add_mod,hm,k2];simp) (fun _=>rfl) (show b.off+off+(b.room-off)<=c'.size by rw [hz'];omega) (show (old++xs).length<=b.room-off by rw [hrel2.length,Array.length_toList,hsz2];omega) fun j v hj=>?_;show ∃ x,c'[b.off+off+j]? =some x/\_;rw [hc'];rw [Array.length_toList,hyl];have hol:old.length=len*i.size:=(by rw [ho2.length,ho1];rfl);by_cases hj2:j<old.length
                                       ·rw [List.getElem?_append_left hj2] at hj;rw [if_neg (by omega)];obtain ⟨x,hx1,hx2⟩:=ho2.get _ _ hj;have:=ho3 j x hx1;rw [zcf hk2] at this;exact ⟨x,this,hx2.mono hle'⟩
                                       ·rw [List.getElem?_append_right (by omega)] at hj;have hlt2:j-old.length<xs.length:=by
                                         rcases Nat.lt_or_ge (j-old.length) xs.length with h2|h2
                                         ·exact h2
                                         ·rw [List.getElem?_eq_none h2] at hj;cases hj
                                        rw [hxl] at hlt2;rw [if_pos (by omega)];obtain ⟨x,hx1,hx2⟩:=hrel.get _ _ hj;exact ⟨x,by rw [<- hx1];congr 1;omega,hx2.mono hle'⟩)
                                    refine ⟨_,w',_,z6b h0 h1 hsT hxT hni hi (hrun w rfl).2 (hrun w rfl).1 hge (by rw [z67];exact hst),?_,s3,g2.trans g3⟩;exact VR.slc (b:=b') 0 (len+n) (len+n) false cap' (Env.put_self _ _ _) hge (fun e=>by cases e) fun _=>⟨by
                                     show 0+cap'*i.size<=b.room-off
                                     omega,hrm⟩
                         | _=>exact .bad
               | _=>exact .bad
     | _=>exact .bad
end
end Go.Play
