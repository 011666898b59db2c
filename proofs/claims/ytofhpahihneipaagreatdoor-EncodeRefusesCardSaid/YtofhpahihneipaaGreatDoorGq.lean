import Derived.Test.YtofhpahihneipaaGreatDoorGa
import Derived.Laws.Rows
import Derived.Deep.QuietTactic
import Derived.BigQuiet
import Derived.Test.YtofhpahihneipaaGreatDoorGe
import Derived.Deep.Slices
import Derived.Deep.SlicePairs
import Derived.RangeFuncNested
import Derived.RangeFuncCalls
import Derived.OrdersIn
import Derived.StillTailTactics
import Derived.WalkKit
import Derived.Lib.QuietBelow
import Derived.Laws.CopyOwn
import Derived.Laws.Tables
import Derived.IntWalk
import Derived.Test.YtofhpahihneipaaGreatDoorGc
import Derived.RangeFuncKeeps
import Derived.RangeFuncBound
import Derived.RangeFuncLeaves
import Derived.RangeFuncBox
import Derived.Shelf.Abstract
import Derived.OwnWalkIn
import Derived.TacticsInMore
import Derived.LoopIn
import Derived.Laws.EntriesVeiled
import Derived.Maps.AppendAt
set_option linter.unusedVariables false
set_option linter.unusedSimpArgs false
set_option warningAsError false
set_option maxHeartbeats 4000000
open Go.Lib (hid)
open Go.Proofs.Tryz (prog)
namespace Go.Proofs.YtofhpahihneipaaGreatDoor
open Go.RowKit
theorem zah (n x:Nat) (w:World) (h0:1<=n) (h1:n<=64):
 Calls prog 83 #[.int .i64 n,.int .u64 x] w fun e w'=>e=.returned (.bool (okB n x))/\w=w':=by
 have H:=hid (zt7 n x);go_enter Tryz.func83,Tryz.ntmps83
 go_wp2_with (first
  | (go_at_call 105;refine (z2v _ _ (by omega) (by omega)).mono ?_;rintro e w' ⟨rfl,rfl⟩)
  | (go_at_call 77;refine (z2m _ _ h0 h1).mono ?_;rintro e w' ⟨rfl,rfl⟩))
 go_ret
 refine ⟨?_,rfl⟩;show Ending.returned (.bool _)=_;rw [H.out]
theorem zw2 (fn:Fn) (first captured:Array Value) (w:World):Sem.run prog (binOp BinOp.neq 188 (Value.func fn first captured) Value.nilFunc) w=.ok (.bool true) w:=by kernel_rfl
theorem za5 (w:World):Sem.run prog (binOp BinOp.neq 188 Value.nilFunc Value.nilFunc) w=.ok (.bool false) w:=by kernel_rfl
theorem ze5 (n:Int) (f xs:Value) (w:World) (h:n<1∨64<n):
 Calls prog 108 #[.int .i64 n,f,xs] w fun e w'=>e=.returned (.int .i64 14)/\w=w':=by
 go_enter Tryz.func108,Tryz.ntmps108
 go_wp2_with (go_at_call 105;refine (z85 _ _ h).mono ?_;rintro e w' ⟨rfl,rfl⟩)
 go_ret
 exact ⟨rfl,rfl⟩
def chk2 (n a b:Nat):Int:=if okB n a=true/\okB n b=true then 0 else 8
def chk1 (n a:Nat):Int:=if okB n a=true then 0 else 8
theorem zx8 (n:Nat) (f:Nat) (cs:Array Value) (a b:Nat) (w:World) (B:Nat) (h0:1<=n) (h1:n<=64)
 (HC:∀ (args:Array Value) (w:World),Sem.run prog (callFunc f args) w=.ok (.enter f args) w)
 (HF:Hid (Calls prog f cs w fun e w'=>e=.returned (.int .i64 0)/\w=w'))
 (hc0:w.cell? ⟨B,0,none⟩=some (.int .u64 a)) (hc1:w.cell? ⟨B,1,none⟩=some (.int .u64 b)):
 Calls prog 108 #[.int .i64 n,.func (.func f) #[] cs,.slice (some ⟨B,0,none⟩) 2 2] w fun e w'=>e=.returned (.int .i64 (chk2 n a b))/\w=w':=by
 have hn:=zw2 (Fn.func f) #[] cs;have E:=hid (show chk2 n a b=if okB n a=true/\okB n b=true then 0 else 8 from rfl);cases ha:okB n a<;>cases hb:okB n b
 all_goals
  have HA:=hid ha;have HB:=hid hb;clear ha hb;go_enter Tryz.func108,Tryz.ntmps108
  go_wp2_with (first
   | (go_at_call 105;refine (z2v _ _ (by omega) (by omega)).mono ?_;rintro e w' ⟨rfl,rfl⟩)
   | ((with_reducible refine HF.out.mono ?_);rintro e w' ⟨rfl,rfl⟩))
  refine wp_loop_rounds 3 ?_
  iterate 3 (try (rw [rounds_succ];go_wp2_with (first
   | (go_at_call 83;(with_reducible refine (zah n a _ h0 h1).mono ?_);rw [HA.out];rintro e w' ⟨rfl,rfl⟩)
   | (go_at_call 83;(with_reducible refine (zah n b _ h0 h1).mono ?_);rw [HB.out];rintro e w' ⟨rfl,rfl⟩))))
  go_ret
  refine ⟨?_,rfl⟩;show Ending.returned (.int .i64 _)=_;rw [E.out,HA.out,HB.out];rfl
theorem check1 (n a:Nat) (w:World) (B:Nat) (h0:1<=n) (h1:n<=64)
 (hc0:w.cell? ⟨B,0,none⟩=some (.int .u64 a)):
 Calls prog 108 #[.int .i64 n,.nilFunc,.slice (some ⟨B,0,none⟩) 1 1] w fun e w'=>e=.returned (.int .i64 (chk1 n a))/\w=w':=by
 have hn:=za5;have E:=hid (show chk1 n a=if okB n a=true then 0 else 8 from rfl);cases ha:okB n a
 all_goals
  have HA:=hid ha;clear ha;go_enter Tryz.func108,Tryz.ntmps108
  go_wp2_with (go_at_call 105;refine (z2v _ _ (by omega) (by omega)).mono ?_;rintro e w' ⟨rfl,rfl⟩)
  refine wp_loop_rounds 2 ?_
  iterate 2 (try (rw [rounds_succ];go_wp2_with
   (go_at_call 83;(with_reducible refine (zah n a _ h0 h1).mono ?_);rw [HA.out];rintro e w' ⟨rfl,rfl⟩)))
  go_ret
  refine ⟨?_,rfl⟩;show Ending.returned (.int .i64 _)=_;rw [E.out,HA.out];rfl
theorem check0 (n:Nat) (w:World) (h0:1<=n) (h1:n<=64):
 Calls prog 108 #[.int .i64 n,.nilFunc,.slice none 0 0] w fun e w'=>e=.returned (.int .i64 0)/\w=w':=by
 have hn:=za5;go_enter Tryz.func108,Tryz.ntmps108
 go_wp2_with (go_at_call 105;refine (z2v _ _ (by omega) (by omega)).mono ?_;rintro e w' ⟨rfl,rfl⟩)
 refine wp_loop_rounds 1 ?_;rw [rounds_succ];go_wp2
 go_ret
 exact ⟨rfl,rfl⟩
end Go.Proofs.YtofhpahihneipaaGreatDoor
namespace Go.Proofs.YtofhpahihneipaaGreatDoor
open Go.RowKit Go.Instr
set_option maxRecDepth 100000
def z70 (L:List Bool):Obj:=.cells (L.map .bool).toArray 4
theorem zn7 (w:World) (L:List Bool) (i:Nat) (b:Bool) (h:L[i]? =some b):(w.alloc (z70 L)).cell? ⟨w.heap.size,i,none⟩=some (.bool b):=by simp only [World.cell?];rw [show (w.alloc (z70 L)).heap[w.heap.size]? =some (z70 L) from heap_alloc_new w (z70 L)];simp [z70,h]
theorem zpc (L:List Bool) (w:World) (hL:L.length<=4):
 Calls prog 131 #[.slice (some ⟨w.heap.size,0,none⟩) L.length L.length,.bool false] (w.alloc (z70 L)) fun e w'=>(∃ z:Int,e=.returned (.int .i64 z)/\decide (0<=z)= !(L.all id))/\w.alloc (z70 L)=w':=by
 have HC:=hid (zn7 w L);obtain ⟨n,hn⟩:∃ n,L.length=n:=⟨_,rfl⟩;have HN:=hid hn;rw [hn] at hL ⊢;obtain ⟨B,hB⟩:∃ B,w.heap.size=B:=⟨_,rfl⟩;rw [hB] at HC ⊢;obtain ⟨X,hX⟩:∃ X,w.alloc (z70 L)=X:=⟨_,rfl⟩;rw [hX] at HC ⊢;clear hn hB hX;go_enter Tryz.func131,Tryz.ntmps131
 go_wp2
 go_loopw [5,8] (fun _ v wr=>∃ i:Nat,v=.int .i64 i/\i<=n/\wr=X/\Hid (∀ j y,j<i->L[j]? =some y->y=true)) (fun _ v _=>n-(intOf v).toNat)
 case atStart=>exact ⟨0,rfl,Nat.zero_le _,rfl,hid (fun j y hj=>absurd hj (Nat.not_lt_zero _))⟩
 case round=>
  obtain ⟨i,rfl,hi,rfl,HI⟩:=hrel;by_cases hlt:i<n
  ·obtain ⟨x,hx⟩:∃ x,L[i]? =some x:=⟨_,List.getElem?_eq_getElem (by rw [HN.out];exact hlt)⟩;have c0:=HC.out i x hx;have HX:=hid hx;have HLT:=hid hlt;clear hx
   cases x with
   | false=>
     go_wp2
     go_ret
     refine ⟨⟨_,rfl,?_⟩,rfl⟩;have h1:L.all id=false:=by rw [List.all_eq_false];exact ⟨false,List.mem_of_getElem? HX.out,by simp⟩
     rw [h1];simp
   | true=>
     go_wp2
     go_roundw
     case rel=>
      refine ⟨i+1,by first|rfl|go_num|(congr 1),by have:=HLT.out;omega,by trivial,hid (fun j y hj hy=>?_)⟩;by_cases e:j=i
      ·subst e;rw [HX.out] at hy;exact (Option.some.inj hy).symm
      ·exact HI.out j y (by omega) hy
     case measure=>simp only [intOf];have:=HLT.out;omega
  ·obtain rfl:i=n:=by omega
   go_wp2
   go_ret
   refine ⟨⟨_,rfl,?_⟩,rfl⟩;have h1:L.all id=true:=by rw [List.all_eq_true];intro y hy;obtain ⟨j,hj⟩:=List.getElem?_of_mem hy;exact HI.out j y (by rw [<- HN.out];exact (List.getElem?_eq_some_iff.1 hj).1) hj
   rw [h1];rfl
theorem zkn (L:List Bool) (w:World) (hL:L.length<=4):
 Calls prog 104 #[.slice (some ⟨w.heap.size,0,none⟩) L.length L.length,.bool false] (w.alloc (z70 L)) fun e w'=>e=.returned (.bool (!(L.all id)))/\w.alloc (z70 L)=w':=by
 have HC:=hid (zpc L w hL);obtain ⟨q,hq⟩:∃ q,(!(L.all id))=q:=⟨_,rfl⟩;rw [hq] at HC ⊢;obtain ⟨X,hX⟩:∃ X,w.alloc (z70 L)=X:=⟨_,rfl⟩;rw [hX] at HC ⊢;clear hq hX hL;go_enter Tryz.func104,Tryz.ntmps104
 go_wp2_with (go_at_call 131;(with_reducible refine HC.out.mono ?_);rintro e w1 ⟨⟨z,rfl,hz⟩,rfl⟩;have HZ:=hid hz;clear hz)
 go_ret
 exact ⟨by rw [<- HZ.out];rfl,rfl⟩
def z4a (e:Int) (L:List Bool):Int:=if L.all id=true then 0 else e
theorem za4 (er:Int) (L:List Bool) (w:World) (hL:L.length<=4):
 Calls prog 76 #[.int .i64 er,.slice (some ⟨w.heap.size,0,none⟩) L.length L.length] (w.alloc (z70 L)) fun e w'=>e=.returned (.int .i64 (z4a er L))/\w.alloc (z70 L)=w':=by
 have HC:=hid (zkn L w hL);have HR:=hid (show z4a er L=if L.all id=true then 0 else er from rfl);obtain ⟨X,hX⟩:∃ X,w.alloc (z70 L)=X:=⟨_,rfl⟩;rw [hX] at HC ⊢;clear hX hL;cases hq:L.all id
 all_goals
  rw [hq] at HC HR;clear hq;go_enter Tryz.func76,Tryz.ntmps76
  go_wp2_with (go_at_call 104;(with_reducible refine HC.out.mono ?_);rintro e w1 ⟨rfl,rfl⟩)
  go_ret
  exact ⟨by rw [HR.out];simp,rfl⟩
theorem need1 (er:Int) (a:Bool) (w:World):
 Calls prog 76 #[.int .i64 er,.slice (some ⟨w.heap.size,0,none⟩) 1 1] (w.alloc (.cells #[.bool a] 4)) fun e w'=>e=.returned (.int .i64 (z4a er [a]))/\w.alloc (.cells #[.bool a] 4)=w':=za4 er [a] w (by simp)
theorem need2 (er:Int) (a b:Bool) (w:World):
 Calls prog 76 #[.int .i64 er,.slice (some ⟨w.heap.size,0,none⟩) 2 2] (w.alloc (.cells #[.bool a,.bool b] 4)) fun e w'=>e=.returned (.int .i64 (z4a er [a,b]))/\w.alloc (.cells #[.bool a,.bool b] 4)=w':=za4 er [a,b] w (by simp)
theorem need3 (er:Int) (a b c:Bool) (w:World):
 Calls prog 76 #[.int .i64 er,.slice (some ⟨w.heap.size,0,none⟩) 3 3] (w.alloc (.cells #[.bool a,.bool b,.bool c] 4)) fun e w'=>e=.returned (.int .i64 (z4a er [a,b,c]))/\w.alloc (.cells #[.bool a,.bool b,.bool c] 4)=w':=za4 er [a,b,c] w (by simp)
def inB (n a b:Int):Bool:=decide (a<=n/\n<=b)
theorem z33 (n a b:Int) (w:World):
 Calls prog 82 #[.int .i64 n,.int .i64 a,.int .i64 b] w fun e w'=>e=.returned (.bool (inB n a b))/\w=w':=by
 have HR:=hid (show inB n a b=decide (a<=n/\n<=b) from rfl);by_cases h:a<=n
 ·go_enter Tryz.func82,Tryz.ntmps82
  go_wp2
  go_ret
  exact ⟨by rw [HR.out];simp [h],rfl⟩
 ·have h':decide (a<=n)=false:=by simpa using h
  go_enter Tryz.func82,Tryz.ntmps82
  go_wp2
  go_ret
  exact ⟨by rw [HR.out];simp;intro q;omega,rfl⟩
def sgK (k:Int):Bool:=k==2||k==4
theorem z5f (k:Int) (w:World):
 Calls prog 84 #[.int .u8 k] w fun e w'=>e=.returned (.bool (sgK k))/\w=w':=by
 have HR:=hid (show sgK k=(k==2||k==4) from rfl);cases h:(k==2)
 all_goals
  rw [h] at HR;go_enter Tryz.func84,Tryz.ntmps84
  go_wp2
  go_ret
  exact ⟨by rw [HR.out];rfl,rfl⟩
end Go.Proofs.YtofhpahihneipaaGreatDoor
namespace Go.Proofs.YtofhpahihneipaaGreatDoor
open Go.RowKit
def lowN (g:Bool) (w:Nat):Int:=if g then -2^(w-1) else 0
def z3c (g:Bool) (w:Nat):Int:=if g then 2^(w-1)-1 else 2^w-1
theorem pow32 (w:Nat) (h:w<=32):(1:Int)<=2^w/\(2:Int)^w<=4294967296:=by
 have h1:=Nat.pow_le_pow_right (n:=2) (by omega) h;have h2:=Nat.two_pow_pos w;have e:((2:Int)^w)=((2^w:Nat):Int):=by simp
 have h3:2^w<=4294967296:=by simpa using h1
 rw [e];clear e h1;generalize 2^w=P at *;omega
theorem pow3 (s:Nat) (h:s<=3):(2:Int)^s=1∨(2:Int)^s=2∨(2:Int)^s=4∨(2:Int)^s=8:=by
 match s,h with
 | 0,_=>simp
 | 1,_=>simp
 | 2,_=>simp
 | 3,_=>simp
theorem ztn (w:Nat) (h:1<=w):(2:Int)^w=2*2^(w-1):=by obtain ⟨m,rfl⟩:∃ m,w=m+1:=⟨w-1,by omega⟩;rw [Int.pow_succ,Nat.add_sub_cancel,Int.mul_comm]
theorem zxj (g:Bool) (w:Nat) (h1:1<=w) (h2:w<=32) : -2147483648<=lowN g w/\lowN g w<=0:=by have:=pow32 (w-1) (by omega);have hd:=ztn w h1;have:=pow32 w h2;unfold lowN;split<;>omega
theorem zyp (g:Bool) (w:Nat) (h1:1<=w) (h2:w<=32):0<=z3c g w/\z3c g w<=4294967295:=by have:=pow32 (w-1) (by omega);have:=pow32 w h2;unfold z3c;split<;>omega
theorem zzl (w:Nat) (h1:1<=w) (h2:w<=32):wrap64 (-2^(w-1))=lowN true w:=by have:=zxj true w h1 h2;unfold lowN at this ⊢;simp only [if_true] at this ⊢;exact zg _ (by omega) (by omega)
theorem zzk (w:Nat) (h1:1<=w) (h2:w<=32):wrap64 (wrap64 (2^(w-1))-1)=z3c true w:=by have:=pow32 (w-1) (by omega);unfold z3c;simp only [if_true];rw [zg (2^(w-1)) (by omega) (by omega)];exact zg _ (by omega) (by omega)
theorem zwt (w:Nat) (h2:w<=32):wrap64 (wrap64 (2^w)-1)=z3c false w:=by have:=pow32 w h2;unfold z3c;simp only [Bool.false_eq_true,if_false];rw [zg (2^w) (by omega) (by omega)];exact zg _ (by omega) (by omega)
def numB (g:Bool) (w s:Nat) (n:Int):Bool:=decide (n / 2^s*2^s=n)&&decide (lowN g w<=n / 2^s/\n / 2^s<=z3c g w)
theorem zbj (s:Nat) (n:Int) (hs:s<=3) (h0 : -9223372036854775808<=n) (h1:n<=9223372036854775807):wrap64 (n / 2^s*2^s)=n / 2^s*2^s:=by apply zg<;>rcases pow3 s hs with h|h|h|h<;>rw [h]<;>omega
end Go.Proofs.YtofhpahihneipaaGreatDoor
namespace Go.Proofs.YtofhpahihneipaaGreatDoor
open Go.RowKit Go.Instr
set_option maxRecDepth 100000
set_option maxHeartbeats 1000000
theorem z38 (B:Nat) (w:World) (n:Nat):Below B w (w.drewN n):=⟨rfl,rfl,rfl,Nat.le_refl _,fun _ _=>rfl⟩
theorem zwj {P:Program} {f:FuncId} {args:Array Value} {w:World} {n:Nat} {v:Value}
 (h:Calls P f args (w.drewN n) fun e w'=>e=.returned v/\w.drewN n=w'):Calls P f args (w.drewN n) fun e w''=>e=.returned v/\∃ m,w''=w.drewN m:=
 h.mono fun _ _ ⟨he,hm⟩=>⟨he,n,hm.symm⟩
theorem zl4 {a b c:World} (h:Below a.heap.size a b) (k:Below b.heap.size b c):Below a.heap.size a c:=h.trans (k.mono h.size)
def chkK (k w s:Int):Int:=z4a 2 [sgK k||k==3,inB w 1 32,inB s 0 3]
theorem z72 (k w s:Int) (wo:World):
 Calls prog 80 #[.int .u8 k,.int .i64 w,.int .i64 s] wo fun e w'=>e=.returned (.int .i64 (chkK k w s))/\Below wo.heap.size wo w':=by
 have HR:=hid (show chkK k w s=z4a 2 [sgK k||k==3,inB w 1 32,inB s 0 3] from rfl);have HS:=hid (fun W=>z5f k W);have H1:=hid (fun W=>z33 w 1 32 W);have H2:=hid (fun W=>z33 s 0 3 W);generalize inB w 1 32=q1 at *;generalize inB s 0 3=q2 at *;generalize sgK k=g at *;cases g
 all_goals
  go_enter Tryz.func80,Tryz.ntmps80
  go_wp2_with (first
   | (go_at_call 84;(with_reducible refine (HS.out _).mono ?_);rintro e w' ⟨rfl,rfl⟩)
   | (go_at_call 82;(with_reducible refine (H1.out _).mono ?_);rintro e w' ⟨rfl,rfl⟩)
   | (go_at_call 82;(with_reducible refine (H2.out _).mono ?_);rintro e w' ⟨rfl,rfl⟩)
   | (go_at_call 76;(with_reducible refine (need3 2 _ _ _ _).mono ?_);rintro e w' ⟨rfl,rfl⟩))
  go_ret
  refine ⟨by rw [HR.out];rfl,?_⟩;go_grown
theorem zws (k:Int) (w:Nat) (wo:World) (h1:1<=w) (h2:w<=32):
 Calls prog 107 #[.int .u8 k,.int .i64 w] wo fun e w'=>e=.returned (.tuple #[.int .i64 (lowN (sgK k) w),.int .i64 (z3c (sgK k) w)])/\Below wo.heap.size wo w':=by
 have HS:=hid (fun W=>z5f k W);have A1:=hid (zzl w h1 h2);have A2:=hid (zzk w h1 h2);have A3:=hid (zwt w h2);generalize sgK k=g at *;have e1:((w:Int)-1).toNat=w-1:=by omega
 cases g
 ·go_enter Tryz.func107,Tryz.ntmps107
  go_wp2_with (go_at_call 84;(with_reducible refine (HS.out _).mono ?_);rintro e w' ⟨rfl,rfl⟩)
  go_quiet (fail)
  go_wp2
  go_ret2
  exact ⟨by rw [A3.out];rfl,z38 _ _ _⟩
 ·go_enter Tryz.func107,Tryz.ntmps107
  go_wp2_with (go_at_call 84;(with_reducible refine (HS.out _).mono ?_);rintro e w' ⟨rfl,rfl⟩)
  go_quiet (fail)
  go_wp2
  go_ret2
  exact ⟨by simp only [A1.out,A2.out];rfl,z38 _ _ _⟩
theorem zgp (k n:Int) (w s:Nat) (wo:World) (h1:1<=w) (h2:w<=32) (h3:s<=3) (hn : -9223372036854775808<=n/\n<=9223372036854775807):
 Calls prog 81 #[.int .u8 k,.int .i64 w,.int .i64 s,.int .i64 n] wo fun e w'=>e=.returned (.bool (numB (sgK k) w s n))/\Below wo.heap.size wo w':=by
 have HS:=hid (fun W=>zws k w W h1 h2);have HK:=hid (zbj s n h3 hn.1 hn.2);have HI:=hid (fun a b W=>z33 (n / 2^s) a b W);have HR:=hid (show numB (sgK k) w s n=(decide (n / 2^s*2^s=n)&&inB (n / 2^s) (lowN (sgK k) w) (z3c (sgK k) w)) from rfl);generalize sgK k=g at *;generalize lowN g w=lo at *;generalize z3c g w=hi at *;have hq:(wrap64 (n / 2^s*2^s)==n)=decide (n / 2^s*2^s=n):=by rw [HK.out];by_cases e:n / 2^s*2^s=n<;>simp [e]
 generalize decide (n / 2^s*2^s=n)=q at *;clear HK hn;cases q
 all_goals
  go_enter Tryz.func81,Tryz.ntmps81
  go_wp2_with (first
   | (go_at_call 107;(with_reducible refine (HS.out _).mono ?_);rintro e w' ⟨rfl,hb⟩)
   | (go_at_call 82;(with_reducible refine (HI.out _ _ _).mono ?_);rintro e w' ⟨rfl,rfl⟩))
  go_ret
  exact ⟨by rw [HR.out];rfl,hb⟩
def z1w (k:Int) (w s n:Int):Nat×Int:=if chkK k w s=0 then (if numB (sgK k) w.toNat s.toNat n=true then (((n / 2^s.toNat)%2^w.toNat).toNat,0) else (0,24)) else (0,chkK k w s)
theorem z7x {k w s:Int} (h:chkK k w s=0):(1<=w/\w<=32)/\0<=s/\s<=3/\(sgK k=true∨k=3):=by
 unfold chkK z4a inB at h;split at h
 ·rename_i h';simp at h';obtain ⟨h1,h2,h3⟩:=h';exact ⟨h2,h3.1,h3.2,h1⟩
 ·cases h
theorem z98 {k w s:Int} (h:¬ chkK k w s=0):chkK k w s=2:=by
 unfold chkK z4a at *;split at h
 ·exact absurd rfl h
 ·rename_i h';rw [if_neg h']
end Go.Proofs.YtofhpahihneipaaGreatDoor
namespace Go.Proofs.YtofhpahihneipaaGreatDoor
open Go.RowKit
set_option maxRecDepth 100000
def z3y (w:World) (A:Option Addr) (L:List MPiece):Prop:=∀ i x,L[i]? =some x->∃ g o,A=some ⟨g,o,none⟩/\g<w.heap.size/\w.cell? ⟨g,o+i*2,none⟩=some (.int .i64 x.pos)/\w.cell? ⟨g,o+i*2+1,none⟩=some (.int .i64 x.len)
def zcb (L:List MPiece):Prop:=∀ x∈L,(-9223372036854775808<=x.pos/\x.pos<=9223372036854775807)/\(-9223372036854775808<=x.len/\x.len<=9223372036854775807)
theorem z3y.later {w w':World} {A:Option Addr} {L:List MPiece} (h:z3y w A L) (hb:Below w.heap.size w w'):z3y w' A L:=by intro i x hx;obtain ⟨g,o,e,hg,h0,h1⟩:=h i x hx;exact ⟨g,o,e,Nat.lt_of_lt_of_le hg hb.size,by rw [hb.cell hg];exact h0,by rw [hb.cell hg];exact h1⟩
theorem zbz {w:World} {v:Value} {L:List MPiece} (h:zd 2 z2g w v L):∃ A c,v=.slice A L.length c/\L.length<=c/\c<=maxLen/\z3y w A L/\zcb L:=by
 obtain ⟨A,c,h1,h2,h3,h4,h5⟩:=h;refine ⟨A,c,h1,h3,h4,fun i x hx=>?_,fun x hx=>?_⟩
 ·obtain ⟨b,o,cs,e1,e2,e3,e4,e5⟩:=h5 i x hx;obtain ⟨hc,_⟩:=e5;subst hc;exact ⟨b,o,e1,e2,e4 0 _ rfl,e4 1 _ rfl⟩
 ·obtain ⟨i,hi⟩:=List.getElem?_of_mem hx;obtain ⟨b,o,cs,e1,e2,e3,e4,e5⟩:=h5 i x hi;exact e5.2
end Go.Proofs.YtofhpahihneipaaGreatDoor
namespace Go.Proofs.YtofhpahihneipaaGreatDoor
open Go Go.RowKit
section
variable {P:Program} {ops:Array Oper} {md:Region.Mode} {Q:Exit->Act->World->Prop}
def z2t (Q:Exit->Act->World->Prop) (e:Exit) (a:Act) (w:World):Prop:=e=.normal/\Q .normal a w
theorem z5j:¬ LetsOut (z2t Q):=fun ⟨_,_,h,_⟩=>by cases h
theorem zif (l n:Nat) {f:FuncId} {args:Array Value} {w:World} {R:Ending->World->Prop} (h:Calls P f args w R):CallsIn (Fence.wide.inRound l) n P f args w R:=
 (callsIn_wide.2 h).inRound l
theorem zpf (l n:Nat) {row:String} {args:Array Value} {w:World} {R:Value->World->Prop} (h:Rows P row args w R):RowsIn (Fence.wide.inRound l) n P row args w R:=
 fun c cs _=>let ⟨v,w',r,s⟩:=h c cs;⟨v,w',r,stepsIn_wide.2 s⟩
theorem zpq (l n:Nat) {o:Oper} {a:Act} {K K':Act->World->Prop} (hK:∀ a w,K a w->K' a w) {r:Result Next} (h:o.upon P a K (z2t Q) r):o.uponIn (Fence.wide.inRound l) n P a K' Q r:=by
 cases r with
 | ok x w'=>
   cases x with
   | value v=>exact hK _ _ h
   | skip=>exact hK _ _ h
   | defer d=>exact hK _ _ h
   | enter f args=>
     refine ⟨(fun hd=>by cases hd),zif l _ (Calls.mono (show Calls P f args w' _ from h) fun e w'' he=>?_)⟩
     cases e with
     | returned v=>exact hK _ _ he
     | panicked chain=>cases he.1
     | outgrown=>exact absurd he z5j
   | row row args=>exact ⟨(fun hd=>by cases hd),zpf l _ fun c cs=>let ⟨v,w'',r,s⟩:=(show Rows P row args w' _ from h) c cs;⟨v,w'',hK _ _ r,s⟩⟩
   | _=>exact h.elim
 | halt x w'=>
   cases x with
   | panic v=>cases (show z2t Q _ _ _ from h).1
   | _=>exact h.elim
theorem zq2 (l n:Nat) (hdef:ops.all (fun o=>match o.op with|.defer _=>false|_=>true)=true):∀ (fuel:Nat) (listed:Array Bool) (a:Act) (w:World),
 wpAny P md ops (z2t Q) fuel listed a w->wpAnyIn (Fence.wide.inRound l) n P md ops Q fuel listed a w:=by
 have hop:∀ (i:Nat) (o:Oper),ops[i]? =some o->∀ c,o.op≠.defer c:=fun i o hi c he=>by have h1:=Array.all_eq_true.1 hdef i (Array.getElem?_eq_some_iff.1 hi).1;rw [(Array.getElem?_eq_some_iff.1 hi).2,he] at h1;cases h1
 intro fuel
 induction fuel with
 | zero=>exact fun listed a w h=>⟨h.1,h.2.2⟩
 | succ fuel ih=>
   intro listed a w h;refine ⟨fun h0=>(h.1 h0).2,fun i hi=>?_⟩;have h1:=h.2 i hi;unfold wpOp at h1;unfold wpOpIn
   cases ho:ops[i]? with
   | none=>rw [ho] at h1;exact ih _ _ _ h1
   | some o=>
     rw [ho] at h1;simp only at h1 ⊢;split at h1
     ·rename_i hw;rw [if_pos hw];rcases h1 with h1|⟨_,h1⟩
      ·refine ⟨fun _ _=>trivial,?_⟩;rw [show (Fence.wide.inRound l).round=some l from rfl,Oper.semAt_some l _ _ (hop i o ho)];exact zpq l n (fun a w=>ih _ a w) h1
      ·exact absurd h1 z5j
     ·rename_i hw;rw [if_neg hw];exact ⟨fun _ _=>trivial,ih _ _ _ h1⟩
theorem z59 (l n:Nat) {id:Nat} {a:Act} {w:World} {os:List Oper} (m:Nat) (hm:P.follows .mixedOrders=true) (hdef:os.toArray.all (fun o=>match o.op with|.defer _=>false|_=>true)=true) (hB:Region.lexTailB .any os.toArray m=true)
 (h:wpStill P os.toArray { w with drawn:=w.drawn+1 } (fun a'=>wpList P os.toArray (z2t Q) (os.drop m) a' { w with drawn:=w.drawn+1 }) (os.take m) a):(Code.region id os.toArray true).wpIn (Fence.wide.inRound l) n P Q a w:=by
 unfold Region.lexTailB at hB;rw [Bool.and_eq_true,Bool.and_eq_true,Bool.and_eq_true,Bool.and_eq_true] at hB;have hlt:m<os.toArray.size:=of_decide_eq_true hB.1.1.1.2;have hlen:m<os.length:=by simpa using hlt
 have t1:(os.take m).length=m:=by rw [List.length_take];omega
 have t2:(os.drop m).length=os.toArray.size-m:=by simp
 have start:HeadInv .any os.toArray m (Array.replicate os.toArray.size false):=by
  refine ⟨Array.size_replicate ..,fun j oj hj hl=>?_,fun t _ ht=>?_⟩
  ·rw [getD_replicate_false] at hl;cases hl
  ·exact getD_in (by simpa using ht) (getD_replicate_false _ _)
 have each:∀ j,j<(os.take m).length->(os.take m)[j]? =os.toArray[0+j]? :=fun j hj=>by rw [t1] at hj;simp [List.getElem?_take,hj]
 have hd:=wpAnyL_lex (g:=os.toArray.size-m) hB.1.1.1.1 hB.1.1.2 hB.1.2 hlt (os.take m) 0 _ a each (by rw [t1];omega) start (by rw [t1];exact hB.2) h;have all:=wpAny_of_head (Q':=z2t Q) (g:=os.toArray.size-m) (fun listed' a' hL=>by have tl:=wpAny_of_seq (Q':=z2t Q) (os.drop m) m listed' a' _ (fun j=>by simp [List.getElem?_drop]) (by rw [t2];exact hL.1) hL.2;rw [t2] at tl;exact tl) _ _ _ hd
 rw [t1,Nat.add_sub_cancel' (Nat.le_of_lt hlt)] at all;exact wpIn_region_any hm (zq2 l n hdef _ _ _ _ all)
theorem z62 {f:FuncId} {args:Array Value} {w:World} {v:Value} (h:Calls P f args w fun e w'=>e=.returned v/\w=w'):Calls P f args w fun e w'=>e=.returned v/\w'=w:=h.mono fun _ _ ⟨a,b⟩=>⟨a,b.symm⟩
end
end Go.Proofs.YtofhpahihneipaaGreatDoor
namespace Go.Proofs.YtofhpahihneipaaGreatDoor
open Go.RowKit Go.Instr Go.Sort
set_option maxRecDepth 100000
set_option maxHeartbeats 4000000
def pcOk (size:Int) (x:MPiece):Bool:=inB x.len 1 size&&inB x.pos 0 (size-x.len)
def pcM (x:MPiece):Nat:=mk x.len.toNat*2^x.pos.toNat
def z29 (size:Int):Nat->List MPiece->Nat×Int
 | m,[]=>(m,0)
 | m,x::L=>if pcOk size x=true then (if m&&&pcM x=0 then z29 size (m|||pcM x) L else (0,8)) else (0,8)
def z3f (size:Int) (L:List MPiece):Nat×Int:=if 1<=size/\size<=64 then (if L.length<=4 then z29 size 0 L else (0,4)) else (0,2)
theorem ztk {size:Int} {x:MPiece} (hs:size<=64) (h:pcOk size x=true):pcM x<2^size.toNat/\pcM x<18446744073709551616:=by
 unfold pcOk inB at h;simp at h;obtain ⟨⟨h1,h2⟩,h3,h4⟩:=h;have e:x.len.toNat+x.pos.toNat<=size.toNat:=by omega
 have h5:mk x.len.toNat*2^x.pos.toNat<2^x.len.toNat*2^x.pos.toNat:=Nat.mul_lt_mul_of_pos_right (by have:=zk2 x.len.toNat;omega) (Nat.two_pow_pos _);rw [<- Nat.pow_add] at h5;have h6:=Nat.pow_le_pow_right (n:=2) (by omega) e;have h7:=zhe size.toNat (by omega);unfold pcM;omega
theorem zz5 (size:Int) (x:MPiece) (hs:1<=size/\size<=64) (hx:(-9223372036854775808<=x.pos/\x.pos<=9223372036854775807)/\(-9223372036854775808<=x.len/\x.len<=9223372036854775807)):
 z4a 8 [inB x.len 1 size,inB x.pos 0 (wrap64 (size-x.len))]=if pcOk size x=true then 0 else 8:=by
 unfold z4a pcOk;by_cases h:inB x.len 1 size=true
 ·have h':=h;unfold inB at h';simp at h';have e:wrap64 (size-x.len)=size-x.len:=zg _ (by omega) (by omega);rw [h,e];simp
 ·have:inB x.len 1 size=false:=by simpa using h
  rw [this];simp
theorem z6v (w:World) (p l:Int):∀ B,w.heap.size=B->(w.alloc (.cells #[.int .i64 p,.int .i64 l] 128)).cell? ⟨B,0,none⟩=some (.int .i64 p)/\(w.alloc (.cells #[.int .i64 p,.int .i64 l] 128)).cell? ⟨B,1,none⟩=some (.int .i64 l):=by rintro _ rfl;simp only [World.cell?];rw [heap_alloc_new];exact ⟨rfl,rfl⟩
theorem z9e (a P T:Nat) (h:T=a*2^P) (hT:T<18446744073709551616):IntKind.u64.wrap ((a:Int)*2^P)=(T:Nat):=by
 have e:(a:Int)*2^P=((T:Nat):Int):=by rw [h];simp
 rw [e,IntKind.wrap_u64];omega
theorem z7c (er:Int) (a:Bool) (w:World) (B:Nat) (h:w.heap.size=B):
 Calls prog 76 #[.int .i64 er,.slice (some ⟨B,0,none⟩) 1 1] (w.alloc (.cells #[.bool a] 4)) fun e w'=>e=.returned (.int .i64 (z4a er [a]))/\w.alloc (.cells #[.bool a] 4)=w':=by subst h;exact need1 er a w
theorem z00o (er:Int) (a b:Bool) (w:World) (B:Nat) (h:w.heap.size=B):
 Calls prog 76 #[.int .i64 er,.slice (some ⟨B,0,none⟩) 2 2] (w.alloc (.cells #[.bool a,.bool b] 4)) fun e w'=>e=.returned (.int .i64 (z4a er [a,b]))/\w.alloc (.cells #[.bool a,.bool b] 4)=w':=by subst h;exact need2 er a b w
theorem z00p (er:Int) (a:Bool) (w:World) (B:Nat) (h:w.heap.size=B):
 Calls prog 76 #[.int .i64 er,.slice (some ⟨B,0,none⟩) 1 1] (w.alloc (.cells #[.bool a] 4)).drew fun e w'=>e=.returned (.int .i64 (z4a er [a]))/\(w.alloc (.cells #[.bool a] 4)).drew=w':=z7c er a w.drew B h
theorem zxl (er:Int) (a b:Bool) (w:World) (B:Nat) (h:w.heap.size=B):
 Calls prog 76 #[.int .i64 er,.slice (some ⟨B,0,none⟩) 2 2] (w.alloc (.cells #[.bool a,.bool b] 4)).drew fun e w'=>e=.returned (.int .i64 (z4a er [a,b]))/\(w.alloc (.cells #[.bool a,.bool b] 4)).drew=w':=z00o er a b w.drew B h
theorem z00q (er:Int) (a:Bool) (w:World) (B:Nat) (h:w.heap.size=B):
 Calls prog 76 #[.int .i64 er,.slice (some ⟨B,0,none⟩) 1 1] (w.alloc (.cells #[.bool a] 4)).drew.drew fun e w'=>e=.returned (.int .i64 (z4a er [a]))/\(w.alloc (.cells #[.bool a] 4)).drew.drew=w':=z7c er a w.drew.drew B h
theorem z3m (e:Int):z4a e [true]=0:=rfl
theorem z3w (e:Int):z4a e [false]=e:=rfl
theorem zsu (size:Int) (A:Option Addr) (c:Nat) (L:List MPiece) (w:World) (hs:1<=size/\size<=64) (hA:z3y w A L) (hok:zcb L) (hc:L.length<=c) (hcm:c<=maxLen) (h4:L.length<=4):
 Calls prog 48 #[.int .i64 size,.slice A L.length c] w fun e w'=>e=.returned (.tuple #[.int .u64 ((z29 size 0 L).1:Nat),.int .i64 (z29 size 0 L).2])/\Below w.heap.size w w':=by
 have HI:=hid (fun W=>z33 size 1 64 W);rw [show inB size 1 64=true by unfold inB;simpa using hs] at HI;obtain ⟨n,hn⟩:∃ n,L.length=n:=⟨_,rfl⟩;have HN:=hid hn;have HA:=hid hA;have HOK:=hid hok;have hn4:(n:Int)<=4:=by omega
 rw [hn];obtain ⟨R,hR⟩:∃ R,z29 size 0 L=R:=⟨_,rfl⟩;rw [hR];have HR:=hid hR;obtain ⟨hs1,hs2⟩:=hs;clear hn hA hok hc hcm h4 hR;have g4:decide ((n:Int)<=4)=true:=by simpa using hn4
 go_enter Tryz.func48,Tryz.ntmps48
 go_wp2_with (first
  | (go_at_call 82;(with_reducible refine (HI.out _).mono ?_);rintro e w' ⟨rfl,rfl⟩)
  | (go_at_call 76;(with_reducible refine (z7c 2 true _ _ (by simp)).mono ?_);rw [z3m];rintro e w' ⟨rfl,rfl⟩)
  | (go_at_call 76;(with_reducible refine (z7c 4 true _ _ (by simp)).mono ?_);rw [z3m];rintro e w' ⟨rfl,rfl⟩))
 go_loopw [8,31] (fun vm vi wr=>∃ (m i:Nat),vm=.int .u64 m/\vi=.int .i64 i/\i<=n/\m<18446744073709551616/\Below w.heap.size w wr/\Hid (z29 size m (L.drop i)=R)) (fun _ vi _=>n-(intOf vi).toNat)
 case atStart=>exact ⟨0,0,rfl,rfl,Nat.zero_le _,by decide,(((Below.refl _ w).alloc (Nat.le_refl _) _).alloc (by simp) _),hid (by rw [List.drop_zero];exact HR.out)⟩
 case round=>
  obtain ⟨m,i,rfl,rfl,hi,hm,hbw,HG⟩:=hrel;by_cases hlt:i<n
  ·obtain ⟨x,hx⟩:∃ x,L[i]? =some x:=⟨_,List.getElem?_eq_getElem (by rw [HN.out];exact hlt)⟩;obtain ⟨g,o,rfl,hg,t0,t1⟩:=(HA.out.later hbw) i x hx;have hxo:=HOK.out x (List.mem_of_getElem? hx);have hd:L.drop i=x::L.drop (i+1):=by
    rw [List.drop_eq_getElem_cons (by rw [HN.out];exact hlt)]
    congr 1
    exact Option.some.inj ((List.getElem?_eq_getElem _).symm.trans hx)
   have HG2:=HG.out;rw [hd] at HG2;simp only [z29] at HG2;have hpn:=zz5 size x ⟨hs1,hs2⟩ hxo;have HLT:=hid hlt;have HM:=hid hm;obtain ⟨PC,hPC⟩:∃ PC,pcOk size x=PC:=⟨_,rfl⟩;have HPC:=hid hPC;rw [hPC] at hpn HG2;have HGH:=hid HG2;obtain ⟨p,hp⟩:∃ p,x.pos=p:=⟨_,rfl⟩;obtain ⟨l,hl⟩:∃ l,x.len=l:=⟨_,rfl⟩;rw [hp] at t0 hpn;rw [hl] at t1 hpn;have HPN:=hid hpn;have I1:=hid (fun W=>z33 l 1 size W);have I2:=hid (fun z W=>z33 p 0 z W);have HPL:=hid (And.intro hp hl);clear HG2 hpn hd hxo hx hm hPC hp hl hg;obtain ⟨B,hB⟩:∃ B,wr.heap.size=B:=⟨_,rfl⟩;have hPCELL:=z6v wr p l B hB;have HPM:=hid (ztk (x:=x) hs2);cases PC
   ·simp only [Bool.false_eq_true,if_false] at HPN HGH;go_wp2_with fail
    refine wp_region_still_tail 11 (by kernel_rfl) (by kernel_rfl) ?_;change wpStill _ _ (World.drew _) (fun a'=>wpList _ _ _ _ a' (World.drew _)) _ _;simp only [List.take_succ_cons,List.take_zero,List.drop_succ_cons,List.drop_zero]
    repeat (first
     | still_step
     | (refine wpStill_step (fun K hK=>?_);go_simp;(with_reducible refine ⟨_,z62 (I1.out _),hK _ ?_⟩);clear hK K)
     | (refine wpStill_step (fun K hK=>?_);go_simp;(with_reducible refine ⟨_,z62 (I2.out _ _),hK _ ?_⟩);clear hK K))
    refine wpStill_nil ?_;go_wp2_with (go_at_call 76;(with_reducible refine (zxl 8 _ _ _ _ (by simp;omega)).mono ?_);rw [HPN.out];rintro e w5 ⟨rfl,rfl⟩)
    go_ret2
    rw [<- HGH.out];exact ⟨rfl,((hbw.alloc hbw.size _).alloc (by have:=hbw.size;simp;omega) _).drew⟩
   ·simp only [if_true] at HPN HGH;obtain ⟨P,rfl⟩:∃ P:Nat,p=P:=⟨p.toNat,by have:=HPC.out;unfold pcOk inB at this;rw [HPL.out.1,HPL.out.2] at this;simp at this;omega⟩;obtain ⟨l',rfl⟩:∃ P:Nat,l=P:=⟨l.toNat,by have:=HPC.out;unfold pcOk inB at this;rw [HPL.out.1,HPL.out.2] at this;simp at this;omega⟩;obtain ⟨q1,q2,q3⟩:1<=l'/\l'<=64/\l'+P<=64:=by have:=HPC.out;unfold pcOk inB at this;rw [HPL.out.1,HPL.out.2] at this;simp at this;omega
    obtain ⟨hT1,hT2⟩:=HPM.out HPC.out;have hPCM:pcM x=mk l'*2^P:=(by unfold pcM;rw [HPL.out.1,HPL.out.2];rfl);have HMK:=hid (fun W=>z2m l' W q1 q2);obtain ⟨T,hT⟩:∃ T,pcM x=T:=⟨_,rfl⟩;rw [hT] at hT2 hPCM HGH;have hW:=z9e (mk l') P T hPCM hT2;have HPN2:Hid (z4a 8 [inB (l':Int) 1 size,inB (P:Int) 0 (size-l')]=0):=hid (by have h:=HPC.out;unfold pcOk at h;rw [HPL.out.1,HPL.out.2,Bool.and_eq_true] at h;rw [h.1,h.2];rfl)
    have HAND:=hid (bits_and_u64_nat m T HM.out hT2);have HOR:=hid (bits_or_u64_nat m T HM.out hT2);have hmT:m|||T<18446744073709551616:=Nat.or_lt_two_pow (n:=64) HM.out hT2;have HMT:=hid hmT;clear hPCM hT hT1 hT2;have hq:(bits .and .u64 (m:Int) (T:Int)==0)=decide (m&&&T=0):=by
     rw [HAND.out];by_cases e:m&&&T=0
     ·rw [e];rfl
     ·simp [e]
    have hor:=HOR.out;by_cases hfree:m&&&T=0
    all_goals
     simp only [hfree,if_true,if_false,decide_true,decide_false] at HGH hq;clear hfree;go_wp2_with fail
     refine wp_region_still_tail 11 (by kernel_rfl) (by kernel_rfl) ?_;change wpStill _ _ (World.drew _) (fun a'=>wpList _ _ _ _ a' (World.drew _)) _ _;simp only [List.take_succ_cons,List.take_zero,List.drop_succ_cons,List.drop_zero]
     repeat (first
      | still_step
      | (refine wpStill_step (fun K hK=>?_);go_simp;(with_reducible refine ⟨_,z62 (I1.out _),hK _ ?_⟩);clear hK K)
      | (refine wpStill_step (fun K hK=>?_);go_simp;(with_reducible refine ⟨_,z62 (I2.out _ _),hK _ ?_⟩);clear hK K))
     refine wpStill_nil ?_;go_wp2_with (go_at_call 76;(with_reducible refine (zxl 8 _ _ _ _ (by simp;omega)).mono ?_);rw [HPN2.out];rintro e w5 ⟨rfl,rfl⟩)
     refine wp_region_still_lit (by kernel_rfl) (by kernel_rfl) ?_;change wpStill _ _ (World.drew _) _ _ _
     repeat (first
      | still_step
      | (refine wpStill_step (fun K hK=>?_);go_simp;(with_reducible refine ⟨_,z62 (HMK.out _),hK _ ?_⟩);clear hK K))
     refine wpStill_nil ?_;change Exit.then _ _ _ _ (World.drew _);go_wp2_with (go_at_call 76;(with_reducible refine (z00q 8 _ _ _ (by simp;omega)).mono ?_);(first|rw [z3m]|rw [z3w]);rintro e w5 ⟨rfl,rfl⟩)
    ·go_roundw
     case rel=>refine ⟨m|||T,i+1,by first|rfl|go_num,by first|rfl|go_num|(congr 1),by have:=HLT.out;omega,HMT.out,?_,hid HGH.out⟩;exact (((hbw.alloc hbw.size _).alloc (by have:=hbw.size;simp;omega) _).alloc (by have:=hbw.size;simp;omega) _).drew.drew
     case measure=>simp only [intOf];have:=HLT.out;omega
    ·go_ret2
     rw [<- HGH.out];exact ⟨rfl,(((hbw.alloc hbw.size _).alloc (by have:=hbw.size;simp;omega) _).alloc (by have:=hbw.size;simp;omega) _).drew.drew⟩
  ·obtain rfl:i=n:=by omega
   have HG2:=HG.out;rw [List.drop_of_length_le (by rw [HN.out];exact Nat.le_refl _)] at HG2;simp only [z29] at HG2;have HH:=hid HG2;clear HG2;go_wp2
   go_ret2
   rw [<- HH.out];exact ⟨rfl,hbw⟩
theorem zly (size:Int) (A:Option Addr) (c:Nat) (L:List MPiece) (w:World) (hA:z3y w A L) (hok:zcb L) (hc:L.length<=c) (hcm:c<=maxLen):
 Calls prog 48 #[.int .i64 size,.slice A L.length c] w fun e w'=>e=.returned (.tuple #[.int .u64 ((z3f size L).1:Nat),.int .i64 (z3f size L).2])/\Below w.heap.size w w':=by
 by_cases hs:1<=size/\size<=64
 ·by_cases h4:L.length<=4
  ·have:=zsu size A c L w hs hA hok hc hcm h4
   rwa [show z3f size L=z29 size 0 L by unfold z3f;rw [if_pos hs,if_pos h4]]
  ·have HI:=hid (fun W=>z33 size 1 64 W);rw [show inB size 1 64=true by unfold inB;simpa using hs] at HI;rw [show z3f size L=(0,4) by unfold z3f;rw [if_pos hs,if_neg h4]];obtain ⟨n,hn⟩:∃ n,L.length=n:=⟨_,rfl⟩;rw [hn] at h4 ⊢;have g4:decide ((n:Int)<=4)=false:=by simp;omega
   clear hA hok hc hcm h4 hs hn;go_enter Tryz.func48,Tryz.ntmps48
   go_wp2_with (first
    | (go_at_call 82;(with_reducible refine (HI.out _).mono ?_);rintro e w' ⟨rfl,rfl⟩)
    | (go_at_call 76;(with_reducible refine (z7c 2 true _ _ (by simp)).mono ?_);rw [z3m];rintro e w' ⟨rfl,rfl⟩)
    | (go_at_call 76;(with_reducible refine (z7c 4 false _ _ (by simp)).mono ?_);rw [z3w];rintro e w' ⟨rfl,rfl⟩))
   go_ret2
   exact ⟨rfl,((Below.refl _ w).alloc (Nat.le_refl _) _).alloc (by simp) _⟩
 ·have HI:=hid (fun W=>z33 size 1 64 W);rw [show inB size 1 64=false by unfold inB;simpa using hs] at HI;rw [show z3f size L=(0,2) by unfold z3f;rw [if_neg hs]];clear hA hok hc hcm hs;go_enter Tryz.func48,Tryz.ntmps48
  go_wp2_with (first
   | (go_at_call 82;(with_reducible refine (HI.out _).mono ?_);rintro e w' ⟨rfl,rfl⟩)
   | (go_at_call 76;(with_reducible refine (z7c 2 false _ _ (by simp)).mono ?_);rw [z3w];rintro e w' ⟨rfl,rfl⟩))
  go_ret2
  exact ⟨rfl,(Below.refl _ w).alloc (Nat.le_refl _) _⟩
theorem zpb (size:Int) (A:Option Addr) (c:Nat) (L:List MPiece) (w:World) (hA:z3y w A L) (hok:zcb L) (hc:L.length<=c) (hcm:c<=maxLen):
 Calls prog 103 #[.int .i64 size,.slice A L.length c] w fun e w'=>e=.returned (.int .i64 (z3f size L).2)/\Below w.heap.size w w':=by
 have HM:=hid (fun W (h:z3y W A L)=>zly size A c L W h hok hc hcm);have HA:=hid hA;obtain ⟨n,hn⟩:∃ n,L.length=n:=⟨_,rfl⟩;rw [hn] at HM ⊢;generalize (z3f size L).1=x at *;generalize (z3f size L).2=z at *;clear hA hok hc hcm hn;go_enter Tryz.func103,Tryz.ntmps103
 go_wp2_with (go_at_call 48;(with_reducible refine (HM.out _ HA.out).mono ?_);rintro e w' ⟨rfl,hb⟩)
 go_ret
 exact ⟨rfl,hb⟩
end Go.Proofs.YtofhpahihneipaaGreatDoor
namespace Go.Proofs.YtofhpahihneipaaGreatDoor
open Go.RowKit
def MPiece.p (x:MPiece):Nat:=x.pos.toNat
def MPiece.l (x:MPiece):Nat:=x.len.toNat
theorem ztj (x:MPiece):pcM x=(2^x.l-1)*2^x.p:=rfl
def MPiece.has (x:MPiece) (j:Nat):Bool:=decide (x.p<=j/\j<x.p+x.l)
def hasL (L:List MPiece) (j:Nat):Bool:=L.any (fun x=>x.has j)
def zl:List MPiece->Nat|[]=>0|x::L=>x.l+zl L
def z2i (size:Int):Nat->List MPiece->Prop
 | _,[]=>True
 | m,x::L=>pcOk size x=true/\m&&&pcM x=0/\z2i size (m|||pcM x) L
def z3e (m:Nat):List MPiece->Nat|[]=>m|x::L=>z3e (m|||pcM x) L
theorem z8j (x:MPiece) (j:Nat):(pcM x).testBit j=x.has j:=by rw [ztj];unfold MPiece.has;rw [Nat.testBit_mul_two_pow,Nat.testBit_two_pow_sub_one];rw [Bool.eq_iff_iff];simp;omega
theorem zct {size:Int}:∀ (L:List MPiece) (m:Nat),((z29 size m L).2=0↔z2i size m L)/\(z2i size m L->z29 size m L=(z3e m L,0))/\((z29 size m L).2=0∨z29 size m L=(0,8))
 | [],m=>⟨by simp [z29,z2i],fun _=>rfl,by simp [z29]⟩
 | x::L,m=>by
   have ih:=zct (size:=size) L (m|||pcM x)
   by_cases h1:pcOk size x=true
   ·by_cases h2:m&&&pcM x=0
    ·have e:z29 size m (x::L)=z29 size (m|||pcM x) L:=(by simp only [z29];rw [if_pos h1,if_pos h2]);rw [e];exact ⟨⟨(fun h=>⟨h1,h2,ih.1.1 h⟩),(fun h=>ih.1.2 h.2.2)⟩,(fun h=>ih.2.1 h.2.2),ih.2.2⟩
    ·have e:z29 size m (x::L)=(0,8):=(by simp only [z29];rw [if_pos h1,if_neg h2]);rw [e];exact ⟨⟨(fun h=>by cases h),(fun h=>absurd h.2.1 h2)⟩,(fun h=>absurd h.2.1 h2),.inr rfl⟩
   ·have e:z29 size m (x::L)=(0,8):=(by simp only [z29];rw [if_neg h1]);rw [e];exact ⟨⟨(fun h=>by cases h),(fun h=>absurd h.1 h1)⟩,(fun h=>absurd h.1 h1),.inr rfl⟩
theorem z5z {size:Int} {x:MPiece}:pcOk size x=true↔1<=x.len/\x.len<=size/\0<=x.pos/\x.pos<=size-x.len:=by unfold pcOk inB;simp [and_assoc]
theorem z40 {a b:Nat}:a&&&b=0↔∀ j,¬ (a.testBit j=true/\b.testBit j=true):=by
 constructor
 ·intro h j ⟨h1,h2⟩;have:=congrArg (fun z=>z.testBit j) h;simp [h1,h2] at this
 ·intro h;apply Nat.eq_of_testBit_eq;intro j;have:=h j;simp only [Nat.testBit_and,Nat.zero_testBit];cases h1:a.testBit j<;>cases h2:b.testBit j<;>simp_all
theorem z2i.mem {size:Int}:∀ {L:List MPiece} {m:Nat},z2i size m L->∀ x∈L,pcOk size x=true/\m&&&pcM x=0
 | y::L,m,h,x,hx=>by
   cases hx with
   | head=>exact ⟨h.1,h.2.1⟩
   | tail _ hx=>obtain ⟨h1,h2⟩:=z2i.mem h.2.2 x hx;refine ⟨h1,z40.2 fun j ⟨a,b⟩=>z40.1 h2 j ⟨?_,b⟩⟩;rw [Nat.testBit_or,a];rfl
theorem z2i.free {size:Int} {L:List MPiece} {m:Nat} (h:z2i size m L) (j:Nat) (hj:hasL L j=true):m.testBit j=false:=by unfold hasL at hj;rw [List.any_eq_true] at hj;obtain ⟨x,hx,hb⟩:=hj;have:=z40.1 (h.mem x hx).2 j;rw [z8j,hb] at this;simpa using this
theorem z2i.sub {size:Int}:∀ {L:List MPiece} {m m':Nat},z2i size m L->(∀ j,m'.testBit j=true->m.testBit j=true)->z2i size m' L
 | [],_,_,_,_=>trivial
 | x::L,m,m',h,hs=>⟨h.1,z40.2 fun j ⟨a,b⟩=>z40.1 h.2.1 j ⟨hs j a,b⟩,z2i.sub h.2.2 fun j hj=>by rw [Nat.testBit_or,Bool.or_eq_true] at hj ⊢;exact hj.imp (hs j) id⟩
theorem z7a:∀ (L:List MPiece) (m j:Nat),(z3e m L).testBit j=(m.testBit j||hasL L j)
 | [],m,j=>by simp [z3e,hasL]
 | x::L,m,j=>by rw [z3e,z7a L,Nat.testBit_or,z8j,Bool.or_assoc];rfl
def cnt (p:Nat->Bool):Nat->Nat|0=>0|n+1=>cnt p n+if p n=true then 1 else 0
theorem zx9 (p:Nat->Bool):∀ n,cnt p n<=n
 | 0=>Nat.le_refl _
 | n+1=>by have:=zx9 p n;simp only [cnt];split<;>omega
theorem zxa {p q:Nat->Bool}:∀ n,(∀ i,i<n->¬ (p i=true/\q i=true))->cnt (fun i=>p i||q i) n=cnt p n+cnt q n
 | 0,_=>rfl
 | n+1,h=>by
   have ih:=zxa (p:=p) (q:=q) n (fun i hi=>h i (by omega));have h0:=h n (by omega);simp only [cnt,ih,Bool.or_eq_true];by_cases hp:p n=true<;>by_cases hq:q n=true
   ·exact absurd ⟨hp,hq⟩ h0
   ·simp [hp,hq];omega
   ·simp [hp,hq];omega
   ·simp [hp,hq]
theorem zqh (a l:Nat):∀ n,cnt (fun i=>decide (a<=i/\i<a+l)) n=min n (a+l)-min n a
 | 0=>by simp [cnt]
 | n+1=>by have ih:=zqh a l n;simp only [cnt,ih,decide_eq_true_eq];split<;>omega
def pop (m n:Nat):Nat:=cnt (fun i=>m.testBit i) n
theorem zxp {m:Nat} {x:MPiece} (n:Nat) (h:m&&&pcM x=0) (hx:x.p+x.l<=n):pop (m|||pcM x) n=pop m n+x.l:=by
 unfold pop;have e:(fun i=>(m|||pcM x).testBit i)=fun i=>m.testBit i||decide (x.p<=i/\i<x.p+x.l):=by funext i;rw [Nat.testBit_or,z8j];rfl
 rw [e,zxa n,zqh]
 ·have e9:cnt (fun i=>m.testBit i) n=cnt m.testBit n:=rfl;omega
 ·rintro i _ ⟨a,b⟩;exact z40.1 h i ⟨a,by rw [z8j];exact b⟩
theorem z2i.width {size:Int}:∀ {L:List MPiece} {m:Nat},z2i size m L->pop m size.toNat+zl L<=size.toNat
 | [],m,_=>by have:=zx9 (fun i=>m.testBit i) size.toNat;unfold pop zl;omega
 | x::L,m,h=>by have ih:=z2i.width h.2.2;obtain ⟨c1,c2,c3,c4⟩:=z5z.1 h.1;rw [zxp _ h.2.1 (by unfold MPiece.p MPiece.l;omega)] at ih;simp only [zl];omega
def getN (w:Nat):List MPiece->Nat|[]=>0|x::L=>w / 2^x.p%2^x.l+2^x.l*getN w L
def pstep (w f:Nat) (x:MPiece):Nat:=(w-(w&&&pcM x))|||(f%2^x.l*2^x.p)
def putN (w f:Nat):List MPiece->Nat|[]=>w|x::L=>putN (pstep w f x) (f / 2^x.l) L
theorem zzu:∀ {a b:Nat},a&&&b=0->a+b=a|||b:=by
 intro a
 induction a using Nat.strongRecOn with
 | _ a ih=>
   intro b h;by_cases ha:a=0
   ·subst ha;simp
   ·have h2:(a / 2)&&&(b / 2)=0:=(by rw [<- Nat.and_div_two,h]);have e:=ih (a / 2) (by omega) h2;have h0:=z40.1 h 0;rw [Nat.testBit_zero,Nat.testBit_zero] at h0;simp at h0;have e2:(a|||b) / 2=a / 2|||b / 2:=Nat.or_div_two;have e3:(a|||b)%2=a%2+b%2:=by
     have e4:=Nat.testBit_or a b 0;rw [Nat.testBit_zero,Nat.testBit_zero,Nat.testBit_zero] at e4;rcases Nat.mod_two_eq_zero_or_one a with u|u<;>rcases Nat.mod_two_eq_zero_or_one b with v|v<;>rcases Nat.mod_two_eq_zero_or_one (a|||b) with t|t<;>simp_all
    omega
theorem zan (w m j:Nat):(w-(w&&&m)).testBit j=(w.testBit j&& !m.testBit j):=by
 have e:w-(w&&&m)=w^^^(w&&&m):=by
  have h:(w&&&m)+(w^^^(w&&&m))=w:=by
   have h1:(w&&&m)&&&(w^^^(w&&&m))=0:=by rw [z40];intro i;simp only [Nat.testBit_and,Nat.testBit_xor];cases w.testBit i<;>cases m.testBit i<;>simp
   rw [zzu h1];apply Nat.eq_of_testBit_eq;intro i;simp only [Nat.testBit_or,Nat.testBit_and,Nat.testBit_xor];cases w.testBit i<;>cases m.testBit i<;>simp
  omega
 rw [e,Nat.testBit_xor,Nat.testBit_and];cases w.testBit j<;>cases m.testBit j<;>simp
theorem z6r {x:MPiece} {j:Nat}:x.has j=true↔x.p<=j/\j<x.p+x.l:=by unfold MPiece.has;simp
theorem zaf (w f:Nat) (x:MPiece) (j:Nat):(pstep w f x).testBit j=if x.has j=true then f.testBit (j-x.p) else w.testBit j:=by
 unfold pstep;rw [Nat.testBit_or,zan,z8j,Nat.testBit_mul_two_pow,Nat.testBit_mod_two_pow];by_cases h:x.has j=true
 ·obtain ⟨a,b⟩:=z6r.1 h;rw [if_pos h,h];have e1:decide (j≥x.p)=true:=by simpa using a
  have e2:decide (j-x.p<x.l)=true:=by simp;omega
  rw [e1,e2];simp
 ·have h':=fun q=>h (z6r.2 q);rw [if_neg h,(by simpa using h:x.has j=false)];by_cases e1:x.p<=j
  ·have e2:decide (j-x.p<x.l)=false:=by
    have:¬ (j<x.p+x.l):=fun q=>h' ⟨e1,q⟩;simp;omega
   rw [e2];simp
  ·have e2:decide (j≥x.p)=false:=by simp;omega
   rw [e2];simp
def valJ (f:Nat):List MPiece->Nat->Bool|[],_=>false|x::L,j=>if hasL L j=true then valJ (f / 2^x.l) L j else f.testBit (j-x.p)
theorem z60:∀ (L:List MPiece) (w f j:Nat),(putN w f L).testBit j=if hasL L j=true then valJ f L j else w.testBit j
 | [],w,f,j=>by simp [putN,hasL]
 | x::L,w,f,j=>by rw [putN,z60 L,zaf];have e:hasL (x::L) j=(x.has j||hasL L j):=rfl;simp only [valJ];rw [e];cases x.has j<;>cases hasL L j<;>simp
theorem zek {w w':Nat}:∀ L:List MPiece,(∀ j,hasL L j=true->w.testBit j=w'.testBit j)->getN w L=getN w' L
 | [],_=>rfl
 | x::L,h=>by
   have ih:=zek L (fun j hj=>h j (by simp only [hasL,List.any_cons] at hj ⊢;rw [hj];simp));simp only [getN];rw [ih]
   congr 1
   apply Nat.eq_of_testBit_eq;intro i;rw [Nat.testBit_mod_two_pow,Nat.testBit_mod_two_pow,Nat.testBit_div_two_pow,Nat.testBit_div_two_pow];by_cases hi:i<x.l
   ·rw [h (i+x.p) (by simp only [hasL,List.any_cons,Bool.or_eq_true];left;exact z6r.2 (by omega))]
   ·simp [hi]
theorem zto (w f:Nat) (x:MPiece):pstep w f x / 2^x.p%2^x.l=f%2^x.l:=by
 apply Nat.eq_of_testBit_eq;intro i;rw [Nat.testBit_mod_two_pow,Nat.testBit_mod_two_pow,Nat.testBit_div_two_pow,zaf];by_cases hi:i<x.l
 ·have e:x.has (i+x.p)=true:=z6r.2 (by omega);rw [if_pos e];simp
 ·simp [hi]
theorem zs4 {size:Int} {x:MPiece} {L:List MPiece} {m:Nat} (h:z2i size m (x::L)) (j:Nat) (hx:x.has j=true):hasL L j=false:=by
 cases hj:hasL L j
 ·rfl
 ·have:=h.2.2.free j hj;rw [Nat.testBit_or,z8j,hx] at this;simp at this
theorem zrw {size:Int}:∀ {L:List MPiece} {m:Nat} (w f:Nat),z2i size m L->f<2^zl L->getN (putN w f L) L=f
 | [],m,w,f,_,hf=>by simp [zl] at hf;simp [getN,hf]
 | x::L,m,w,f,h,hf=>by
   simp only [zl,Nat.pow_add] at hf;have ih:=zrw (pstep w f x) (f / 2^x.l) h.2.2 (Nat.div_lt_of_lt_mul hf);simp only [getN,putN];rw [ih];have e:putN (pstep w f x) (f / 2^x.l) L / 2^x.p%2^x.l=pstep w f x / 2^x.p%2^x.l:=by
    apply Nat.eq_of_testBit_eq;intro i;rw [Nat.testBit_mod_two_pow,Nat.testBit_mod_two_pow,Nat.testBit_div_two_pow,Nat.testBit_div_two_pow];by_cases hi:i<x.l
    ·rw [z60,if_neg (by rw [zs4 h (i+x.p) (z6r.2 (by omega))];decide)]
    ·simp [hi]
   rw [e,zto];exact Nat.mod_add_div f _
theorem ztu:∀ (L:List MPiece) (w:Nat),putN w (getN w L) L=w
 | [],w=>rfl
 | x::L,w=>by
   simp only [getN,putN];have hl:=Nat.mod_lt (w / 2^x.p) (Nat.two_pow_pos x.l);have e1:(w / 2^x.p%2^x.l+2^x.l*getN w L) / 2^x.l=getN w L:=by rw [Nat.add_mul_div_left _ _ (Nat.two_pow_pos x.l),Nat.div_eq_of_lt hl,Nat.zero_add]
   have e2:pstep w (w / 2^x.p%2^x.l+2^x.l*getN w L) x=w:=by
    apply Nat.eq_of_testBit_eq;intro j;rw [zaf];by_cases h:x.has j=true
    ·rw [if_pos h];have h:=z6r.1 h;have e3:(w / 2^x.p%2^x.l+2^x.l*getN w L).testBit (j-x.p)=(w / 2^x.p%2^x.l).testBit (j-x.p):=by
      have a1:=Nat.testBit_mod_two_pow (w / 2^x.p%2^x.l+2^x.l*getN w L) x.l (j-x.p);rw [Nat.add_mul_mod_self_left,Nat.mod_mod] at a1;have hd:decide (j-x.p<x.l)=true:=(by simp;omega);rw [hd,Bool.true_and] at a1;exact a1.symm
     rw [e3,Nat.testBit_mod_two_pow,Nat.testBit_div_two_pow];have hd:decide (j-x.p<x.l)=true:=(by simp;omega);rw [hd,Bool.true_and,Nat.sub_add_cancel h.1]
    ·rw [if_neg h]
   rw [e1,e2];exact ztu L w
theorem ztq {size:Int} {L:List MPiece} {m w f:Nat} (h:z2i size m L) (hw:w<2^size.toNat):putN w f L<2^size.toNat:=by
 apply Nat.lt_pow_two_of_testBit;intro j hj;rw [z60];have hn:hasL L j=false:=by
  cases hh:hasL L j
  ·rfl
  ·unfold hasL at hh;rw [List.any_eq_true] at hh;obtain ⟨x,hx,hb⟩:=hh;obtain ⟨c1,c2,c3,c4⟩:=z5z.1 (h.mem x hx).1;have hb:=z6r.1 hb;unfold MPiece.p MPiece.l at hb;omega
 rw [if_neg (by rw [hn];decide)];exact Nat.testBit_lt_two_pow (Nat.lt_of_lt_of_le hw (Nat.pow_le_pow_right (by omega) hj))
end Go.Proofs.YtofhpahihneipaaGreatDoor
namespace Go.Proofs.YtofhpahihneipaaGreatDoor
open Go.RowKit
set_option maxRecDepth 100000
def mm (c:Nat):Nat->Nat|0=>0|k+1=>256*mm c k+c
theorem z6y (q r M c:Nat) (hr:r<256) (hc:c<256):(256*q+r)&&&(256*M+c)=256*(q&&&M)+(r&&&c):=by
 have h1:((256*q+r)&&&(256*M+c)) / 2^8=q&&&M:=by rw [Nat.and_div_two_pow];rw [show (256*q+r) / 2^8=q by omega,show (256*M+c) / 2^8=M by omega]
 have h2:((256*q+r)&&&(256*M+c))%2^8=r&&&c:=by rw [Nat.and_mod_two_pow];rw [show (256*q+r)%2^8=r by omega,show (256*M+c)%2^8=c by omega]
 omega
def s1 (k x:Nat):Nat:=(x / 2&&&mm 85 k)+(x&&&mm 85 k)
def s2 (k x:Nat):Nat:=(x / 4&&&mm 51 k)+(x&&&mm 51 k)
def s3 (k x:Nat):Nat:=(x / 16+x)&&&mm 15 k
def s1b (r:Nat):Nat:=(r / 2&&&85)+(r&&&85)
def s2b (r:Nat):Nat:=(r / 4&&&51)+(r&&&51)
def s3b (r:Nat):Nat:=(r / 16+r)&&&15
theorem z016:∀ q,q<2->∀ r,r<256->(128*q+r / 2)&&&85=r / 2&&&85:=by decide
theorem z018:∀ q,q<4->∀ r,r<256->(64*q+r / 4)&&&51=r / 4&&&51:=by decide
theorem zzg (k q r:Nat) (hr:r<256):s1 (k+1) (256*q+r)=256*s1 k q+s1b r:=by unfold s1 s1b;rw [mm,z6y q r _ 85 hr (by omega),show (256*q+r) / 2=256*(q / 2)+(128*(q%2)+r / 2) by omega,z6y _ _ _ 85 (by omega) (by omega),z016 _ (by omega) r hr];omega
theorem zzh (k q r:Nat) (hr:r<256):s2 (k+1) (256*q+r)=256*s2 k q+s2b r:=by unfold s2 s2b;rw [mm,z6y q r _ 51 hr (by omega),show (256*q+r) / 4=256*(q / 4)+(64*(q%4)+r / 4) by omega,z6y _ _ _ 51 (by omega) (by omega),z018 _ (by omega) r hr];omega
theorem z017:∀ r,r<256->s1b r<256:=by decide
theorem s12b:∀ r,r<256->s2b (s1b r) / 16<=4/\s2b (s1b r)%16<=4:=by decide
def pops:Nat->Nat->Nat|0,_=>0|k+1,x=>256*pops k (x / 256)+s3b (s2b (s1b (x%256)))
def twos:Nat->Nat->Nat|0,_=>0|k+1,x=>256*twos k (x / 256)+s2b (s1b (x%256))
theorem zzi:∀ k x,s2 k (s1 k x)=twos k x
 | 0,x=>by simp [s1,s2,mm,twos]
 | k+1,x=>by rw [show x=256*(x / 256)+x%256 by omega,zzg _ _ _ (by omega),zzh _ _ _ (z017 _ (by omega)),zzi k,twos];rw [show (256*(x / 256)+x%256) / 256=x / 256 by omega,show (256*(x / 256)+x%256)%256=x%256 by omega]
theorem zwy:∀ k x,twos k x%16<=4
 | 0,x=>by simp [twos]
 | k+1,x=>by have h:=s12b (x%256) (by omega);rw [twos];omega
theorem z019:∀ q,q<=4->∀ h,h<=4->∀ l,l<=4->(16*q+((16*h+l) / 16+(16*h+l)))&&&15=((16*h+l) / 16+(16*h+l))&&&15:=by decide
theorem zty:∀ k x,s3 k (s2 k (s1 k x))=pops k x
 | 0,x=>by simp [s3,mm,pops]
 | k+1,x=>by rw [zzi];have ih:=zty k (x / 256);rw [zzi] at ih;have hb:=s12b (x%256) (by omega);have hl:=zwy k (x / 256);unfold s3 at ih ⊢;rw [twos,pops,<-ih];generalize twos k (x / 256)=q at hl ⊢;unfold s3b;generalize s2b (s1b (x%256))=r at hb ⊢;rw [mm,show (256*q+r) / 16+(256*q+r)=256*(q / 16+q)+(16*(q%16)+(r / 16+r)) by omega,z6y _ _ _ 15 (by omega) (by omega)];have hc:=z019 (q%16) hl (r / 16) hb.1 (r%16) hb.2;rw [show 16*(r / 16)+r%16=r by omega] at hc;rw [hc]
theorem popB:∀ r,r<256->s3b (s2b (s1b r))=cnt (fun i=>r.testBit i) 8:=by decide
theorem zy2 (p:Nat->Bool):∀ n,cnt p n<=n
 | 0=>Nat.le_refl _
 | n+1=>by have:=zy2 p n;unfold cnt;split<;>omega
theorem ze6 (p:Nat->Bool) (n:Nat):∀ k,cnt p (n+k)=cnt p n+cnt (fun i=>p (n+i)) k
 | 0=>rfl
 | k+1=>by rw [<- Nat.add_assoc];simp only [cnt];rw [ze6 p n k];omega
theorem zch {p q:Nat->Bool}:∀ n,(∀ i,i<n->p i=q i)->cnt p n=cnt q n
 | 0,_=>rfl
 | n+1,h=>by simp only [cnt];rw [zch n (fun i hi=>h i (by omega)),h n (by omega)]
def ones:Nat->Nat->Nat|0,_=>0|k+1,x=>ones k (x / 256)+s3b (s2b (s1b (x%256)))
theorem zm5:∀ k x,ones k x=cnt (fun i=>x.testBit i) (8*k)
 | 0,x=>rfl
 | k+1,x=>by
   rw [ones,zm5 k,popB _ (by omega),show 8*(k+1)=8+8*k by omega,ze6,Nat.add_comm]
   congr 1
   ·exact zch 8 fun i hi=>by rw [show (256:Nat)=2^8 from rfl,Nat.testBit_mod_two_pow];simp [hi]
   ·exact zch (8*k) fun i hi=>by rw [show (256:Nat)=2^8 from rfl,Nat.testBit_div_two_pow,Nat.add_comm]
theorem z44:∀ r,r<256->s3b (s2b (s1b r))<=8:=by decide
theorem zm6 (x:Nat) (y:Nat) (hy:pops 8 x=y):∀ a,(y+y / 256)%18446744073709551616=a->∀ b,(a+a / 65536)%18446744073709551616=b->∀ c,(b+b / 4294967296)%18446744073709551616=c->c%128=ones 8 x/\ones 8 x<=64:=by
 intro a ha b hb c hc;simp only [pops,ones] at hy ⊢;have h0:=z44 (x%256) (by omega);have h1:=z44 (x / 256%256) (by omega);have h2:=z44 (x / 256 / 256%256) (by omega);have h3:=z44 (x / 256 / 256 / 256%256) (by omega);have h4:=z44 (x / 256 / 256 / 256 / 256%256) (by omega);have h5:=z44 (x / 256 / 256 / 256 / 256 / 256%256) (by omega);have h6:=z44 (x / 256 / 256 / 256 / 256 / 256 / 256%256) (by omega);have h7:=z44 (x / 256 / 256 / 256 / 256 / 256 / 256 / 256%256) (by omega);generalize s3b (s2b (s1b (x%256)))=p0 at *;generalize s3b (s2b (s1b (x / 256%256)))=p1 at *;generalize s3b (s2b (s1b (x / 256 / 256%256)))=p2 at *;generalize s3b (s2b (s1b (x / 256 / 256 / 256%256)))=p3 at *;generalize s3b (s2b (s1b (x / 256 / 256 / 256 / 256%256)))=p4 at *;generalize s3b (s2b (s1b (x / 256 / 256 / 256 / 256 / 256%256)))=p5 at *;generalize s3b (s2b (s1b (x / 256 / 256 / 256 / 256 / 256 / 256%256)))=p6 at *;generalize s3b (s2b (s1b (x / 256 / 256 / 256 / 256 / 256 / 256 / 256%256)))=p7 at *;subst hy;obtain ⟨q1,e1⟩:∃ q,q=256*(256*(256*(256*(256*(256*p7+p6)+p5)+p4)+p3)+p2)+p1:=⟨_,rfl⟩;have a2:a=256*(256*(256*(256*(256*(256*(256*p7+(p6+p7))+(p5+p6))+(p4+p5))+(p3+p4))+(p2+p3))+(p1+p2))+(p0+p1):=by rw [<- ha,show 256*(256*(256*(256*(256*(256*(256*(256*0+p7)+p6)+p5)+p4)+p3)+p2)+p1)+p0=256*q1+p0 by omega,show (256*q1+p0) / 256=q1 by omega,Nat.mod_eq_of_lt (by omega)];omega
 clear ha e1;obtain ⟨q2,e2⟩:∃ q,q=256*(256*(256*(256*(256*p7+(p6+p7))+(p5+p6))+(p4+p5))+(p3+p4))+(p2+p3):=⟨_,rfl⟩;obtain ⟨r2,f2⟩:∃ r,r=256*(p1+p2)+(p0+p1):=⟨_,rfl⟩;have b2:b=256*(256*(256*(256*(256*(256*(256*p7+(p6+p7))+(p5+p6+p7))+(p4+p5+p6+p7))+(p3+p4+p5+p6))+(p2+p3+p4+p5))+(p1+p2+p3+p4))+(p0+p1+p2+p3):=by rw [<- hb,show a=65536*q2+r2 by omega,show (65536*q2+r2) / 65536=q2 by omega,Nat.mod_eq_of_lt (by omega)];omega
 clear hb a2 e2 f2;obtain ⟨q3,e3⟩:∃ q,q=256*(256*(256*p7+(p6+p7))+(p5+p6+p7))+(p4+p5+p6+p7):=⟨_,rfl⟩;obtain ⟨r3,f3⟩:∃ r,r=256*(256*(256*(p3+p4+p5+p6)+(p2+p3+p4+p5))+(p1+p2+p3+p4))+(p0+p1+p2+p3):=⟨_,rfl⟩;have c2:c=256*(256*(256*(256*(256*(256*(256*p7+(p6+p7))+(p5+p6+p7))+(p4+p5+p6+p7))+(p3+p4+p5+p6+p7))+(p2+p3+p4+p5+p6+p7))+(p1+p2+p3+p4+p5+p6+p7))+(p0+p1+p2+p3+p4+p5+p6+p7):=by rw [<- hc,show b=4294967296*q3+r3 by omega,show (4294967296*q3+r3) / 4294967296=q3 by omega,Nat.mod_eq_of_lt (by omega)];omega
 clear hc b2 e3 f3;obtain ⟨z,hz⟩:∃ z,c=256*z+(p0+p1+p2+p3+p4+p5+p6+p7):=⟨_,c2⟩;clear c2;omega
end Go.Proofs.YtofhpahihneipaaGreatDoor
namespace Go.Proofs.YtofhpahihneipaaGreatDoor
open Go.RowKit Go.Shelf Go.Deep
attribute [local go_sem] Oper.semAt_some
def MPiece.fits (x:MPiece):Prop:=1<=x.len/\0<=x.pos/\x.pos+x.len<=64
def zmq (L:List MPiece):Prop:=(∀ x∈L,x.fits)/\zl L<=64
def z25:Nat->List MPiece->List (Nat×MPiece)|_,[]=>[]|p,x::L=>(p,x)::z25 (p+x.l) L
theorem z6w:∀ (L:List MPiece) (p:Nat),(z25 p L).length=L.length
 | [],_=>rfl
 | x::L,p=>by simp [z25,z6w L]
theorem zax:∀ (L:List MPiece) (i:Nat) (x:MPiece),L[i]? =some x->zl (L.drop i)=x.l+zl (L.drop (i+1))
 | y::L,0,x,h=>by simp at h;subst h;rfl
 | y::L,i+1,x,h=>by simpa using zax L i x (by simpa using h)
theorem zyb {L:List MPiece} {i:Nat} {x:MPiece} (h:L[i]? =some x):L.drop i=x::L.drop (i+1):=by
 have hlt:=(List.getElem?_eq_some_iff.1 h).1;rw [List.drop_eq_getElem_cons hlt]
 congr 1
 exact Option.some.inj ((List.getElem?_eq_getElem hlt).symm.trans h)
def zmr (w:World) (n:Nat) (A:Option Addr) (L:List MPiece):Prop:=∀ i x,L[i]? =some x->∃ g o,A=some ⟨g,o,none⟩/\g<n/\w.cell? ⟨g,o+i*2,none⟩=some (.int .i64 x.pos)/\w.cell? ⟨g,o+i*2+1,none⟩=some (.int .i64 x.len)
theorem zmr.kept {w w':World} {n:Nat} {A:Option Addr} {L:List MPiece} (h:zmr w n A L) (hb:Below n w w'):zmr w' n A L:=by intro i y hy;obtain ⟨g,o,e,hg,h0,h1⟩:=h i y hy;exact ⟨g,o,e,hg,by rw [hb.cell hg];exact h0,by rw [hb.cell hg];exact h1⟩
theorem z3y.in {w:World} {A:Option Addr} {L:List MPiece} (h:z3y w A L):zmr w w.heap.size A L:=h
abbrev PEl:Type:={ x:Nat×MPiece // x.2.fits/\x.1+x.2.l<=64 }
def PEl.encs (x:PEl):Array Value:= #[.int .i64 (x.1.1:Nat),.agg #[.int .i64 x.1.2.pos,.int .i64 x.1.2.len]]
def PKp (n₀ Bw:Nat) (W W':World):Prop:=Below n₀ W W'/\∀ k c e f,k≠Bw->W.heap[k]? =some (.cells c e f)->W'.heap[k]? =some (.cells c e f)
theorem PKp.refl (n₀ Bw:Nat) (W:World):PKp n₀ Bw W W:=⟨Below.refl _ _,fun _ _ _ _ _ h=>h⟩
theorem PKp.trans {n₀ Bw:Nat} {A B C:World} (h:PKp n₀ Bw A B) (k:PKp n₀ Bw B C):PKp n₀ Bw A C:=⟨h.1.trans k.1,fun j c e f hj hc=>k.2 j c e f hj (h.2 j c e f hj hc)⟩
theorem PKp.alloc {n₀ Bw:Nat} (W:World) (hn:n₀<=W.heap.size) (o:Obj):PKp n₀ Bw W (W.alloc o):=
 ⟨(Below.refl _ _).alloc hn o,fun k c e f _ hc=>(Below.heap_alloc W o k (Array.getElem?_eq_some_iff.1 hc).1).trans hc⟩
theorem PKp.putObj {n₀ Bw:Nat} {w:World} (hn:n₀<=w.heap.size) (W:World) (l:Nat) (o o':Obj) (hl:w.heap.size<=l) (h:W.heap[l]? =some o) (ho:o.isCells=false) (hw:o.isWalk=false):PKp n₀ Bw W (W.putObj l o'):=
 ⟨belowK_b hn W l o o' hl h ho hw,fun k c e f _ hc=>by
  by_cases hkl:k=l
  ·subst hkl;rw [h] at hc;cases hc;simp [Obj.isCells] at ho
  ·exact (World.putObj_heap_other hkl).trans hc⟩
theorem PKp.setCell {n₀ Bw:Nat} (W:World) (hn:n₀<=Bw) (i:Nat) (v:Value):PKp n₀ Bw W (W.setCell ⟨Bw,i,none⟩ v):=
 ⟨(Below.refl _ _).setCell (p:=⟨Bw,i,none⟩) hn v,fun k c e f hk hc=>(Below.heap_setCell W ⟨Bw,i,none⟩ v k hk).trans hc⟩
theorem PKp.drew {n₀ Bw:Nat} (W:World):PKp n₀ Bw W W.drew:=⟨(Below.refl _ _).drew,fun _ _ _ _ _ h=>h⟩
theorem lcell {W:World} {B:Nat} {v:Value} {t:TypeId} (h:W.heap[B]? =some (.cells #[v] t (0,0))):W.cell? ⟨B,0,none⟩=some v:=by simp [World.cell?,h]
theorem pcell {W:World} {B:Nat} {u v:Value} {t:TypeId} (h:W.heap[B]? =some (.cells #[u,v] t (0,0))):W.cell? ⟨B,0,none⟩=some u/\W.cell? ⟨B,1,none⟩=some v:=by simp [World.cell?,h]
set_option maxRecDepth 100000 in
theorem zp8 (F:Fence) (hd:F.depth=none) (n:Nat) (h1:F.fn 106) (hro:F.round=none)
 (w0:World) (l Bt Bw n₀:Nat) (J Jx:List PEl->World->Prop) (hJ:∀ s W o,J s W->J s (W.alloc o)) (A:Option Addr) (c:Nat) (L:List MPiece) (hA:zmr w0 n₀ A L) (hG:zmq L) (hc:L.length<=c) (hcm:c<=maxLen)
 (hY:∀ m pre x W,J pre W->pre.length<L.length->YieldAt F m prog l x.encs W fun e W'=>
   (e=.returned (.bool true)/\J (pre++[x]) W'/\PKp n₀ Bw W W')∨(e=.returned (.bool false)/\Jx (pre++[x]) W'))
 (W:World) (hW:Below n₀ w0 W) (hn0:n₀<=W.heap.size) (hB:W.heap[Bt]? =some (.cells #[.slice A L.length c] 61 (0,0))) (hne:Bt≠Bw) (hBw:Bw<W.heap.size) (h0:J [] W):
 CallsIn F n prog 106 #[.func (.yield l) #[] #[],.pointer (some ⟨Bt,0,none⟩)] W fun e W'=>(∃ v,e=.returned v)/\
  ((∃ ys:List PEl,ys.map (·.1)=z25 0 L/\J ys W')∨(∃ pre:List PEl,pre.map (·.1) <+: z25 0 L/\Jx pre W')):=by
 obtain ⟨nn,hnn⟩:∃ nn,L.length=nn:=⟨_,rfl⟩;have HN:=hid hnn;have HG:=hid hG;have HA:=hid hA;have HJ:=hid hJ;have HY:=hid hY;have HB0:=hid (And.intro hW (And.intro hn0 (And.intro hB (And.intro hne hBw))));have c0:=lcell hB;rw [hnn] at c0 hc;have hnx:(nn:Int)<=9223372036854775807:=by unfold maxLen at hcm;omega
 have HH0:=hid h0;clear hnn hG hA hJ hY hW hn0 hB hcm h0 hne hBw hc;refine callsIn_of_wp Tryz.func106 rfl h1 ?_ hro;simp only [Tryz.ntmps106,List.size_toArray,List.length_cons,List.length_nil,Nat.reduceAdd,Nat.reduceSub,Array.replicate_succ,Array.replicate_zero,List.push_toArray,List.append_toArray,List.nil_append,List.cons_append];gi_wp2
 gi_loopw [3,8] (fun vf vi wr=>∃ p i:Nat,vf=.int .i64 p/\vi=.int .i64 i/\i<=nn/\Hid (PKp n₀ Bw W wr/\p+zl (L.drop i)=zl L/\∃ q:List PEl,q.map (·.1)++z25 p (L.drop i)=z25 0 L/\J q wr)) (fun _ vi _=>nn-(intOf vi).toNat)
 case atStart=>exact ⟨0,0,rfl,rfl,Nat.zero_le _,hid ⟨PKp.refl _ _ _,by rw [List.drop_zero];omega,[],by rw [List.drop_zero];rfl,HH0.out⟩⟩
 case round=>
  obtain ⟨p,i,rfl,rfl,hi,HI⟩:=hrel;by_cases hlt:i<nn
  ·obtain ⟨y,hy⟩:∃ y,L[i]? =some y:=⟨_,List.getElem?_eq_getElem (by rw [HN.out];exact hlt)⟩;have hb:=HB0.out.1.trans HI.out.1.1;obtain ⟨g,o,rfl,hg,t0,t1⟩:=(HA.out.kept hb) i y hy;have hfit:=HG.out.1 y (List.mem_of_getElem? hy);have hwd:=zax L i y hy;have hwt:=HG.out.2;have hpw:=HI.out.2.1;obtain ⟨q,hq,hJq⟩:=HI.out.2.2;rw [zyb hy] at hq;simp only [z25] at hq;have hql:q.length<L.length:=by
    have e:=congrArg List.length hq;rw [List.length_append,List.length_map,List.length_cons,z6w,z6w,List.length_drop] at e;have:=HN.out;omega
   obtain ⟨x,hx⟩:∃ x:PEl,x.1=(p,y):=⟨⟨(p,y),hfit,by show p+y.l<=64;omega⟩,rfl⟩;have hyl:(y.l:Int)=y.len:=by have:=hfit.1;unfold MPiece.l;omega
   have hpl:p+y.l<=64:=by omega
   obtain ⟨fn,tmps,assign,body,hyy,hR⟩:=HY.out (n-1) q x (wr.alloc (.cells #[.int .i64 y.pos,.int .i64 y.len] 128)) (HJ.out _ _ _ hJq) hql;have hxe:x.encs= #[.int .i64 (p:Nat),.agg #[.int .i64 y.pos,.int .i64 y.len]]:=by unfold PEl.encs;rw [hx]
   rw [hxe] at hyy;have hnw:n₀<=wr.heap.size:=Nat.le_trans HB0.out.2.1 HI.out.1.1.size;have hbw:Bw<wr.heap.size:=Nat.lt_of_lt_of_le HB0.out.2.2.2.2 HI.out.1.1.size;have hnew:=heap_alloc_new wr (.cells #[.int .i64 y.pos,.int .i64 y.len] 128);have HK:=hid (PKp.alloc (Bw:=Bw) wr hnw (.cells #[.int .i64 y.pos,.int .i64 y.len] 128));have HX:=hid (And.intro hq (And.intro hpw (And.intro hwd hx)));have HNEW:=hid hnew;have HBW:=hid (show wr.heap.size≠Bw by omega);have hcells:=z6v wr y.pos y.len wr.heap.size rfl;obtain ⟨a,ha⟩:∃ a,y.pos=a:=⟨_,rfl⟩;obtain ⟨b,hb'⟩:∃ a,y.len=a:=⟨_,rfl⟩;rw [ha] at t0 HK HNEW hyy hR hcells;rw [hb'] at t1 HK HNEW hyy hR hcells hyl;have HYL:=hid (And.intro hyl hpl);have hbb:b<=64:=by omega
   have hb0:1<=b:=by have:=hfit.1;omega
   have hp64:(p:Int)<=64:=by omega
   have HLT:=hid hlt;clear hy hb hfit hwd hwt hpw hJq hq hql hx hyl hpl hxe hnw hbw hnew ha hb';gi_wp2_with (refine hR.mono ?_;clear hR;rintro e W2 (⟨rfl,hJ2,hk2⟩|⟨rfl,hx2⟩);(try (obtain ⟨d0,d1⟩:=pcell (hk2.2 _ _ _ _ HBW.out HNEW.out))))
   ·have HJ2:=hid hJ2;have HK2:=hid hk2;clear hJ2 hk2;go_roundw
    case rel=>
     obtain ⟨h1,h2,h3,h4⟩:=HX.out;refine ⟨p+y.l,i+1,?_,by first|rfl|go_num|(congr 1),by have:=HLT.out;omega,hid ⟨HI.out.1.trans (HK.out.trans HK2.out),by omega,q++[x],?_,HJ2.out⟩⟩
     ·rw [<- HYL.out.1];go_num
     ·rw [<- h1,List.map_append,List.map_cons,List.map_nil,h4];simp
    case measure=>simp only [intOf];have:=HLT.out;omega
   ·refine bodyPost_ret (v:=.tuple #[]) (by simp [results,Tryz.results106,go_sem]) rfl ?_;refine ⟨⟨_,rfl⟩,.inr ⟨q++[x],?_,hx2⟩⟩;obtain ⟨h1,h2,h3,h4⟩:=HX.out;rw [<- h1,List.map_append,List.map_cons,List.map_nil,h4];exact ⟨z25 (p+y.l) (L.drop (i+1)),by simp⟩
  ·obtain rfl:nn=i:=by omega
   obtain ⟨q,hq,hJq⟩:=HI.out.2.2;rw [List.drop_of_length_le (by rw [HN.out];exact Nat.le_refl _)] at hq;simp only [z25,List.append_nil] at hq;have HQ:=hid hq;have HJQ:=hid hJq;clear hq hJq;gi_wp2
   go_end0
   exact ⟨⟨_,rfl⟩,.inl ⟨q,HQ.out,HJQ.out⟩⟩
theorem zhb (F:Fence) (n:Nat) (h1:F.fn 79) (hro:F.round=none) (A:Option Addr) (m c:Nat) (w:World):
 CallsIn F n prog 79 #[.slice A m c] w fun e w'=>e=.returned (.func (.func 106) #[] #[.pointer (some ⟨w.heap.size,0,none⟩)])/\w'=w.alloc (.cells #[.slice A m c] 61):=by
 refine callsIn_of_wp Tryz.func79 rfl h1 ?_ hro;simp only [Tryz.ntmps79,List.size_toArray,List.length_cons,List.length_nil,Nat.reduceAdd,Nat.reduceSub,Array.replicate_succ,Array.replicate_zero,List.push_toArray,List.append_toArray,List.nil_append,List.cons_append];gi_wp2
 go_ret
 exact ⟨rfl,rfl⟩
theorem z8y (F:Fence) (hd:F.depth=none) (n:Nat) (h1:F.fn 106) (hro:F.round=none)
 (w0:World) (Bt Bw n₀:Nat) (A:Option Addr) (c:Nat) (L:List MPiece) (hA:zmr w0 n₀ A L) (hG:zmq L) (hc:L.length<=c) (hcm:c<=maxLen)
 (w:World) (hw:Below n₀ w0 w) (hn0:n₀<=w.heap.size) (hB:w.heap[Bt]? =some (.cells #[.slice A L.length c] 61 (0,0))) (hne:Bt≠Bw) (hBw:Bw<w.heap.size):
 SeqStopsK F n prog 106 #[.pointer (some ⟨Bt,0,none⟩)] PEl.encs (PKp n₀ Bw) (fun ys=>ys.map (·.1)=z25 0 L) (fun pre=>pre.map (·.1) <+: z25 0 L) L.length w:=fun l J Jx W hW hJ _ hY h0=>
 zp8 F hd n h1 hro w0 l Bt Bw n₀ J Jx (fun s W' o hs=>hJ s W' _ none hs (World.grownBy_alloc W' o none) (fun r e=>by cases e)) A c L hA hG hc hcm (fun m pre x W hj hl=>YieldAt.anyDepth hd m (hY pre x W hj hl)) W (hw.trans (hW.mono hn0)) (Nat.le_trans hn0 hW.size) ((hW.block Bt (Array.getElem?_eq_some_iff.1 hB).1).trans hB) hne (Nat.lt_of_lt_of_le hBw hW.size) h0
end Go.Proofs.YtofhpahihneipaaGreatDoor
namespace Go.Proofs.YtofhpahihneipaaGreatDoor
open Go.RowKit Go.Instr
set_option maxRecDepth 100000
set_option maxHeartbeats 2000000
def cwR (size:Int) (word:Nat) (L:List MPiece):Int:=if (z3f size L).2=0 then (if okB size.toNat word=true then 0 else 24) else (z3f size L).2
theorem zd3 {size:Int} {L:List MPiece} (h:(z3f size L).2=0):(1<=size/\size<=64)/\L.length<=4/\z2i size 0 L/\z3f size L=(z3e 0 L,0):=by
 unfold z3f at *;split at h
 ·rename_i h1;rw [if_pos h1];split at h
  ·rename_i h2;rw [if_pos h2];have g:=zct (size:=size) L 0
   have hg:=g.1.1 h;exact ⟨h1,h2,hg,g.2.1 hg⟩
  ·cases h
 ·cases h
theorem zlr {size:Int} {L:List MPiece} (hs:1<=size/\size<=64) (h:z2i size 0 L):zmq L:=by
 refine ⟨fun x hx=>?_,?_⟩
 ·obtain ⟨c1,c2,c3,c4⟩:=z5z.1 (h.mem x hx).1;exact ⟨c1,c3,by omega⟩
 ·have:=h.width;omega
theorem z39 (size:Int) (word:Nat) (A:Option Addr) (c:Nat) (L:List MPiece) (w:World) (hA:z3y w A L) (hok:zcb L) (hc:L.length<=c) (hcm:c<=maxLen):
 Calls prog 75 #[.int .i64 size,.int .u64 word,.slice A L.length c] w fun e w'=>e=.returned (.int .i64 (cwR size word L))/\Below w.heap.size w w':=by
 have HM:=hid (fun W (h:z3y W A L)=>zpb size A c L W h hok hc hcm);have HA:=hid hA;obtain ⟨n,hn⟩:∃ n,L.length=n:=⟨_,rfl⟩;by_cases h0:(z3f size L).2=0
 ·obtain ⟨⟨h1,h2⟩,_⟩:=zd3 h0;obtain ⟨m,rfl⟩:∃ m:Nat,size=m:=⟨size.toNat,by omega⟩;have HO:=hid (fun W=>zah m word W (by omega) (by omega));have hr:cwR m word L=z4a 24 [okB m word]:=by
   unfold cwR;rw [if_pos h0,Int.toNat_natCast];cases okB m word<;>rfl
  rw [hr];rw [h0] at HM;rw [hn] at HM ⊢;generalize okB m word=q at *;clear hA hok hc hcm hn h0 hr;go_enter Tryz.func75,Tryz.ntmps75
  go_wp2_with (first
   | (go_at_call 103;(with_reducible refine (HM.out _ HA.out).mono ?_);rintro e w' ⟨rfl,hb⟩)
   | (go_at_call 83;(with_reducible refine (HO.out _).mono ?_);rintro e w' ⟨rfl,rfl⟩)
   | (go_at_call 76;(with_reducible refine (z7c 24 _ _ _ (by simp)).mono ?_);rintro e w' ⟨rfl,rfl⟩))
  go_ret
  exact ⟨rfl,hb.alloc hb.size _⟩
 ·have hr:cwR size word L=(z3f size L).2:=by unfold cwR;rw [if_neg h0]
  have h1:((z3f size L).2!=0)=true:=by simpa using h0
  have h2:((z3f size L).2==0)=false:=by simpa using h0
  rw [hr];rw [hn] at HM ⊢;generalize (z3f size L).2=z at *;clear hA hok hc hcm hn h0 hr;go_enter Tryz.func75,Tryz.ntmps75
  go_wp2_with (go_at_call 103;(with_reducible refine (HM.out _ HA.out).mono ?_);rintro e w' ⟨rfl,hb⟩)
  go_ret
  exact ⟨rfl,hb⟩
theorem zay:∀ (L:List MPiece) (i:Nat) (x:MPiece),L[i]? =some x->zl (L.take (i+1))=zl (L.take i)+x.l
 | y::L,0,x,h=>by simp at h;subst h;simp [zl]
 | y::L,i+1,x,h=>by have:=zay L i x (by simpa using h);simp only [List.take_succ_cons,zl] at this ⊢;omega
theorem z6f:∀ (L:List MPiece) (i:Nat),zl (L.take i)<=zl L
 | [],i=>by simp
 | y::L,0=>by simp [zl]
 | y::L,i+1=>by have:=z6f L i;simp only [List.take_succ_cons,zl];omega
theorem zag (A:Option Addr) (c:Nat) (L:List MPiece) (w:World) (hA:z3y w A L) (hG:zmq L) (hc:L.length<=c) (hcm:c<=maxLen):
 Calls prog 78 #[.slice A L.length c] w fun e w'=>e=.returned (.int .i64 (zl L:Nat))/\Below w.heap.size w w':=by
 obtain ⟨n,hn⟩:∃ n,L.length=n:=⟨_,rfl⟩;have HN:=hid hn;have HA:=hid hA;have HG:=hid hG;have hnx:(n:Int)<=9223372036854775807:=by unfold maxLen at hcm;omega
 rw [hn];obtain ⟨R,hR⟩:∃ R,zl L=R:=⟨_,rfl⟩;rw [hR];have HR:=hid hR;clear hn hA hG hc hcm hR;go_enter Tryz.func78,Tryz.ntmps78
 go_wp2
 go_loopw [3,8] (fun vm vi wr=>∃ (m i:Nat),vm=.int .i64 m/\vi=.int .i64 i/\i<=n/\m<=64/\Below w.heap.size w wr/\Hid (zl (L.take i)=m)) (fun _ vi _=>n-(intOf vi).toNat)
 case atStart=>exact ⟨0,0,rfl,rfl,Nat.zero_le _,by decide,Below.refl _ w,hid (by simp [zl])⟩
 case round=>
  obtain ⟨m,i,rfl,rfl,hi,hm,hbw,HI⟩:=hrel;by_cases hlt:i<n
  ·obtain ⟨x,hx⟩:∃ x,L[i]? =some x:=⟨_,List.getElem?_eq_getElem (by rw [HN.out];exact hlt)⟩;obtain ⟨g,o,rfl,hg,t0,t1⟩:=(HA.out.later hbw) i x hx;have hf:=HG.out.1 x (List.mem_of_getElem? hx);have hw:=zay L i x hx;have hle:=z6f L (i+1);have h64:=HG.out.2;rw [HI.out] at hw;have hxl:x.len=(x.l:Nat):=by unfold MPiece.l;have:=hf.1;omega
   rw [hxl] at t1;obtain ⟨k,hk⟩:∃ k,x.l=k:=⟨_,rfl⟩;rw [hk] at t1 hw;have hmk:m+k<=64:=by omega
   have HW:=hid hw;have HLT:=hid hlt;have hcells:=z6v wr x.pos (k:Nat) wr.heap.size rfl;clear hx hf hw hle h64 hxl hk hg;go_wp2
   go_roundw
   case rel=>exact ⟨m+k,i+1,by go_num,by first|rfl|go_num|(congr 1),by have:=HLT.out;omega,hmk,hbw.alloc hbw.size _,HW⟩
   case measure=>simp only [intOf];have:=HLT.out;omega
  ·obtain rfl:i=n:=by omega
   have h1:=HI.out;rw [List.take_of_length_le (by rw [HN.out];exact Nat.le_refl _),HR.out] at h1;have H1:=hid h1;clear h1;go_wp2
   go_ret
   exact ⟨by rw [H1.out];rfl,hbw⟩
end Go.Proofs.YtofhpahihneipaaGreatDoor
namespace Go.Proofs.YtofhpahihneipaaGreatDoor
open Go.RowKit Go.Instr Go.Sort
set_option maxRecDepth 100000
set_option maxHeartbeats 1000000
theorem zcc (r n:Nat) (hr:r<18446744073709551616) (h1:n<=64):bits .and .u64 (r:Int) ((mk n:Nat):Int)=((r%2^n:Nat):Int):=by rw [bits_and_u64_nat r (mk n) hr (z00n n h1)];unfold mk;rw [Nat.and_two_pow_sub_one_eq_mod]
theorem zt5 (n:Nat) (z:Int) (h1:n<=64):bits .and .u64 (IntKind.u64.wrap z) ((mk n:Nat):Int)=((z%2^n).toNat:Int):=by
 have h2:=Int.emod_nonneg z (show (18446744073709551616:Int)≠0 by decide);have h3:=Int.emod_lt_of_pos z (show (0:Int)<18446744073709551616 by decide);obtain ⟨r,hr⟩:∃ r:Nat,z%18446744073709551616=r:=⟨(z%18446744073709551616).toNat,by omega⟩;rw [IntKind.wrap_u64,hr,zcc r n (by omega) h1]
 congr 1
 have hs:=zhf n h1;have e:z%2^n=((r%2^n:Nat):Int):=by
  rw [Int.natCast_emod,<-hr,Int.natCast_pow];have hd:((2:Int)^n) ∣ 18446744073709551616:=⟨((2^(64-n):Nat):Int),by
   have:((2^n*2^(64-n):Nat):Int)=((18446744073709551616:Nat):Int):=by rw [hs]
   rw [Int.natCast_mul,Int.natCast_pow] at this;exact this.symm⟩
  exact (Int.emod_emod_of_dvd z hd).symm
 rw [e];omega
def sgR (n:Int) (x:Nat):Int×Int:=
 if n<1∨64<n then (0,14) else if chk1 n.toNat x=8 then (0,8) else (sg n.toNat x,0)
theorem zqf (n a:Nat):chk1 n a=8∨(a<2^n/\chk1 n a=0):=by
 unfold chk1;by_cases h:okB n a=true
 ·exact Or.inr ⟨(z4b _ _).1 h,if_pos h⟩
 ·exact Or.inl (if_neg h)
theorem zl1 (n:Int) (x:Nat) (w:World):
 Calls prog 85 #[.int .i64 n,.int .u64 x] w fun e w'=>e=.returned (.tuple #[.int .i64 (sgR n x).1,.int .i64 (sgR n x).2])/\Below w.heap.size w w':=by
 by_cases h:n<1∨64<n
 ·rw [show sgR n x=(0,14) by unfold sgR;rw [if_pos h]];have H:=hid h;clear h;go_enter Tryz.func85,Tryz.ntmps85
  go_wp2_with (go_at_call 108;refine (ze5 _ _ _ _ H.out).mono ?_;rintro e w' ⟨rfl,rfl⟩)
  go_ret2
  refine ⟨rfl,?_⟩;go_grown
 ·obtain ⟨m,rfl⟩:∃ m:Nat,n=m:=⟨n.toNat,by omega⟩;have h0:1<=m:=by omega
  have h1:m<=64:=by omega
  have c0:(w.alloc (.cells #[.int .u64 x] 31)).cell? ⟨w.heap.size,0,none⟩=some (.int .u64 x):=by go_simp
  have HK:=hid (check1 m x _ _ h0 h1 c0);rcases zqf m x with hx|⟨hx,hx'⟩
  ·rw [show sgR m x=(0,8) by unfold sgR;rw [if_neg h,Int.toNat_natCast,if_pos hx]];rw [hx] at HK;clear hx h c0;go_enter Tryz.func85,Tryz.ntmps85
   go_wp2_with (go_at_call 108;refine HK.out.mono ?_;rintro e w' ⟨rfl,rfl⟩)
   go_ret2
   refine ⟨rfl,?_⟩;go_grown
  ·rw [show sgR m x=(sg m x,0) by unfold sgR;rw [if_neg h,Int.toNat_natCast,if_neg (by rw [hx'];decide)]];rw [hx'] at HK;have HX:=hid hx;clear hx h hx' c0;go_enter Tryz.func85,Tryz.ntmps85
   go_wp2_with (first
    | (go_at_call 108;refine HK.out.mono ?_;rintro e w' ⟨rfl,rfl⟩)
    | (go_at_call 109;refine (zc4 m x _ h0 h1 HX.out).mono ?_;rintro e w' ⟨rfl,rfl⟩))
   go_ret2
   refine ⟨rfl,?_⟩;go_grown
theorem zri (k w s n:Int) (wo:World) (hn : -9223372036854775808<=n/\n<=9223372036854775807):
 Calls prog 45 #[.int .u8 k,.int .i64 w,.int .i64 s,.int .i64 n] wo fun e w'=>e=.returned (.tuple #[.int .u64 ((z1w k w s n).1:Nat),.int .i64 (z1w k w s n).2])/\Below wo.heap.size wo w':=by
 have HC:=hid (fun W=>z72 k w s W);by_cases hk:chkK k w s=0
 ·have hr:z1w k w s n=(if numB (sgK k) w.toNat s.toNat n=true then (((n / 2^s.toNat)%2^w.toNat).toNat,0) else (0,24)):=by unfold z1w;rw [if_pos hk]
  obtain ⟨⟨h1,h2⟩,h3,h4,_⟩:=z7x hk;rw [hk] at HC;obtain ⟨m,rfl⟩:∃ m:Nat,w=m:=⟨w.toNat,by omega⟩;obtain ⟨t,rfl⟩:∃ t:Nat,s=t:=⟨s.toNat,by omega⟩;simp only [Int.toNat_natCast] at hr;have HS:=hid (fun W=>zgp k n m t W (by omega) (by omega) (by omega) hn);have HM:=hid (fun W=>z2m m W (by omega) (by omega));have HA:=hid (zt5 m (n / 2^t) (by omega));have HX:Hid (wrap64 (n / 2^t)=n / 2^t):=hid (by apply zg<;>rcases pow3 t (by omega) with h|h|h|h<;>rw [h]<;>omega);rw [hr];clear hr hk hn;generalize numB (sgK k) m t n=q at *;cases q
  ·rw [if_neg (by decide)];go_enter Tryz.func45,Tryz.ntmps45
   go_wp2_with (first
    | (go_at_call 80;(with_reducible refine (HC.out _).mono ?_);rintro e w' ⟨rfl,hb⟩)
    | (go_at_call 81;(with_reducible refine (HS.out _).mono ?_);rintro e w2 ⟨rfl,hb2⟩)
    | (go_at_call 76;(with_reducible refine (need1 24 _ _).mono ?_);rintro e w' ⟨rfl,rfl⟩))
   go_ret2
   refine ⟨rfl,?_⟩;exact (zl4 hb hb2).alloc (by have:=hb.size;have:=hb2.size;omega) _
  ·rw [if_pos rfl];go_enter Tryz.func45,Tryz.ntmps45
   go_wp2_with (first
    | (go_at_call 80;(with_reducible refine (HC.out _).mono ?_);rintro e w' ⟨rfl,hb⟩)
    | (go_at_call 81;(with_reducible refine (HS.out _).mono ?_);rintro e w2 ⟨rfl,hb2⟩)
    | (go_at_call 76;(with_reducible refine (need1 24 _ _).mono ?_);rintro e w' ⟨rfl,rfl⟩))
   go_quiet ((go_at_call 77;exact zwj (HM.out _)))
   go_wp2
   refine bodyPost_ret (v:=.tuple #[.int .u64 (bits .and .u64 (IntKind.u64.wrap (n / 2^t)) ((mk m:Nat):Int)),.int .i64 0]) (by simp [results,Tryz.results45,go_sem]) rfl ⟨by rw [HA.out],?_⟩;exact ((zl4 hb hb2).alloc (by have:=hb.size;have:=hb2.size;omega) _).trans (z38 _ _ _)
 ·have hr:z1w k w s n=(0,2):=by unfold z1w;rw [if_neg hk,z98 hk]
  have h2:=z98 hk;rw [h2] at HC;rw [hr];clear hr hk h2;go_enter Tryz.func45,Tryz.ntmps45
  go_wp2_with (go_at_call 80;(with_reducible refine (HC.out _).mono ?_);rintro e w' ⟨rfl,hb⟩)
  go_ret2
  exact ⟨rfl,hb⟩
def z1l (k:Int) (w s:Int) (x:Nat):Int×Int:=if chkK k w s=0 then (if okB w.toNat x=true then ((if sgK k=true then sg w.toNat x else x)*2^s.toNat,0) else (0,24)) else (0,chkK k w s)
theorem z02b (w x:Nat) (h1:1<=w) (h2:w<=32) (hx:x<2^w) : -4294967296<=sg w x/\sg w x<=4294967296:=by
 have:=pow32 w h2;have h3:((x:Nat):Int)<2^w:=by have:=Int.ofNat_lt.2 hx;simpa using this
 unfold sg;split<;>omega
theorem zp3 (k w s:Int) (x:Nat) (wo:World):
 Calls prog 51 #[.int .u8 k,.int .i64 w,.int .i64 s,.int .u64 x] wo fun e w'=>e=.returned (.tuple #[.int .i64 (z1l k w s x).1,.int .i64 (z1l k w s x).2])/\Below wo.heap.size wo w':=by
 have HC:=hid (fun W=>z72 k w s W);by_cases hk:chkK k w s=0
 ·have hr:z1l k w s x=(if okB w.toNat x=true then ((if sgK k=true then sg w.toNat x else x)*2^s.toNat,0) else (0,24)):=by unfold z1l;rw [if_pos hk]
  obtain ⟨⟨h1,h2⟩,h3,h4,_⟩:=z7x hk;rw [hk] at HC;obtain ⟨m,rfl⟩:∃ m:Nat,w=m:=⟨w.toNat,by omega⟩;obtain ⟨t,rfl⟩:∃ t:Nat,s=t:=⟨s.toNat,by omega⟩;simp only [Int.toNat_natCast] at hr;have HM:=hid (fun W=>zah m x W (by omega) (by omega));have HG:=hid (fun W=>z5f k W);have HV:=hid (fun W=>zl1 m x W);by_cases hq:okB m x=true
  ·have hx:=(z4b m x).1 hq;have hx2:((x:Nat):Int)<2^m:=by have:=Int.ofNat_lt.2 hx;simpa using this
   have hp:=pow32 m (by omega);have hsr:sgR m x=(sg m x,0):=by
    unfold sgR;rw [if_neg (by omega),Int.toNat_natCast,if_neg];rcases zqf m x with h|h
    ·unfold chk1 at h;rw [hq] at h;simp at h
    ·rw [h.2];decide
   have hs:=z02b m x (by omega) (by omega) hx;rw [hsr] at HV;rw [hq] at HM;rw [hr,if_pos hq];have HX:Hid (wrap64 ((x:Nat):Int)=(x:Nat)):=hid (zg _ (by omega) (by omega));have HW1:Hid (wrap64 (sg m x*2^t)=sg m x*2^t):=hid (by apply zg<;>rcases pow3 t (by omega) with h|h|h|h<;>rw [h]<;>omega);have HW2:Hid (wrap64 ((x:Nat)*2^t:Int)=(x:Nat)*2^t):=hid (by apply zg<;>rcases pow3 t (by omega) with h|h|h|h<;>rw [h]<;>omega);clear hr hk hq hx hx2 hp hsr hs;generalize sg m x=g at *;generalize sgK k=q at *;have hxx:=HX.out;obtain ⟨y,hy⟩:∃ y:Int,y=x:=⟨_,rfl⟩;cases q
   all_goals
    go_enter Tryz.func51,Tryz.ntmps51
    go_wp2_with (first
     | (go_at_call 80;(with_reducible refine (HC.out _).mono ?_);rintro e w' ⟨rfl,hb⟩)
     | (go_at_call 83;(with_reducible refine (HM.out _).mono ?_);rintro e w' ⟨rfl,rfl⟩)
     | (go_at_call 84;(with_reducible refine (HG.out _).mono ?_);rintro e w' ⟨rfl,rfl⟩)
     | (go_at_call 85;(with_reducible refine (HV.out _).mono ?_);rintro e w2 ⟨rfl,hb2⟩)
     | (go_at_call 76;(with_reducible refine (need1 24 _ _).mono ?_);rintro e w' ⟨rfl,rfl⟩))
    first
     | (go_ret2;exact ⟨by simp only [HW1.out,HW2.out];rfl,by first|exact zl4 (hb.alloc hb.size _) hb2|exact hb.alloc hb.size _⟩)
     | (trace_state;fail)
  ·rw [hr,if_neg hq];have hq':okB m x=false:=by simpa using hq
   rw [hq'] at HM;clear hr hk hq hq';go_enter Tryz.func51,Tryz.ntmps51
   go_wp2_with (first
    | (go_at_call 80;(with_reducible refine (HC.out _).mono ?_);rintro e w' ⟨rfl,hb⟩)
    | (go_at_call 83;(with_reducible refine (HM.out _).mono ?_);rintro e w' ⟨rfl,rfl⟩)
    | (go_at_call 76;(with_reducible refine (need1 24 _ _).mono ?_);rintro e w' ⟨rfl,rfl⟩))
   go_ret2
   exact ⟨rfl,hb.alloc hb.size _⟩
 ·have hr:z1l k w s x=(0,2):=by unfold z1l;rw [if_neg hk,z98 hk]
  have h2:=z98 hk;rw [h2] at HC;rw [hr];clear hr hk h2;go_enter Tryz.func51,Tryz.ntmps51
  go_wp2_with (go_at_call 80;(with_reducible refine (HC.out _).mono ?_);rintro e w' ⟨rfl,hb⟩)
  go_ret2
  exact ⟨rfl,hb⟩
end Go.Proofs.YtofhpahihneipaaGreatDoor
namespace Go.Proofs.YtofhpahihneipaaGreatDoor
open Go.RowKit Go.Shelf Go.Deep Go.Instr Go.Sort
attribute [local go_sem] Oper.semAt_some
def gstep (word f:Nat) (x:Nat×MPiece):Nat:=f|||(word / 2^x.2.p%2^x.2.l*2^x.1)
theorem zbm (word:Nat):∀ (L:List MPiece) (p f:Nat),f<2^p->(z25 p L).foldl (gstep word) f=f+2^p*getN word L
 | [],p,f,hf=>by simp [z25,getN]
 | x::L,p,f,hf=>by
   have e:gstep word f (p,x)=f+2^p*(word / 2^x.p%2^x.l):=by unfold gstep;rw [Nat.mul_comm _ (2^p),Nat.or_comm,Nat.add_comm];exact (Nat.two_pow_add_eq_or_of_lt hf _).symm
   have hm:=Nat.mod_lt (word / 2^x.p) (Nat.two_pow_pos x.l);have hlt:f+2^p*(word / 2^x.p%2^x.l)<2^(p+x.l):=by
    rw [Nat.pow_add]
    calc f+2^p*(word / 2^x.p%2^x.l)<2^p+2^p*(word / 2^x.p%2^x.l):=by omega
     _=2^p*(word / 2^x.p%2^x.l+1):=by rw [Nat.mul_add,Nat.mul_one,Nat.add_comm]
     _<=2^p*2^x.l:=Nat.mul_le_mul_left _ hm
   simp only [z25,List.foldl_cons];rw [e,zbm word L (p+x.l) _ hlt];simp only [getN];rw [Nat.pow_add,Nat.mul_add,<-Nat.mul_assoc,Nat.add_assoc]
theorem zvh (word f:Nat) (x:Nat×MPiece) (hf:f<18446744073709551616) (h:x.1+x.2.l<=64):gstep word f x<18446744073709551616/\word / 2^x.2.p%2^x.2.l*2^x.1<18446744073709551616:=by
 have hm:=Nat.mod_lt (word / 2^x.2.p) (Nat.two_pow_pos x.2.l);have h1:word / 2^x.2.p%2^x.2.l*2^x.1<2^x.2.l*2^x.1:=Nat.mul_lt_mul_of_pos_right hm (Nat.two_pow_pos _);rw [<- Nat.pow_add] at h1;have h2:=zhe (x.2.l+x.1) (by omega);have h3:word / 2^x.2.p%2^x.2.l*2^x.1<18446744073709551616:=by omega
 exact ⟨Nat.or_lt_two_pow (n:=64) hf h3,h3⟩
structure GInv (n₀ Bw word:Nat) (w:World) (pre:List PEl) (W:World):Prop where
 below:Below n₀ w W
 size:Bw+2<=W.heap.size
 b0:Boxed W n₀ 31 (.int .u64 word)
 bw:Boxed W Bw 31 (.int .u64 ((pre.map (·.1)).foldl (gstep word) 0:Nat))
 lt:(pre.map (·.1)).foldl (gstep word) 0<18446744073709551616
theorem GInv.own_from {n₀ Bw word B:Nat} {w:World} (hB:Bw+2<=B) (hw:n₀<=w.heap.size) (hb:n₀<Bw):OwnFrom B (fun (pre:List PEl) W=>GInv n₀ Bw word w pre W):=fun s A B' row hs hg hr=>by
 have hne:∀ k:Nat,k<Bw+2->some k≠row:=fun k hk e=>by have:=(hr k e.symm).1;omega
 exact ⟨hs.below.grown hg (Nat.le_trans hw hs.below.size) (fun k e=>by have:=(hr k e).1;omega),Nat.le_trans hs.size hg.size,hs.b0.kept hg (hne _ (by omega)),hs.bw.kept hg (hne _ (by omega)),hs.lt⟩
theorem zs2 (word f p k q:Nat) (hw:word<18446744073709551616) (hf:f<18446744073709551616) (hk:k<=64) (hq:q<=64) (s2:word / 2^p%2^k*2^q<18446744073709551616):
 bits .or .u64 (f:Int) (IntKind.u64.wrap (bits .and .u64 ((word:Int) / 2^p) ((mk k:Nat):Int)*2^min q 64))=((f|||(word / 2^p%2^k*2^q):Nat):Int):=by
 have e:((word:Int) / 2^p)=((word / 2^p:Nat):Int):=by simp
 rw [e,zcc _ k (Nat.lt_of_le_of_lt (Nat.div_le_self _ _) hw) hk,Nat.min_eq_left hq,z9e _ q _ rfl s2];exact bits_or_u64_nat f _ hf s2
theorem PEl.nats (x:PEl):x.1.2.pos=(x.1.2.p:Nat)/\x.1.2.len=(x.1.2.l:Nat)/\1<=x.1.2.l/\x.1.2.l<=64/\x.1.2.p+x.1.2.l<=64:=by obtain ⟨h1,h2,h3⟩:=x.2.1;unfold MPiece.p MPiece.l;omega
set_option maxRecDepth 100000 in
theorem zym (size:Int) (word:Nat) (A:Option Addr) (c:Nat) (L:List MPiece) (w:World) (hA:z3y w A L) (hok:zcb L) (hc:L.length<=c) (hcm:c<=maxLen) (hcw:cwR size word L=0) (hG:zmq L) (hword:word<18446744073709551616):
 CallsIn Fence.wide 3 prog 50 #[.int .i64 size,.int .u64 word,.slice A L.length c] w fun e w'=>e=.returned (.tuple #[.int .u64 (getN word L:Nat),.int .i64 0])/\Below w.heap.size w w':=by
 have HCW:=hid (fun W (h:z3y W A L)=>z39 size word A c L W h hok hc hcm);rw [hcw] at HCW;have HA:=hid hA;have HA2:=hid (fun o=>hA.later ((Below.refl w.heap.size w).alloc (Nat.le_refl _) o));have HP:=hid (fun n W=>zhb Fence.wide n trivial rfl A L.length c W);have HG:=hid hG;have HC:=hid (And.intro hc hcm);refine callsIn_of_wp_marks Tryz.func50 rfl trivial ?_ rfl;simp only [Tryz.ntmps50,List.size_toArray,List.length_cons,List.length_nil,Nat.reduceAdd,Nat.reduceSub,Array.replicate_succ,Array.replicate_zero,List.push_toArray,List.append_toArray,List.nil_append,List.cons_append];clear hA hok hc hcm hcw hG
 gi_wp2_with (first
  | (refine ⟨trivial,?_⟩;gi_at_call 75;refine (callsIn_wide.2 (HCW.out _ (HA2.out _))).mono ?_;rintro e w2 ⟨rfl,hb2⟩)
  | (refine ⟨trivial,?_⟩;gi_at_call 79;refine (HP.out _ _).mono ?_;rintro e w' ⟨rfl,rfl⟩))
 obtain ⟨B2,hB2⟩:∃ B2,w2.heap.size=B2:=⟨_,rfl⟩;obtain ⟨W0,hW0⟩:∃ W0,W0=(w2.alloc (.cells #[.int .u64 0] 31)).alloc (.cells #[.slice A L.length c] 61):=⟨_,rfl⟩;have hsz:W0.heap.size=B2+2:=by rw [hW0];simp [hB2]
 have hw2:w.heap.size+1<=B2:=by have:=hb2.size;simp at this;omega
 have hbel:Below w.heap.size w W0:=by rw [hW0];exact ((((Below.refl _ w).alloc (Nat.le_refl _) _).trans (hb2.mono (by simp))).alloc (by omega) _).alloc (by simp;omega) _
 have hbw0:Boxed W0 w.heap.size 31 (.int .u64 (word:Nat)):=by rw [hW0];have h1:Boxed (w.alloc (.cells #[.int .u64 (word:Nat)] 31)) w.heap.size 31 (.int .u64 (word:Nat)):=Boxed.new w _ _;have h2:Boxed w2 w.heap.size 31 (.int .u64 (word:Nat)):=(hb2.block _ (by simp)).trans h1;exact (h2.alloc _).alloc _
 have hbw:Boxed W0 B2 31 (.int .u64 0):=by rw [hW0,<-hB2];exact (Boxed.new w2 _ _).alloc _
 have hlb:W0.heap[B2+1]? =some (.cells #[.slice A L.length c] 61 (0,0)):=by
  rw [hW0,<-hB2];have:=World.alloc_heap_new (w2.alloc (.cells #[.int .u64 0] 31)) (.cells #[.slice A L.length c] 61)
  rwa [World.size_alloc] at this
 rw [hB2,<-hW0];clear hW0 hB2;have hinv:GInv w.heap.size B2 word w [] W0:=⟨hbel,by omega,hbw0,hbw,by simp⟩
 refine wpIn_rangeFunc_ownH (F:=Fence.wide) rfl (by omega) (gf:=106) (lb:= #[.pointer (some ⟨B2+1,0,none⟩)]) rfl trivial (enters_of Tryz.func106 (by kernel_rfl) rfl)
  (z8y Fence.wide rfl (3-1) trivial rfl w (B2+1) B2 w.heap.size A c L HA.out.in HG.out HC.out.1 HC.out.2 W0 hbel (by omega) hlb (by omega) (by omega))
  (fun h k=>h.trans k) (PKp.putObj (by omega)) (Below.refl _ _) (fun _=>rfl)
  (fun pre W=>GInv w.heap.size B2 word w pre W) (fun _ _ _=>False) (GInv.own_from (by omega) (Nat.le_refl _) (by omega)) (fun _ _ _ _ _ hs _ _=>hs) hinv
  (fun x a' W=>∃ Bx,B2+2<=Bx/\W.heap[Bx]? =some (.cells #[.int .i64 x.1.2.pos,.int .i64 x.1.2.len] 128 (0,0))/\a'={ tmps:= #[.int .i64 size,.int .u64 (word:Nat),.slice A L.length c,undef,.pointer (some ⟨w.heap.size,0,none⟩),undef,.int .u64 0,.int .i64 0,.int .i64 0,.pointer (some ⟨B2,0,none⟩),.int .i64 (x.1.1:Nat),.pointer (some ⟨Bx,0,none⟩),.int .i64 size,.int .u64 (word:Nat),.slice A L.length c,.int .i64 0,.int .i64 0,.bool false,undef,.slice A L.length c,.func (.func 106) #[] #[.pointer (some ⟨B2+1,0,none⟩)],.int .i64 (x.1.1:Nat),.agg #[.int .i64 x.1.2.pos,.int .i64 x.1.2.len],undef,undef,undef,undef,undef,undef,undef,undef,undef,undef,undef,undef,undef],defers:=[] })
  (fun x a' _ X Y row hs hg hr=>by obtain ⟨Bx,h1,h2,h3⟩:=hs;exact ⟨Bx,h1,(grownBy_keeps_cells hg (fun r e=>(hr r e).2) h2 rfl).trans h2,h3⟩)
  ?assign ?body ?done ?stop
 case assign=>
  rintro l pre x W K hi hK;simp only [PEl.encs] at hK ⊢;have hbW:=hi.below.size;gi_wp2
  exact hK _ _ ((KeepsOthers.alloc _ _).from _) (PKp.alloc W hbW _) (GInv.own_from (B:=B2+2) (Nat.le_refl _) (Nat.le_refl _) (by omega) pre W _ none hi (World.grownBy_alloc W _ none) (fun r e=>by cases e)) ⟨W.heap.size,hi.size,World.alloc_heap_new W _,rfl⟩
 case body=>
  rintro l pre x a' W hl _ hi ⟨Bx,hBx,hcx,rfl⟩ hlt;obtain ⟨e1,e2,l1,l2,l3⟩:=x.nats;have HX:=hid (show ∃ y:PEl,y=x from ⟨x,rfl⟩);obtain ⟨f,hf⟩:∃ f,(pre.map (·.1)).foldl (gstep word) 0=f:=⟨_,rfl⟩;have hflt:=hi.lt;have hb0:=hi.b0;have hbwi:=hi.bw;rw [hf] at hflt hbwi;obtain ⟨s1,s2⟩:=zvh word f x.1 hflt x.2.2;have hst:((pre++[x]).map (·.1)).foldl (gstep word) 0=gstep word f x.1:=by rw [List.map_append,List.foldl_append,hf];rfl
  have HST:=hid hst;have c1:=hb0.cell;have c2:=hbwi.cell;have f2:=hbwi.frozen;obtain ⟨d0,d1⟩:=pcell hcx;rw [e1] at d0;rw [e2] at d1;rw [e1,e2];obtain ⟨p,hp⟩:∃ p,x.1.2.p=p:=⟨_,rfl⟩;obtain ⟨k,hk⟩:∃ k,x.1.2.l=k:=⟨_,rfl⟩;obtain ⟨q,hq⟩:∃ q,x.1.1=q:=⟨_,rfl⟩;have hgs:gstep word f x.1=f|||(word / 2^p%2^k*2^q):=by unfold gstep;rw [hp,hk,hq]
  rw [hp,hk,hq] at s2;rw [hp] at d0 l3;rw [hk] at d1 l1 l2 l3;rw [hp,hk,hq];have HM:=hid (fun W=>z2m k W l1 l2);have HV:=hid (zs2 word f p k q hword hflt l2 (by have:=x.2.2;omega) s2);have HI:=hid (And.intro hi (And.intro hgs (And.intro hf s1)));clear hst hgs hf hi hcx hlt e1 e2 hp hk hq HX;gi_wp2
  refine z59 l _ 12 (by kernel_rfl) (by kernel_rfl) (by kernel_rfl) ?_;change wpStill _ _ (World.drew _) (fun a'=>wpList _ _ _ _ a' (World.drew _)) _ _;simp only [List.take_succ_cons,List.take_zero,List.drop_succ_cons,List.drop_zero]
  repeat (first
   | still_step
   | (refine wpStill_step (fun K hK=>?_);go_simp;(with_reducible refine ⟨_,z62 (HM.out _),hK _ ?_⟩);clear hK K))
  refine wpStill_nil ?_;go_wp2
  refine ⟨rfl,?_⟩;rw [HV.out,<-HI.out.2.1];obtain ⟨hi,_,hf,s1⟩:=HI.out;refine ⟨((KeepsOthers.setCell _ _ _).trans (KeepsOthers.drew _)).from _,(PKp.setCell _ (by omega) 0 _).trans (PKp.drew _),?_⟩;refine ⟨hi.below.trans ((PKp.setCell (n₀:=w.heap.size) W (by omega) 0 _).trans (PKp.drew _)).1,by have:=hi.size;simp;omega,hi.b0.other (by omega) _,?_,?_⟩
  ·rw [HST.out];exact hi.bw.set _
  ·rw [HST.out];exact s1
 case done=>
  rintro D xs W hD hxs hi hK;have hres:(xs.map (·.1)).foldl (gstep word) 0=getN word L:=by rw [hxs,zbm word L 0 0 (by simp)];simp
  have hbw:=hi.bw;rw [hres] at hbw;have c2:=hbw.cell;have hbl:=hi.below;have HR:=hid (hbl.trans (belowK_b (w:=w) (Nat.le_refl _) W D _ (.deferred none) (by omega) hK rfl rfl));clear hres hi hbw hbl;gi_wp2
  refine ⟨by simp,.inl ⟨_,_,rfl,run_takeDeferred hK,?_⟩⟩;exact ⟨_,by simp [results,Tryz.f50,go_sem],rfl,HR.out⟩
 case stop=>rintro D c pre W hD hpre hx;exact hx.elim
def getR (size:Int) (word:Nat) (L:List MPiece):Nat×Int:=if cwR size word L=0 then (getN word L,0) else (0,cwR size word L)
theorem zxc {size:Int} {word:Nat} {L:List MPiece} (h:cwR size word L=0):(z3f size L).2=0/\word<2^size.toNat:=by
 unfold cwR at h;split at h
 ·rename_i h1;split at h
  ·rename_i h2;exact ⟨h1,(z4b _ _).1 h2⟩
  ·cases h
 ·rename_i h1;exact absurd h h1
set_option maxRecDepth 100000 in
theorem zrv (size : Int) (word : Nat) (A : Option Addr) (c : Nat) (L : List MPiece) (w : World) (hA : z3y w A L) (hok : zcb L) (hc : L.length <= c) (hcm : c <= maxLen) (hword : word < 18446744073709551616) :
 Calls prog 50 #[.int .i64 size, .int .u64 word, .slice A L.length c] w fun e w' => e = .returned (.tuple #[.int .u64 ((getR size word L).1 : Nat), .int .i64 (getR size word L).2]) /\ Below w.heap.size w w' := by
 by_cases h : cwR size word L = 0
 ·have hm := zd3 (zxc h).1;have := callsIn_wide.1 (zym size word A c L w hA hok hc hcm h (zlr hm.1 hm.2.2.1) hword)
  rwa [show getR size word L = (getN word L, 0) by unfold getR; rw [if_pos h]]
 ·have HCW := hid (fun W (h : z3y W A L) => z39 size word A c L W h hok hc hcm);have HA2 := hid (fun o => hA.later ((Below.refl w.heap.size w).alloc (Nat.le_refl _) o));rw [show getR size word L = (0, cwR size word L) by unfold getR; rw [if_neg h]];have h1 : (cwR size word L != 0) = true := by simpa using h
  generalize cwR size word L = z at *;clear h hA hok hc hcm hword;refine (callsIn_wide (n := 3)).1 ?_;refine callsIn_of_wp_marks Tryz.func50 rfl trivial ?_ rfl;simp only [Tryz.ntmps50, List.size_toArray, List.length_cons, List.length_nil, Nat.reduceAdd, Nat.reduceSub, Array.replicate_succ, Array.replicate_zero, List.push_toArray, List.append_toArray, List.nil_append, List.cons_append];gi_wp2_with (refine ⟨trivial, ?_⟩; gi_at_call 75; refine (callsIn_wide.2 (HCW.out _ (HA2.out _))).mono ?_; rintro e w2 ⟨rfl, hb2⟩)
  exact ⟨_, by simp [results, Tryz.f50, go_sem], rfl, ((Below.refl _ w).alloc (Nat.le_refl _) _).trans (hb2.mono (by simp))⟩
end Go.Proofs.YtofhpahihneipaaGreatDoor
