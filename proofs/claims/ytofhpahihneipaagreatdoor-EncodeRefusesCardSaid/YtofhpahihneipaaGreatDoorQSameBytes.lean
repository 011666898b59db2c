import Derived.Test.YtofhpahihneipaaGreatDoorQBytesOf
import Derived.BigQuiet
set_option linter.unusedVariables false
set_option linter.unusedSimpArgs false
set_option warningAsError false
set_option maxHeartbeats 4000000
open Go.Lib (hid)
open Go.Proofs.Tryz (prog)
namespace Go.Proofs.YtofhpahihneipaaGreatDoor
open Go.RowKit Go.Instr Go.Sort Go.Lib
set_option maxRecDepth 100000
def ByAt (w:World) (A:Option Addr) (L:List Nat):Prop:=∀ (i x:Nat),L[i]? =some x->∃ b o,A=some ⟨b,o,none⟩/\b<w.heap.size/\w.cell? ⟨b,o+i,none⟩=some (.int .u8 (x:Nat))
theorem ByAt.below {w w':World} {A:Option Addr} {L:List Nat} (h:ByAt w A L) (hb:Below w.heap.size w w'):ByAt w' A L:=fun i x hx=>by obtain ⟨b,o,e,h1,h2⟩:=h i x hx;exact ⟨b,o,e,Nat.lt_of_lt_of_le h1 hb.size,(hb.cell h1).trans h2⟩
theorem z000 {w:World} {base n:Nat} {v:Value} {L:List Nat} (h:w.ownsRow base 5 1 v n (z4o L)) (hn:L.length=n):∃ A c,v=.slice A n c/\ByAt w A L:=by
 obtain ⟨_,⟨rfl,h0⟩|⟨g,cap,cur,rfl,_,hh,_,_,_,ht⟩⟩:=h
 ·subst h0;exact ⟨none,0,rfl,fun i x hx=>by have:=(List.getElem?_eq_some_iff.1 hx).1;omega⟩
 ·refine ⟨_,cap,rfl,fun i x hx=>⟨g,0,rfl,(Array.getElem?_eq_some_iff.1 hh).1,?_⟩⟩;have hil:=(List.getElem?_eq_some_iff.1 hx).1;rw [Nat.zero_add];refine zb hh ?_;have e:(cur.toList.take (n*1))[i]? =some (.int .u8 (x:Nat)):=by rw [ht];unfold z4o;rw [List.getElem?_map,hx];rfl
  rw [List.getElem?_take,if_pos (by omega)] at e;simpa using e
theorem zdh (w:World) (A A':Option Addr) (n c c':Nat) (L:List Nat) (hn:L.length=n) (hr:ByAt w A L) (hr':ByAt w A' L) (hL:n<=1000000):
 Calls prog 16 #[.slice A n c,.slice A' n c'] w fun e w'=>e=.returned (.bool true)/\Below w.heap.size w w':=by
 have HR:=hid hr;have HR':=hid hr';have HN:=hid hn;have hg:((n:Int)!=(n:Int))=false:=by simp
 clear hn hr hr';go_enter Tryz.func16,Tryz.ntmps16
 go_wp2
 go_loopw [5] (fun vi wr=>∃ k:Nat,vi=.int .i64 k/\k<=n/\Hid (Below w.heap.size w wr)) (fun vi _=>n-(intOf vi).toNat)
 case atStart=>exact ⟨0,rfl,by omega,hid (Below.refl _ _)⟩
 case round=>
  obtain ⟨k,rfl,hk,HB⟩:=hrel;by_cases hlt:k<n
  ·obtain ⟨x,hx⟩:∃ x,L[k]? =some x:=⟨_,List.getElem?_eq_getElem (by rw [HN.out];exact hlt)⟩;obtain ⟨b,o,e1,_,x0⟩:=HR.out.below HB.out k x hx;obtain ⟨b',o',e2,_,x1⟩:=HR'.out.below HB.out k x hx;subst e1;subst e2;have hj0:(0:Int)<=(k:Int):=Int.natCast_nonneg _;have hj1:(k:Int)<(n:Int):=by omega
   have hk6:(k:Int)<=1000000:=by omega
   have h0:((x:Int)!=(x:Int))=false:=by simp
   have HLT:=hid hlt;clear hx hlt;go_wp2
   go_quiet (fail)
   go_wp2
   go_roundw
   case rel=>exact ⟨k+1,by first|rfl|go_num,by have:=HLT.out;omega,hid (HB.out.trans (z38 _ _ _))⟩
   case measure=>simp only [intOf];have:=HLT.out;omega
  ·obtain rfl:k=n:=by omega
   have hj1:¬ (k:Int)<(k:Int):=by omega
   clear hlt;go_wp2
   go_ret
   exact ⟨rfl,HB.out⟩
end Go.Proofs.YtofhpahihneipaaGreatDoor
