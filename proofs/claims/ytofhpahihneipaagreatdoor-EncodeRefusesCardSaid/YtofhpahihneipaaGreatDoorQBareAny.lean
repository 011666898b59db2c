import Derived.Test.YtofhpahihneipaaGreatDoorQBare
import Derived.Deep.RegionHeld3
set_option linter.unusedVariables false
set_option linter.unusedSimpArgs false
set_option warningAsError false
set_option maxHeartbeats 4000000
open Go.Lib (hid)
open Go.Proofs.Tryz (prog)
namespace Go.Proofs.YtofhpahihneipaaGreatDoor
open Go.RowKit Go.Instr Go.Sort
set_option maxRecDepth 100000
def zdr (w:World) (bc zc:Array Value) (A:Option Addr) (c n:Nat) (f:Nat->Value) (k:Nat) (X:World):Prop:=Below w.heap.size w X/\X.heap[w.heap.size]? =some (.cells bc 27)/\X.heap[w.heap.size+1]? =some (.cells zc 27)/\X.ownsRow (w.heap.size+2) 60 9 (.slice A n c) n (z7s f n k)
theorem z4k {X:World} {g p k:Nat} {u:Value} (h:k≠g):(X.setCell ⟨g,p,none⟩ u).heap[k]? =X.heap[k]? :=by simp only [World.setCell];rw [Array.getElem?_modify];simp [Ne.symm h]
theorem zdr.step {w:World} {bc zc:Array Value} {g c n:Nat} {f:Nat->Value} {k:Nat} {X:World} (h:zdr w bc zc (some ⟨g,0,none⟩) c n f k X) (hk:k<n) (hg:w.heap.size+2<=g):zdr w bc zc (some ⟨g,0,none⟩) c n f (k+1) ((X.setCell ⟨g,k*9+4,none⟩ (.slice none 0 0)).setCell ⟨g,k*9+8,none⟩ (.int .i64 0)):=by
 obtain ⟨h1,h2,h3,h4⟩:=h;refine ⟨(h1.setCell (show w.heap.size<=g by omega) _).setCell (show w.heap.size<=g by omega) _,?_,?_,?_⟩
 ·rw [z4k (by omega),z4k (by omega)];exact h2
 ·rw [z4k (by omega),z4k (by omega)];exact h3
 ·rw [<- zn3 f n k hk];exact zm9 (zm9 h4 _) _
theorem zdr.open {w:World} {bc zc:Array Value} {A:Option Addr} {c n:Nat} {f:Nat->Value} {k:Nat} {X:World} (h:zdr w bc zc A c n f k X) (hk:k<n):∃ g,A=some ⟨g,0,none⟩/\w.heap.size+2<=g/\(∀ p,X.frozen? ⟨g,p,none⟩=false)/\∀ p,p<9->∃ u,X.cell? ⟨g,k*9+p,none⟩=some u:=by
 obtain ⟨_,_,_,hl,⟨_,h0⟩|⟨g,cap,cur,hv,hg,hh,hc,_,hz,_⟩⟩:=h
 ·omega
 ·cases hv;refine ⟨g,rfl,hg,fun p=>by simp [World.frozen?,hh],fun p hp=>?_⟩;have h1:k*9+p<cur.size:=by rw [hz];have:=Nat.mul_le_mul_right 9 (show k+1<=c by omega);omega
  exact ⟨cur[k*9+p],zb hh (by rw [Array.getElem?_eq_getElem h1])⟩
theorem zun (w:World) (v:Value) (m:Mach) (hm:z1j w v m) (hlen:m.instrs.length<=1000):
 Calls prog 33 #[v] w fun e w'=>∃ v',e=.returned v'/\z1j w' v' (z37 m)/\Below w.heap.size w w':=by
 have hm':=hm;obtain ⟨cs0,rfl,sr,sb,su,si,hcs,h1,h2,h3,hR,hB,hU,hI⟩:=hm;obtain rfl:cs0= #[.string m.name,.int .i64 m.word,.int .i64 m.address,sr,sb,su,si]:=by cases cs0;simp_all
 obtain ⟨Ar,cr,rfl,_⟩:=id hR;obtain ⟨Ab,cb,rfl,_⟩:=id hB;obtain ⟨Au,cu,rfl,_⟩:=id hU;obtain ⟨Ai,ci,rfl,_⟩:=id hI;obtain ⟨n,hn⟩:∃ z,m.instrs.length=z:=⟨_,rfl⟩;obtain ⟨lr,hlr⟩:∃ z,m.regs.length=z:=⟨_,rfl⟩;obtain ⟨lb,hlb⟩:∃ z,m.banks.length=z:=⟨_,rfl⟩;obtain ⟨lu,hlu⟩:∃ z,m.units.length=z:=⟨_,rfl⟩;rw [hn,hlr,hlb,hlu] at hm' hcs ⊢;rw [hn] at hI hlen;obtain ⟨f,hf⟩:∃ f,rawF w Ai (n*9)=f:=⟨_,rfl⟩;have HFIN:=hid (show ∀ X A c,Below w.heap.size w X->X.ownsRow (w.heap.size+2) 60 9 (.slice A n c) n (z7s f n n)->z1j X (.agg #[.string m.name,.int .i64 m.word,.int .i64 m.address,.slice Ar lr cr,.slice Ab lb cb,.slice Au lu cu,.slice A n c]) (z37 m) from fun X A c hX ho=>by
  refine ⟨_,rfl,.slice Ar lr cr,.slice Ab lb cb,.slice Au lu cu,.slice A n c,rfl,h1,h2,h3,?_,?_,?_,?_⟩
  ·rw [<- hlr];exact hR.kept (fun cs x hx=>regE.kept hx hX) hX
  ·rw [<- hlb];exact hB.kept (fun cs x hx=>z1k.kept hx hX) hX
  ·rw [<- hlu];exact hU.kept (fun cs x hx=>z52.kept hx hX) hX
  ·rw [<- hf] at ho;exact zqb hI hX ho)
 obtain ⟨W2,hW2⟩:∃ W2,W2=(w.alloc (.cells #[.string m.name,.int .i64 m.word,.int .i64 m.address,.slice Ar lr cr,.slice Ab lb cb,.slice Au lu cu,.slice Ai n ci] 27)).alloc (.cells #[.string ⟨#[]⟩,.int .i64 0,.int .i64 0,.slice none 0 0,.slice none 0 0,.slice none 0 0,.slice none 0 0] 27):=⟨_,rfl⟩;have hb1:Below w.heap.size w (w.alloc (.cells #[.string m.name,.int .i64 m.word,.int .i64 m.address,.slice Ar lr cr,.slice Ab lb cb,.slice Au lu cu,.slice Ai n ci] 27)):=(Below.refl _ _).alloc (Nat.le_refl _) _;have hb2:Below w.heap.size w W2:=by rw [hW2];exact hb1.alloc (by simp) _
 have hs2:W2.heap.size=w.heap.size+2:=by rw [hW2];simp
 have hm2:W2.heap[w.heap.size]? =some (.cells #[.string m.name,.int .i64 m.word,.int .i64 m.address,.slice Ar lr cr,.slice Ab lb cb,.slice Au lu cu,.slice Ai n ci] 27):=by rw [hW2];exact (((Below.refl _ _).alloc (Nat.le_refl _) _).block _ (by simp)).trans (heap_alloc_new _ _)
 have ho2:W2.heap[w.heap.size+1]? =some (.cells #[.string ⟨#[]⟩,.int .i64 0,.int .i64 0,.slice none 0 0,.slice none 0 0,.slice none 0 0,.slice none 0 0] 27):=by rw [hW2];have:=heap_alloc_new (w.alloc (.cells #[.string m.name,.int .i64 m.word,.int .i64 m.address,.slice Ar lr cr,.slice Ab lb cb,.slice Au lu cu,.slice Ai n ci] 27)) (.cells #[.string ⟨#[]⟩,.int .i64 0,.int .i64 0,.slice none 0 0,.slice none 0 0,.slice none 0 0,.slice none 0 0] 27);simpa using this
 have HCL:=hid (show Calls prog 56 #[.slice Ai n ci] W2 fun e w'=>∃ A c,e=.returned (.slice A n c)/\Hid (w'.ownsRow (w.heap.size+2) 60 9 (.slice A n c) n (z7s f n 0))/\Below W2.heap.size W2 w' from by
  refine (zne W2 Ai n ci m.instrs (hI.kept (fun cs x hx=>insE.kept hx hb2) hb2) (by omega)).mono ?_;rintro e w' ⟨v',e1,e2,e3⟩;have hff:rawF W2 Ai (n*9)=f:=by
   rw [<- hf];funext j;unfold rawF
   cases Ai with
   | none=>rfl
   | some ad=>
     obtain ⟨b,o,r⟩:=ad
     cases r with
     | some r=>rfl
     | none=>
       by_cases hj:j<n*9
       ·simp only [hj,if_true];have h0:0<n:=(by omega);obtain ⟨A',c',e1,_,_,_,hall⟩:=hI;obtain ⟨b',o',cs,e2,hb,_⟩:=hall 0 _ (List.getElem?_eq_getElem (by omega));injection e1 with e4 _ _;rw [e2] at e4;injection e4 with e5;injection e5 with e6 _ _;subst e6;rw [hb2.cell (p:=⟨b,o+j,none⟩) hb]
       ·simp only [hj,if_false]
  rw [hff,hs2,<-zn4] at e2;obtain ⟨_,⟨rfl,h0⟩|⟨g,cap,cur,rfl,hq⟩⟩:=id e2
  ·subst h0;exact ⟨none,0,e1,hid e2,e3⟩
  ·exact ⟨_,_,e1,hid e2,e3⟩)
 rw [hW2] at HCL;have HW2:=hid hW2;have HBX:=hid (show ∀ X,Below W2.heap.size W2 X->X.heap[w.heap.size]? =some (.cells #[.string m.name,.int .i64 m.word,.int .i64 m.address,.slice Ar lr cr,.slice Ab lb cb,.slice Au lu cu,.slice Ai n ci] 27)/\X.heap[w.heap.size+1]? =some (.cells #[.string ⟨#[]⟩,.int .i64 0,.int .i64 0,.slice none 0 0,.slice none 0 0,.slice none 0 0,.slice none 0 0] 27)/\Below w.heap.size w X from fun X hX=>⟨(hX.block _ (by omega)).trans hm2,(hX.block _ (by omega)).trans ho2,hb2.trans (hX.mono hb2.size)⟩);clear hcs h1 h2 h3 hR hB hU hI hm' hW2 hb1 hb2 hs2 hm2 ho2 hf hn hlr hlb hlu;go_enter Tryz.func33,Tryz.ntmps33
 go_wp2_with (go_at_call 56;(with_reducible refine HCL.out.mono ?_);rintro e w3 ⟨A3,c3,rfl,ho3,hb3⟩;rw [<- HW2.out] at hb3;obtain ⟨k3,k4,k5⟩:=HBX.out _ hb3;have c6:w3.cell? ⟨w.heap.size,6,none⟩=some (.slice Ai n ci):=zb k3 rfl;have fz:w3.frozen? ⟨w.heap.size,6,none⟩=false:=by simp [World.frozen?,k3])
 have HST:=hid (show zdr w #[.string m.name,.int .i64 m.word,.int .i64 m.address,.slice Ar lr cr,.slice Ab lb cb,.slice Au lu cu,.slice A3 n c3] #[.string ⟨#[]⟩,.int .i64 0,.int .i64 0,.slice none 0 0,.slice none 0 0,.slice none 0 0,.slice none 0 0] A3 c3 n f 0 (w3.setCell ⟨w.heap.size,6,none⟩ (.slice A3 n c3)) from by
  refine ⟨k5.setCell (Nat.le_refl w.heap.size) _,?_,?_,?_⟩
  ·simp [World.setCell,Array.getElem?_modify,k3]
  ·rw [z4k (by omega)];exact k4
  ·refine ownsRow_setCell_other ho3.out (a:=⟨w.heap.size,6,none⟩) (fun e=>?_) _;have h9:w.heap.size+2<=w.heap.size:=(ho3.out.lt _ e).1;omega)
 clear k3 k4 k5 c6 fz ho3 hb3;obtain ⟨bc,hbc⟩:∃ bc,(#[.string m.name,.int .i64 m.word,.int .i64 m.address,.slice Ar lr cr,.slice Ab lb cb,.slice Au lu cu,.slice A3 n c3]:Array Value)=bc:=⟨_,rfl⟩;have HBC:=hid hbc;rw [hbc] at HST;clear hbc;go_loopw [11] (fun vi wr=>∃ k:Nat,vi=.int .i64 k/\k<=n/\Hid (zdr w bc #[.string ⟨#[]⟩,.int .i64 0,.int .i64 0,.slice none 0 0,.slice none 0 0,.slice none 0 0,.slice none 0 0] A3 c3 n f k wr)) (fun vi _=>n-(intOf vi).toNat)
 case atStart=>exact ⟨0,rfl,Nat.zero_le _,HST⟩
 case round=>
  obtain ⟨k,rfl,hk,HJ⟩:=hrel;have HJ2:=HJ;obtain ⟨j1,j2,j3,j4⟩:=HJ2.out;rw [<- HBC.out] at j2;have b0:wr.cell? ⟨w.heap.size,0,none⟩=some (.string m.name):=zb j2 rfl;have b1:wr.cell? ⟨w.heap.size,1,none⟩=some (.int .i64 m.word):=zb j2 rfl;have b2:wr.cell? ⟨w.heap.size,2,none⟩=some (.int .i64 m.address):=zb j2 rfl;have b3:wr.cell? ⟨w.heap.size,3,none⟩=some (.slice Ar lr cr):=zb j2 rfl;have b4:wr.cell? ⟨w.heap.size,4,none⟩=some (.slice Ab lb cb):=zb j2 rfl;have b5:wr.cell? ⟨w.heap.size,5,none⟩=some (.slice Au lu cu):=zb j2 rfl;have b6:wr.cell? ⟨w.heap.size,6,none⟩=some (.slice A3 n c3):=zb j2 rfl;by_cases hlt:k<n
  ·obtain ⟨g,rfl,hg,hfz,hcl⟩:=HJ2.out.open hlt;obtain ⟨u4,x4⟩:=hcl 4 (by omega);obtain ⟨u8,x8⟩:=hcl 8 (by omega);have f4:=hfz (k*9+4);have f8:=hfz (k*9+8);have HN:=hid (HJ2.out.step hlt hg);have hne:w.heap.size≠g:=by omega
   have hin:(k:Int)<(n:Int):=by omega
   have hk0:(0:Int)<=(k:Int):=by omega
   have HK:=hid (show ∀ (X:World) (p:Nat) (u:Value),X.cell? ⟨w.heap.size,6,none⟩=some (.slice (some ⟨g,0,none⟩) n c3)->(X.setCell ⟨g,p,none⟩ u).cell? ⟨w.heap.size,6,none⟩=some (.slice (some ⟨g,0,none⟩) n c3) from fun X p u h=>by rw [<- h];exact World.cell?_of_block (z4k hne));have HK2:=hid (show ∀ (X:World),X.cell? ⟨w.heap.size,6,none⟩=some (.slice (some ⟨g,0,none⟩) n c3)->X.drew.cell? ⟨w.heap.size,6,none⟩=some (.slice (some ⟨g,0,none⟩) n c3) from fun X h=>h);have HLT:=hid hlt;have hk1:(k:Int)<=1000:=by omega
   clear j1 j2 j3 j4 HJ HJ2 hfz hcl hlt;go_wp2
   first|(go_region_held3 (fun w'=>w'.cell? ⟨w.heap.size,6,none⟩=some (.slice (some ⟨g,0,none⟩) n c3)) (first|((repeat (first|assumption|refine HK2.out _ ?_|refine HK.out _ _ _ ?_));done)|go_keep) (fail))
   have HN2:=hid (show zdr w bc #[.string ⟨#[]⟩,.int .i64 0,.int .i64 0,.slice none 0 0,.slice none 0 0,.slice none 0 0,.slice none 0 0] (some ⟨g,0,none⟩) c3 n f (k+1) ((wr.setCell ⟨g,k*9+4,none⟩ (.slice none 0 0)).setCell ⟨g,k*9+8,none⟩ (.int .i64 0)).drew from ⟨HN.out.1.drew,HN.out.2.1,HN.out.2.2.1,HN.out.2.2.2⟩);go_wp2
   go_roundw
   case rel=>exact ⟨k+1,by first|rfl|go_num,by have:=HLT.out;omega,HN2⟩
   case measure=>simp only [intOf];have:=HLT.out;omega
  ·obtain rfl:k=n:=by omega
   have hin:¬ (k:Int)<(k:Int):=by omega
   have z0:wr.cell? ⟨w.heap.size+1,0,none⟩=some (.string ⟨#[]⟩):=zb j3 rfl;have y0:wr.frozen? ⟨w.heap.size+1,0,none⟩=false:=by simp [World.frozen?,j3]
   have z1:wr.cell? ⟨w.heap.size+1,1,none⟩=some (.int .i64 0):=zb j3 rfl;have y1:wr.frozen? ⟨w.heap.size+1,1,none⟩=false:=by simp [World.frozen?,j3]
   have z2:wr.cell? ⟨w.heap.size+1,2,none⟩=some (.int .i64 0):=zb j3 rfl;have y2:wr.frozen? ⟨w.heap.size+1,2,none⟩=false:=by simp [World.frozen?,j3]
   have z3:wr.cell? ⟨w.heap.size+1,3,none⟩=some (.slice none 0 0):=zb j3 rfl;have y3:wr.frozen? ⟨w.heap.size+1,3,none⟩=false:=by simp [World.frozen?,j3]
   have z4:wr.cell? ⟨w.heap.size+1,4,none⟩=some (.slice none 0 0):=zb j3 rfl;have y4:wr.frozen? ⟨w.heap.size+1,4,none⟩=false:=by simp [World.frozen?,j3]
   have z5:wr.cell? ⟨w.heap.size+1,5,none⟩=some (.slice none 0 0):=zb j3 rfl;have y5:wr.frozen? ⟨w.heap.size+1,5,none⟩=false:=by simp [World.frozen?,j3]
   have z6:wr.cell? ⟨w.heap.size+1,6,none⟩=some (.slice none 0 0):=zb j3 rfl;have y6:wr.frozen? ⟨w.heap.size+1,6,none⟩=false:=by simp [World.frozen?,j3]
   have HEND:=hid (And.intro j1 j4);clear hlt j1 j2 j3 j4;go_wp2
   have hset:∀ (X:World) (p:Nat) (u:Value),Below w.heap.size w X/\X.ownsRow (w.heap.size+2) 60 9 (.slice A3 k c3) k (z7s f k k)->Below w.heap.size w (X.setCell ⟨w.heap.size+1,p,none⟩ u)/\(X.setCell ⟨w.heap.size+1,p,none⟩ u).ownsRow (w.heap.size+2) 60 9 (.slice A3 k c3) k (z7s f k k):=fun X p u ⟨e1,e2⟩=>by refine ⟨e1.setCell (Nat.le_succ w.heap.size) _,ownsRow_setCell_other e2 (a:=⟨w.heap.size+1,p,none⟩) (fun e=>?_) _⟩;have h9:w.heap.size+2<=w.heap.size+1:=(e2.lt _ e).1;omega
   have hend:=hset _ 6 (.slice A3 k c3) (hset _ 5 (.slice Au lu cu) (hset _ 4 (.slice Ab lb cb) (hset _ 3 (.slice Ar lr cr) (hset _ 2 (.int .i64 m.address) (hset _ 1 (.int .i64 m.word) (hset _ 0 (.string m.name) HEND.out))))));exact bodyPost_ret (v:=.agg #[.string m.name,.int .i64 m.word,.int .i64 m.address,.slice Ar lr cr,.slice Ab lb cb,.slice Au lu cu,.slice A3 k c3]) (by simp [results,Tryz.results33,go_sem,z0,z1,z2,z3,z4,z5,z6]) rfl ⟨_,rfl,HFIN.out _ A3 c3 hend.1 hend.2,hend.1⟩
end Go.Proofs.YtofhpahihneipaaGreatDoor
