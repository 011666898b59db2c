import Derived.Test.YtofhpahihneipaaGreatDoorPf
import Derived.Test.YtofhpahihneipaaGreatDoorGs
set_option linter.unusedVariables false
set_option linter.unusedSimpArgs false
set_option warningAsError false
set_option maxHeartbeats 4000000
open Go.Lib (hid)
open Go.Proofs.Tryz (prog)
namespace Go.Proofs.YtofhpahihneipaaGreatDoor
open Go.RowKit Go.Instr Go.Sort
set_option maxRecDepth 100000
abbrev POp:=Int×List Int
def opE (w:World) (cs:List Value) (x:POp):Prop:=∃ sa,cs=[.int .i64 x.1,sa]/\(-9223372036854775808<=x.1/\x.1<=9223372036854775807)/\zd 1 intE w sa x.2
theorem opE.kept {w w':World} {cs:List Value} {x:POp} (h:opE w cs x) (hb:Below w.heap.size w w'):opE w' cs x:=by obtain ⟨sa,h1,h2,h3⟩:=h;exact ⟨sa,h1,h2,h3.kept (fun cs x hx=>intE.kept hx hb) hb⟩
theorem zom (K:Nat) (hK:K<=100000) (w:World):Sem.run prog (makeSlice 89 (.int .i64 0) (.int .i64 (K:Int))) w=.ok (.slice (some ⟨w.heap.size,0,none⟩) 0 K) (w.alloc (.cells (madeCells #[.int .u64 0] K) 31)):=by obtain ⟨i0,hi0,hz0,hz1,hz2⟩:=info_parts zmn;have h:=run_make (P:=prog) w 89 31 i0 (.int .u64 0) Tryz.underlying89 hi0 hz0 .i64 .i64 0 (K:Int) (Int.le_refl _) (by omega) (by rw [hz2];omega) (by omega);simp only [hz1,Int.toNat_natCast,Nat.mul_one,Int.toNat_zero] at h;exact h
theorem zss {K:Nat} (hK:K<=100000) (w:World):(w.alloc (.cells (madeCells #[.int .u64 0] K) 31)).ownsRow w.heap.size 31 1 (.slice (some ⟨w.heap.size,0,none⟩) 0 K) 0 (uRow []):=
 ⟨rfl,.inr ⟨w.heap.size,K,_,rfl,Nat.le_refl _,heap_alloc_new _ _,Nat.zero_le _,by unfold maxLen;omega,by rw [size_madeCells];simp,by simp [uRow]⟩⟩
theorem zu9 (L:List Nat) (x:Nat):uRow (L++[x])=uRow L++[.int .u64 (x:Int)]:=by unfold uRow;simp
theorem zpp (w:World) (v:Value) (L:List POp) (hR:zd 2 opE w v L) (g:Nat) (lb:Array Value) (eg:∀ args w,(callFunc g args).run prog w=.ok (.enter g args) w) (wd:POp->Nat)
 (hp:∀ W,Below w.heap.size w W->∀ x∈L,∀ sa,zd 1 intE W sa x.2->Calls prog g (#[.agg #[.int .i64 x.1,sa]]++lb) W fun e w'=>e=.returned (.tuple #[.int .u64 (wd x:Nat),.int .i64 0])/\Below W.heap.size W w') (hwd:∀ x∈L,wd x<18446744073709551616) (hlen:L.length<=5000):
 Calls prog 34 #[v,.func (.func g) #[] lb] w fun e w'=>∃ A c,e=.returned (.tuple #[.slice A L.length c,.int .i64 0,.int .i64 0])/\zd 1 u64E w' (.slice A L.length c) (L.map wd)/\Below w.heap.size w w':=by
 have HR:=hid hR;have HP:=hid hp;obtain ⟨A,c,rfl,hn1,_,_,_⟩:=hR;obtain ⟨n,hn⟩:∃ n,L.length=n:=⟨_,rfl⟩;have HN:=hid hn;rw [hn] at hn1 HR hlen ⊢;have hmk:=zom n (by omega);have HOW:=hid (zss (show n<=100000 by omega) w);have hn4:(n:Int)<=5000:=by omega
 obtain ⟨i0,hi0,hz0,hz1,hz2⟩:=info_parts zmn;have HI0:=hid hi0;have HZ0:=hid hz0;have HZ1:=hid hz1;have HZ2:=hid hz2;have HRF:=hid (Below.refl w.heap.size w);have HLEN:=hid hlen;obtain ⟨PP,hPP⟩:∃ PP:Ending->World->Prop,PP=fun e w'=>∃ A c,e=.returned (.tuple #[.slice A n c,.int .i64 0,.int .i64 0])/\zd 1 u64E w' (.slice A n c) (L.map wd)/\Below w.heap.size w w':=⟨_,rfl⟩;rw [<- hPP];have HFIN:=hid (show ∀ (X:World) (sv:Value),Below w.heap.size w X->X.ownsRow w.heap.size 31 1 sv n (uRow (L.map wd))->∃ A c,sv=.slice A n c/\PP (.returned (.tuple #[.slice A n c,.int .i64 0,.int .i64 0])) X from fun X sv hX ho=>by have h:=zkw (v:=sv) (l:=L.map wd) (by rw [List.length_map,hn];exact ho) (by rw [List.length_map,hn];unfold maxLen;omega) (fun x hx=>by obtain ⟨y,hy,rfl⟩:=List.mem_map.1 hx;exact hwd y hy);obtain ⟨A1,c1,e1,_⟩:=id h;rw [List.length_map,hn] at e1;subst e1;exact ⟨A1,c1,rfl,by rw [hPP];exact ⟨A1,c1,rfl,h,hX⟩⟩)
 clear hp hn1 hn hi0 hz0 hz1 hz2 hlen hPP hwd;go_enter Tryz.func34,Tryz.ntmps34
 go_wp2
 go_loopw [7,17] (fun vv vi wr=>∃ i:Nat,vi=.int .i64 i/\i<=n/\Hid (Below w.heap.size w wr/\wr.ownsRow w.heap.size 31 1 vv i (uRow ((L.map wd).take i)))) (fun _ vi _=>n-(intOf vi).toNat)
 case atStart=>exact ⟨0,rfl,Nat.zero_le _,hid ⟨(Below.refl _ _).alloc (Nat.le_refl _) _,HOW.out⟩⟩
 case round=>
  obtain ⟨i,rfl,hi,HJ⟩:=hrel;by_cases hlt:i<n
  ·obtain ⟨s,hs⟩:∃ z,L[i]? =some z:=⟨_,List.getElem?_eq_getElem (by rw [HN.out];exact hlt)⟩;have hbw:=HJ.out.1;obtain ⟨A',c',e1,_,_,_,hall⟩:=HR.out.kept (fun cs x hx=>opE.kept hx hbw) hbw;obtain ⟨b,o,cs,e2,hb,hcl,hcell,hE⟩:=hall i s hs;obtain ⟨rfl,rfl⟩:A=A'/\c=c':=by cases e1;exact ⟨rfl,rfl⟩
   subst e2;have hE0:=hE;obtain ⟨sa,rfl,_,hsa⟩:=hE;obtain ⟨Af,cf,rfl,_⟩:=id hsa;obtain ⟨nf,hnf⟩:∃ z,s.2.length=z:=⟨_,rfl⟩;obtain ⟨zi,hzi⟩:∃ z,s.1=z:=⟨_,rfl⟩;rw [hnf] at hcell hsa;rw [hzi] at hcell;have p0:wr.cell? ⟨b,o+i*2,none⟩=some (.int .i64 zi):=by simpa using hcell 0 _ rfl
   have p1:wr.cell? ⟨b,o+i*2+1,none⟩=some (.slice Af nf cf):=hcell 1 _ rfl;obtain ⟨W5,hW5⟩:∃ z,z=wr.alloc (.cells #[.int .i64 zi,.slice Af nf cf] 30):=⟨_,rfl⟩;have hba:Below wr.heap.size wr W5:=by rw [hW5];exact (Below.refl _ _).alloc (Nat.le_refl _) _
   have hbw5:Below w.heap.size w W5:=hbw.trans (hba.mono hbw.size);obtain ⟨x,hx⟩:∃ x,wd s=x:=⟨_,rfl⟩;have hcall:Calls prog g (#[.agg #[.int .i64 zi,.slice Af nf cf]]++lb) W5 fun e w'=>e=.returned (.tuple #[.int .u64 (x:Nat),.int .i64 0])/\Below wr.heap.size wr w'/\Below w.heap.size w w':=by have h:=HP.out W5 hbw5 s (List.mem_of_getElem? hs) _ (hsa.kept (fun cs x hx=>intE.kept hx hba) hba);rw [hzi,hx] at h;exact h.mono fun e w' ⟨h1,h2⟩=>⟨h1,hba.trans (h2.mono hba.size),hbw5.trans (h2.mono hbw5.size)⟩
   have HSU:=hid (show (L.map wd).take (i+1)=(L.map wd).take i++[x] by rw [List.take_add_one,List.getElem?_map,hs,<-hx];rfl);have HLT:=hid hlt;have hin:(i:Int)<(n:Int):=by omega
   have hi0:(0:Int)<=(i:Int):=by omega
   have HOWN:=hid HJ.out.2;rw [hW5] at hcall;have HCL:=hid hcall;clear hall hcell hs e1 hbw hcl hba hE0 HJ hW5 hbw5 hcall hnf hzi hx hsa hb hlt
   go_wp2_with (first
    | (at_builtin;refine Hid.out ?_)
    | ((with_reducible refine HCL.out.mono ?_);rintro e w5 ⟨rfl,hb5,hc5⟩))
   refine hid ?_;refine wpList_append_own _ rfl _ _ 89 rfl w.heap.size 31 i0 (.int .u64 0) 1 8 Tryz.underlying89 HI0.out HZ0.out HZ1.out HZ2.out rfl (by decide) _ i (uRow ((L.map wd).take i)) rfl ((z1z HOWN.out hb5).alloc _) ⟨_,0,none⟩ 1 1 [.int .u64 (x:Nat)] rfl rfl (z4i _ _ _ _ rfl) (by intro u hu;simp at hu;subst hu;rfl) (by have:=HLT.out;have:=HLEN.out;unfold maxLen;omega) (by have:=HLT.out;have:=HLEN.out;omega) (by have:=hc5.size;simp;omega) ?_;intro v' w6 hown' hgrow _;have hb6:Below w.heap.size w w6:=by
    have h1:=hc5.alloc hc5.size (.cells #[.int .u64 (x:Nat)] 31);exact h1.grown hgrow (by have:=hc5.size;simp;omega) (fun r hr=>by have:=HOWN.out.lt r hr;omega)
   have HO6:=hid (show Below w.heap.size w w6/\w6.ownsRow w.heap.size 31 1 v' (i+1) (uRow ((L.map wd).take (i+1))) by rw [HSU.out,zu9];exact ⟨hb6,hown'⟩)
   clear hown' hgrow hb6 hb5 hc5;go_wp2
   go_roundw
   case rel=>exact ⟨i+1,by first|rfl|go_num|(congr 1),by have:=HLT.out;omega,HO6⟩
   case measure=>simp only [intOf];have:=HLT.out;omega
  ·obtain rfl:i=n:=by omega
   have h1:=HJ.out;rw [List.take_of_length_le (by rw [List.length_map,HN.out];exact Nat.le_refl _)] at h1;obtain ⟨A1,c1,rfl,hpp⟩:=HFIN.out _ _ h1.1 h1.2;have HE:=hid hpp;have hin:¬ (i:Int)<(i:Int):=by omega
   clear h1 hlt HJ hpp;go_wp2
   exact HE.out
end Go.Proofs.YtofhpahihneipaaGreatDoor
