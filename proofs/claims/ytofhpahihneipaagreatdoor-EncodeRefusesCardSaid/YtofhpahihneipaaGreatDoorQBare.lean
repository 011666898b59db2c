import Derived.Test.YtofhpahihneipaaGreatDoorQInsClone
import Derived.Test.YtofhpahihneipaaGreatDoorGg
import Derived.Test.YtofhpahihneipaaGreatDoorGs
set_option linter.unusedVariables false
set_option linter.unusedSimpArgs false
set_option warningAsError false
namespace Go.Proofs.YtofhpahihneipaaGreatDoor
open Go.RowKit Go.Instr Go.Sort
set_option maxRecDepth 100000
def zzv (x:MIns):MIns:={ x with effs:=[],slots:=0 }
def z37 (m:Mach):Mach:={ m with instrs:=m.instrs.map zzv }
theorem zm9 {w:World} {base:Nat} {e:TypeId} {g n cap p k:Nat} {xs:List Value} (h:w.ownsRow base e k (.slice (some ⟨g,0,none⟩) n cap) n xs) (u:Value):(w.setCell ⟨g,p,none⟩ u).ownsRow base e k (.slice (some ⟨g,0,none⟩) n cap) n (xs.set p u):=by
 obtain ⟨h0,h|⟨g',cap',cur,hv,hg,hh,hc,hm,hz,ht⟩⟩:=h
 ·cases h.1
 ·cases hv;refine ⟨by simpa using h0,.inr ⟨g,cap,cur.set! p u,rfl,hg,?_,hc,hm,by simpa using hz,?_⟩⟩
  ·simp [World.setCell,Array.getElem?_modify,hh]
  ·rw [<- ht];simp [List.take_set]
def z7s (f:Nat->Value) (n k:Nat):List Value:=(List.range (n*9)).map fun j=>if j / 9<k/\j%9=4 then .slice none 0 0 else if j / 9<k/\j%9=8 then .int .i64 0 else f j
theorem zn4 (f:Nat->Value) (n:Nat):z7s f n 0=(List.range (n*9)).map f:=by unfold z7s;apply List.map_congr_left;intro j _;simp
theorem zn3 (f:Nat->Value) (n k:Nat) (hk:k<n):((z7s f n k).set (k*9+4) (.slice none 0 0)).set (k*9+8) (.int .i64 0)=z7s f n (k+1):=by
 apply List.ext_getElem?;intro j;unfold z7s;rcases Nat.lt_or_ge j (n*9) with h|h
 ·rw [List.getElem?_set,List.getElem?_set,List.getElem?_map,List.getElem?_map,List.getElem?_range h];simp only [List.length_set,List.length_map,List.length_range,Option.map_some];by_cases h8:k*9+8=j
  ·subst h8;rw [if_pos rfl,if_pos h];have e1:(k*9+8) / 9=k:=by omega
   have e2:(k*9+8)%9=8:=by omega
   rw [e1,e2];simp
  ·rw [if_neg h8];by_cases h4:k*9+4=j
   ·subst h4;rw [if_pos rfl,if_pos h];have e1:(k*9+4) / 9=k:=(by omega);have e2:(k*9+4)%9=4:=(by omega);rw [e1,e2];simp
   ·rw [if_neg h4]
    congr 1
    by_cases hq:j / 9<k
    ·have:j / 9<k+1:=(by omega);simp only [hq,this]
    ·by_cases hq2:j / 9<k+1
     ·have:j / 9=k:=(by omega);have a1:¬ j%9=4:=(by omega);have a2:¬ j%9=8:=(by omega);simp only [a1,a2,and_false,if_false]
     ·simp only [hq,hq2]
 ·rw [List.getElem?_eq_none (by simp;omega),List.getElem?_eq_none (by simp;omega)]
theorem zum (f:Nat->Value) (n k i j:Nat) (hi:i<n) (hj:j<9):(z7s f n k)[i*9+j]? =some (if i<k/\j=4 then .slice none 0 0 else if i<k/\j=8 then .int .i64 0 else f (i*9+j)):=by
 unfold z7s;rw [List.getElem?_map,List.getElem?_range (by omega)];have e1:(i*9+j) / 9=i:=by omega
 have e2:(i*9+j)%9=j:=by omega
 simp only [Option.map_some,e1,e2]
theorem zqb {w w':World} {base:Nat} {A:Option Addr} {c n:Nat} {L:List MIns} (h:zd 9 insE w (.slice A n c) L) (hb:Below w.heap.size w w') {v':Value} (ho:w'.ownsRow base 60 9 v' n (z7s (rawF w A (n*9)) n n)):zd 9 insE w' v' (L.map zzv):=by
 have h':=h;obtain ⟨A',c',e1,hm,_,_,hall⟩:=h';cases e1;obtain ⟨_,ho|⟨g,cap,cur,hv,_,hh,hc,hmx,_,ht⟩⟩:=ho
 ·have h0:L=[]:=List.length_eq_zero_iff.1 ho.2;subst h0;exact ⟨none,0,ho.1,by simp,by simp,by simp,fun i x hx=>by simp at hx⟩
 ·refine ⟨some ⟨g,0,none⟩,cap,by rw [List.length_map];exact hv,by rw [List.length_map];exact hm,by rw [List.length_map];exact hc,hmx,fun i x hx=>?_⟩;rw [List.getElem?_map] at hx;obtain ⟨y,hy,rfl⟩:=Option.map_eq_some_iff.1 hx;have hil:=(List.getElem?_eq_some_iff.1 hy).1;obtain ⟨cs,hl,⟨so,se,rfl,k1,k2,k3,k4,k5,k6,k7,k8,k9⟩,hr⟩:=zxq h (by decide) hy;refine ⟨g,0,[.string y.name,.int .u64 (y.mask:Nat),.int .u64 (y.mtch:Nat),so,.slice none 0 0,.int .i64 y.unit,.int .i64 y.busy,.int .i64 y.lat,.int .i64 0],rfl,(Array.getElem?_eq_some_iff.1 hh).1,rfl,fun j u hj=>?_,so,.slice none 0 0,rfl,k1,k2,k3,k4.kept (fun cs x hx=>zx.kept hx hb) hb,z50,k6,k7,k8,by show -9223372036854775808<=(0:Int)/\(0:Int)<=9223372036854775807;omega⟩;have hj9:j<9:=by
   have:=(List.getElem?_eq_some_iff.1 hj).1;simpa using this
  rw [Nat.zero_add];refine zb hh ?_;have e:(cur.toList.take (L.length*9))[i*9+j]? =some u:=by
   rw [ht,zum _ _ _ _ _ hil hj9]
   match j,hj9 with
   | 0,_|1,_|2,_|3,_|5,_|6,_|7,_=>rw [if_neg (by omega),if_neg (by omega),hr _ _ rfl];exact hj
   | 4,_=>rw [if_pos ⟨hil,rfl⟩];exact hj
   | 8,_=>rw [if_neg (by omega),if_pos ⟨hil,rfl⟩];exact hj
  rw [List.getElem?_take,if_pos (by omega)] at e;simpa using e
end Go.Proofs.YtofhpahihneipaaGreatDoor
