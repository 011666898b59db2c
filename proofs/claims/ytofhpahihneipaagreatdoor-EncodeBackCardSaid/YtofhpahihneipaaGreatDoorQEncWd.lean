import Derived.Test.YtofhpahihneipaaGreatDoorQDecode
import Derived.Test.YtofhpahihneipaaGreatDoorPf
set_option linter.unusedVariables false
set_option linter.unusedSimpArgs false
set_option warningAsError false
namespace Go.Proofs.YtofhpahihneipaaGreatDoor
open Go.RowKit Go.Instr Go.Sort Go.Lib
theorem mtch_lt {w:World} {v:Value} {L:List MIns} (h:zd 9 insE w v L):∀ i∈L,i.mtch<18446744073709551616:=by intro i hi;obtain ⟨k,hk,rfl⟩:=List.getElem_of_mem hi;obtain ⟨A,c,_,_,_,_,hall⟩:=h;obtain ⟨b,o,cs,_,_,_,_,hE⟩:=hall k _ (List.getElem?_eq_getElem hk);obtain ⟨so,se,_,_,_,h2,_⟩:=hE;exact h2
theorem enc_word {m:Mach} {z:Int} {av:List Int} (hm:∀ i∈m.instrs,i.mtch<18446744073709551616) (h:z32 m z av=0):chkR m=0/\∃ (q:Nat) (i:MIns),z=q/\m.instrs[q]? =some i/\Fits m i av/\encR m z av=z22 m i.mtch i.opers av/\hasR (z1p m i) (encR m z av)=true/\encR m z av<2^(8*m.word).toNat/\z1c m (encR m z av) [] i.opers=av:=by
 obtain ⟨hc,q,i,rfl,hi,hf⟩:=z8e h;have e:encR m (q:Int) av=z22 m i.mtch i.opers av:=by unfold encR;rw [if_pos h,Int.toNat_natCast,hi]
 obtain ⟨k1,k2,k3⟩:=zkg hc (List.mem_of_getElem? hi) (hm i (List.mem_of_getElem? hi)) hf;rw [<- e] at k1 k2 k3;exact ⟨hc,q,i,rfl,hi,hf,e,k1,k2,k3⟩
theorem zi8 {m:Mach} {z:Int} {av:List Int} (hm:∀ i∈m.instrs,i.mtch<18446744073709551616) (h:z32 m z av=0):z57 m z (encR m z av)=0/\legB m z (encR m z av)=true/\z1i m (encR m z av)=0/\encR m z av<18446744073709551616/\(((ownL m (encR m z av)).length=1/\z1a m (encR m z av)=0/\(decZ m (encR m z av):Int)=z/\decA m (encR m z av)=av)∨(2<=(ownL m (encR m z av)).length/\z1a m (encR m z av)=18)):=by
 obtain ⟨hc,q,i,rfl,hi,hf,_,k1,k2,k3⟩:=enc_word hm h;have hw:=zud hc;have h64:encR m (q:Int) av<18446744073709551616:=Nat.lt_of_lt_of_le k2 (Nat.le_trans (z4y (by omega)) (by decide));generalize encR m (q:Int) av=x at *;have ho:z1i m x=0:=by unfold z1i;rw [if_pos hc,if_pos (by unfold endR;exact k2)]
 have hq:=zwd ho hi k1;have hidx:z5e m (q:Int)=true:=by have hl:=(List.getElem?_eq_some_iff.1 hi).1;unfold z5e;simp;exact hl
 have ha:z94 m [(q:Int)]=0:=by unfold z94;rw [if_pos hc,if_pos (by simpa using hidx)]
 have hl:z57 m (q:Int) x=0:=by unfold z57;rw [if_pos ha,if_pos (by unfold endR;exact k2)]
 refine ⟨hl,?_,ho,h64,?_⟩
 ·unfold legB;rw [if_pos hl,Int.toNat_natCast,hi];exact k1
 ·have e1:z1a m x=(match ownL m x with|[]=>12|[_]=>0|_=>18):=by unfold z1a;rw [if_pos ho];try rfl
  have e2:z1a m x=0->decZ m x=(ownL m x).headD 0:=fun q=>by unfold decZ;rw [if_pos q]
  have e3:z1a m x=0->decA m x=(match m.instrs[decZ m x]? with|some i=>z1c m x [] i.opers|none=>[]):=fun q=>by unfold decA;rw [if_pos q];try rfl
  match hLL:ownL m x,hq with
  | [y],hq=>
    rw [hLL] at e1 e2;have hy:q=y:=(by simpa using hq);subst hy;have d1:z1a m x=0:=e1;have d2:decZ m x=q:=e2 d1;refine .inl ⟨rfl,d1,by rw [d2],?_⟩;rw [e3 d1,d2,hi]
    exact k3
  | a::b::l,_=>rw [hLL] at e1;exact .inr ⟨by simp,e1⟩
theorem zi9 {m:Mach} {x:Nat} (hm:∀ i∈m.instrs,i.mtch<18446744073709551616) (h:z1a m x=0):z32 m (decZ m x:Int) (decA m x)=0/\encR m (decZ m x:Int) (decA m x)=x/\(decZ m x:Int)<=9223372036854775807:=by
 have ho:z1i m x=0:=by
  by_cases q:z1i m x=0
  ·exact q
  ·unfold z1a at h;rw [if_neg q] at h;exact absurd h q
 have e1:z1a m x=(match ownL m x with|[]=>12|[_]=>0|_=>18):=by unfold z1a;rw [if_pos ho];try rfl
 have e2:decZ m x=(ownL m x).headD 0:=by unfold decZ;rw [if_pos h]
 have e3:decA m x=(match m.instrs[decZ m x]? with|some i=>z1c m x [] i.opers|none=>[]):=by unfold decA;rw [if_pos h];try rfl
 have hmem:decZ m x∈ownL m x:=by
  match hLL:ownL m x with
  | []=>rw [hLL,h] at e1;cases e1
  | [y]=>rw [e2,hLL];simp
  | a::b::l=>rw [hLL,h] at e1;cases e1
 obtain ⟨_,hc,hlt,i,hi,hh⟩:=zlz hmem;rw [hi] at e3;replace e3:decA m x=z1c m x [] i.opers:=e3;obtain ⟨f1,f2,_⟩:=zue hc (List.mem_of_getElem? hi) (hm i (List.mem_of_getElem? hi)) (by unfold endR at hlt;exact hlt) hh;rw [<- e3] at f1 f2;have h0:=zns hc hi f1;refine ⟨h0,?_,?_⟩
 ·unfold encR;rw [if_pos h0,Int.toNat_natCast,hi];exact f2
 ·have:=(List.getElem?_eq_some_iff.1 hi).1;have:=zjz hc;omega
end Go.Proofs.YtofhpahihneipaaGreatDoor
