import Derived.Test.YtofhpahihneipaaGreatDoorPd
import Derived.Test.YtofhpahihneipaaGreatDoorQImage
import Derived.Test.YtofhpahihneipaaGreatDoorQDecode
import Derived.Test.YtofhpahihneipaaGreatDoorQSameOp
import Derived.Test.YtofhpahihneipaaGreatDoorQSameBytes
import Derived.Test.YtofhpahihneipaaGreatDoorQStepLit
import Derived.KernelRfl
set_option linter.unusedVariables false
set_option linter.unusedSimpArgs false
set_option warningAsError false
set_option maxHeartbeats 4000000
open Go.Lib (hid)
open Go.Proofs.Tryz (prog)
namespace Go.Proofs.YtofhpahihneipaaGreatDoor
open Go.RowKit Go.Instr Go.Sort
set_option maxRecDepth 1000000
def opB (m:Mach) (z:Nat) (av:List Int):Int:=match m.instrs[z]? with|some i=>if av.length=i.opers.length then z3o m av i.opers av else 2|none=>6
def encB (m:Mach) (z:Nat) (av:List Int):Nat:=match m.instrs[z]? with|some i=>z22 m i.mtch i.opers av|none=>0
def ownB (m:Mach) (x:Nat):List Nat:=plK (atP (fun s=>hasR s x) (m.instrs.map (z1p m))) m.instrs.length
def decB (m:Mach) (z x:Nat):List Int:=match m.instrs[z]? with|some i=>z1c m x [] i.opers|none=>[]
theorem zd8 {m:Mach} (hv:chkR m=0) (z:Nat) (av:List Int):z32 m z av=opB m z av:=by unfold z32 opB;rw [if_pos hv,if_pos (by omega),Int.toNat_natCast];try rfl
theorem zr7 {m:Mach} (hv:chkR m=0) {z:Nat} {av:List Int} (h:opB m z av=0):encR m z av=encB m z av:=by unfold encR encB;rw [if_pos (by rw [zd8 hv];exact h),Int.toNat_natCast];try rfl
theorem z006 {m:Mach} (hv:chkR m=0) {x z:Nat} {av:List Int} (hx:x<endR m) (h1:ownB m x=[z]) (h2:decB m z x=av):z1a m x=0/\decZ m x=z/\decA m x=av:=by
 have e0:z1i m x=0:=by unfold z1i;rw [if_pos hv,if_pos hx]
 have e1:ownL m x=[z]:=by unfold ownL;rw [if_pos e0];exact h1
 have e2:z1a m x=0:=by unfold z1a;rw [if_pos e0,e1]
 have e3:decZ m x=z:=by unfold decZ;rw [if_pos e2,e1];rfl
 refine ⟨e2,e3,?_⟩;unfold decA;rw [if_pos e2,e3];exact h2
theorem z01o:opB given0 0 [1,2,3]=0:=by kernel_rfl
theorem z01p:encB given0 0 [1,2,3]=4767744:=by kernel_rfl
theorem z01q:ownB given0 4767744=[0]:=by kernel_rfl
theorem z01r:decB given0 0 4767744=[1,2,3]:=by kernel_rfl
theorem z01s:opB given0 32 [-1]=0:=by kernel_rfl
theorem z01t:encB given0 32 [-1]=2214592511:=by kernel_rfl
theorem z01u:ownB given0 2214592511=[32]:=by kernel_rfl
theorem z01v:decB given0 32 2214592511=[-1]:=by kernel_rfl
theorem z01w:opB given1 3 [0,0,1]=0:=by kernel_rfl
theorem z01x:encB given1 3 [0,0,1]=3088:=by kernel_rfl
theorem z01y:ownB given1 3088=[3]:=by kernel_rfl
theorem z01z:decB given1 3 3088=[0,0,1]:=by kernel_rfl
theorem zav:chkR (z37 given0)=0:=zau (by kernel_rfl)
theorem z00k:opB (z37 given0) 0 [1,2,3]=0:=by kernel_rfl
theorem z020:encB (z37 given0) 0 [1,2,3]=4767744:=by kernel_rfl
theorem z021:z2r 4 [4767744]=[0,192,72,0]:=by kernel_rfl
theorem z9x (w:World) (hT:zm w) (k:Int) (m:Mach) (hG:∀ X,Calls prog 15 #[.int .i64 k] X fun e w'=>∃ x:Value,e=.returned x/\z1j w' x m/\Below X.heap.size X w') (hv:chkR m=0) (hef:∀ x∈m.instrs,∀ f∈x.effs,z4n f)
 (z:Nat) (hz:z<=1000) (sa:Value) (av:List Int) (hA:zd 1 intE w sa av) (word:Nat) (hw:word<endR m) (hw6:word<18446744073709551616) (h1:opB m z av=0) (h2:encB m z av=word) (h3:ownB m word=[z]) (h4:decB m z word=av) (hl:av.length<=1000):
 Calls prog 17 #[.int .i64 k,.agg #[.int .i64 (z:Int),sa],.int .u64 (word:Nat)] w fun e w'=>e=.returned (.bool true)/\Below w.heap.size w w':=by
 obtain ⟨Aa,ca,rfl,_⟩:=id hA;obtain ⟨la,hla⟩:∃ y,av.length=y:=⟨_,rfl⟩;rw [hla] at hA ⊢;obtain ⟨W1,hW1⟩:∃ W1,W1=w.alloc (.cells #[.int .i64 (z:Int),.slice Aa la ca] 30):=⟨_,rfl⟩;have hb1:Below w.heap.size w W1:=by rw [hW1];exact (Below.refl _ _).alloc (Nat.le_refl _) _
 have hl1:w.heap.size<W1.heap.size:=by rw [hW1];simp
 have hblk1:W1.heap[w.heap.size]? =some (.cells #[.int .i64 (z:Int),.slice Aa la ca] 30):=by rw [hW1];exact heap_alloc_new _ _
 have HQ:=hid (show ∀ X,Below W1.heap.size W1 X->X.cell? ⟨w.heap.size,0,none⟩=some (.int .i64 (z:Int))/\X.cell? ⟨w.heap.size,1,none⟩=some (.slice Aa la ca) from fun X hX=>by have e1:=(hX.block _ hl1).trans hblk1;exact ⟨zb e1 rfl,zb e1 rfl⟩)
 have HGR:=hid (show ∀ X,Below W1.heap.size W1 X->Below w.heap.size w X from fun X hX=>hb1.trans (hX.mono hb1.size));have HW1:=hid hW1;have HGI:=hid (show ∀ X,Below W1.heap.size W1 X->Calls prog 15 #[.int .i64 k] X fun e w'=>∃ x:Value,e=.returned x/\Hid (z1j w' x m)/\Below W1.heap.size W1 w' from fun X hX=>(hG X).mono fun e w' ⟨x,g1,g2,g3⟩=>⟨x,g1,hid g2,hX.trans (g3.mono hX.size)⟩);have HEN:=hid (show ∀ X x,Below W1.heap.size W1 X->z1j X x m->Calls prog 8 #[x,.agg #[.int .i64 (z:Int),.slice Aa la ca]] X fun e w'=>e=.returned (.tuple #[.int .u64 (word:Nat),.int .i64 0])/\Below W1.heap.size W1 w' from fun X x hX hm=>by have hg:=HGR.out X hX;have h:=z3k X x m hm (hT.below hg) hef (z:Int) (by omega) _ av (hA.kept (fun cs x hx=>intE.kept hx hg) hg);rw [zd8 hv,h1,zr7 hv h1,h2] at h;exact h.mono fun e w' ⟨g1,g2⟩=>⟨g1,hX.trans (g2.mono hX.size)⟩)
 obtain ⟨d1,d2,d3⟩:=z006 hv hw h3 h4;have HDE:=hid (show ∀ X x,Below W1.heap.size W1 X->z1j X x m->Calls prog 11 #[x,.int .u64 (word:Nat)] X fun e w'=>∃ A c,e=.returned (.tuple #[.agg #[.int .i64 (z:Int),.slice A la c],.int .i64 0])/\Hid (zd 1 intE w' (.slice A la c) av)/\Below W1.heap.size W1 w' from fun X x hX hm=>by have hg:=HGR.out X hX;have h:=z5q X x m hm (hT.below hg) hef word hw6;rw [d1,d2,d3] at h;refine h.mono fun e w' ⟨sv,g1,g2,g3⟩=>?_;obtain ⟨A,c,rfl,_⟩:=id g2;rw [hla] at g1 g2;exact ⟨A,c,g1,hid g2,hX.trans (g3.mono hX.size)⟩)
 have HSO:=hid (show ∀ X A c,Below W1.heap.size W1 X->zd 1 intE X (.slice A la c) av->Calls prog 12 #[.agg #[.int .i64 (z:Int),.slice A la c],.agg #[.int .i64 (z:Int),.slice Aa la ca]] X fun e w'=>e=.returned (.bool true)/\Below W1.heap.size W1 w' from fun X A c hX hr=>by have hg:=HGR.out X hX;have h:=z8l X (z:Int) (z:Int) _ _ av av hr (hA.kept (fun cs x hx=>intE.kept hx hg) hg) (by omega) (by omega);simp only [decide_true,Bool.and_true] at h;exact h.mono fun e w' ⟨g1,g2⟩=>⟨g1,hX.trans (g2.mono hX.size)⟩)
 have HB0:=hid (Below.refl W1.heap.size W1);clear hT hG hv hef hA hw hw6 h1 h2 h3 h4 hl hla hb1 hl1 hblk1 d1 d2 d3 hz hW1;go_enter Tryz.func17,Tryz.ntmps17
 go_wp2
 rw [<- HW1.out]
 first|(go_region_held3 (fun w'=>w'.cell? ⟨w.heap.size,0,none⟩=some (.int .i64 (z:Int))/\w'.cell? ⟨w.heap.size,1,none⟩=some (.slice Aa la ca))
  (first|(refine HQ.out _ ?_;(repeat (first|assumption|exact HB0.out|refine Below.drew ?_));done)|go_keep)
  (first
    | (go_at_call 15;(with_reducible refine (HGI.out _ (by first|assumption|exact HB0.out|exact HB0.out.drew)).mono ?_);rintro e w3 ⟨x3,rfl,hm3,hb3⟩)
    | (go_at_call 8;(with_reducible refine (HEN.out _ _ (by assumption) hm3.out).mono ?_);rintro e w4 ⟨rfl,hb4⟩)))
 go_wp2_with (first
  | (go_at_call 15;(with_reducible refine (HGI.out _ hb4).mono ?_);rintro e w5 ⟨x5,rfl,hm5,hb5⟩)
  | (go_at_call 11;(with_reducible refine (HDE.out _ _ hb5 hm5.out).mono ?_);rintro e w6 ⟨A6,c6,rfl,hr6,hb6⟩;have hb7:=hb6.alloc hb6.size (.cells #[.int .i64 (z:Int),.slice A6 la c6] 30);have hr7:=hid (hr6.out.kept (fun cs x hx=>intE.kept hx ((Below.refl w6.heap.size w6).alloc (Nat.le_refl _) (.cells #[.int .i64 (z:Int),.slice A6 la c6] 30))) ((Below.refl w6.heap.size w6).alloc (Nat.le_refl _) (.cells #[.int .i64 (z:Int),.slice A6 la c6] 30)));obtain ⟨q0,q1⟩:=HQ.out _ hb7)
  | (go_at_call 12;(with_reducible refine (HSO.out _ _ _ hb7 hr7.out).mono ?_);rintro e w8 ⟨rfl,hb8⟩))
 exact bodyPost_ret (v:=.bool true) (by simp [results,Tryz.results17,go_sem]) rfl ⟨rfl,HGR.out _ hb8⟩
theorem len0:given0.instrs.length<=1000:=Nat.le_of_ble_eq_true (show Nat.ble given0.instrs.length 1000=true by kernel_rfl)
theorem zcu {W:World} {k n:Nat} (l:List Int) (h:W.heap[k]? =some (.cells (iRow l).toArray 3)) (hn:l.length=n) (hm:n<=1000) (hb:∀ x∈l,-9223372036854775808<=x/\x<=9223372036854775807):zd 1 intE W (.slice (some ⟨k,0,none⟩) n n) l:=by subst hn;refine zku (base:=0) ⟨by unfold iRow;simp,.inr ⟨k,l.length,(iRow l).toArray,rfl,Nat.zero_le _,h,Nat.le_refl _,by unfold maxLen;omega,by unfold iRow;simp,by unfold iRow;simp [List.take_of_length_le]⟩⟩ (by unfold maxLen;omega) hb
theorem z00w (X:World):zd 2 opE ((X.alloc (.cells #[.int .i64 1,.int .i64 2,.int .i64 3] 3)).alloc (.cells #[.int .i64 0,.slice (some ⟨X.heap.size,0,none⟩) 3 3] 30)) (.slice (some ⟨X.heap.size+1,0,none⟩) 1 1) [((0:Int),[1,2,3])]:=by
 have hh:((X.alloc (.cells #[.int .i64 1,.int .i64 2,.int .i64 3] 3)).alloc (.cells #[.int .i64 0,.slice (some ⟨X.heap.size,0,none⟩) 3 3] 30)).heap[X.heap.size+1]? =some (.cells #[.int .i64 0,.slice (some ⟨X.heap.size,0,none⟩) 3 3] 30):=by have:=heap_alloc_new (X.alloc (.cells #[.int .i64 1,.int .i64 2,.int .i64 3] 3)) (.cells #[.int .i64 0,.slice (some ⟨X.heap.size,0,none⟩) 3 3] 30);simpa using this
 have hi:((X.alloc (.cells #[.int .i64 1,.int .i64 2,.int .i64 3] 3)).alloc (.cells #[.int .i64 0,.slice (some ⟨X.heap.size,0,none⟩) 3 3] 30)).heap[X.heap.size]? =some (.cells (iRow [1,2,3]).toArray 3):=
  (((Below.refl _ _).alloc (Nat.le_refl _) _).block _ (by simp)).trans (heap_alloc_new _ _)
 refine ⟨some ⟨X.heap.size+1,0,none⟩,1,rfl,by simp [maxLen],by simp,by simp [maxLen],fun i x hx=>?_⟩
 cases i with
 | succ i=>simp at hx
 | zero=>simp at hx;subst hx;refine ⟨X.heap.size+1,0,[.int .i64 0,.slice (some ⟨X.heap.size,0,none⟩) 3 3],rfl,by simp,rfl,fun j u hj=>?_,_,rfl,by omega,zcu [1,2,3] hi rfl (by decide) (by decide)⟩;refine zb hh ?_;simpa using hj
theorem zzz (X:World):ByAt (X.alloc (.cells #[.int .u8 0,.int .u8 192,.int .u8 72,.int .u8 0] 5)) (some ⟨X.heap.size,0,none⟩) [0,192,72,0]:=fun i x hx=>by
 refine ⟨X.heap.size,0,rfl,by simp,?_⟩;refine zb (heap_alloc_new _ _) ?_
 match i,hx with
 | 0,hx|1,hx|2,hx|3,hx=>simp at hx;subst hx;rfl
 | i+4,hx=>simp at hx
theorem zgm (X:World) (a b c:Int) (hb:∀ x∈[a,b,c],-9223372036854775808<=x/\x<=9223372036854775807):zd 1 intE (X.alloc (.cells #[.int .i64 a,.int .i64 b,.int .i64 c] 3)) (.slice (some ⟨X.heap.size,0,none⟩) 3 3) [a,b,c]:=zcu [a,b,c] (heap_alloc_new _ _) rfl (by decide) hb
theorem zsc (X:World) (a:Int) (hb:∀ x∈[a],-9223372036854775808<=x/\x<=9223372036854775807):zd 1 intE (X.alloc (.cells #[.int .i64 a] 3)) (.slice (some ⟨X.heap.size,0,none⟩) 1 1) [a]:=zcu [a] (heap_alloc_new _ _) rfl (by decide) hb
theorem z6h (w:World) (hT:zm w):Calls prog 6 #[] w fun e w'=>e=.returned (.bool true)/\Below w.heap.size w w':=by
 have HT:=hid hT;have HGI:=hid (show ∀ X,Below w.heap.size w X->Calls prog 15 #[.int .i64 0] X fun e w'=>∃ x:Value,e=.returned x/\Hid (z1j w' x given0)/\Below w.heap.size w w' from fun X hX=>(z81 X).mono fun e w' ⟨x,g1,g2,g3⟩=>⟨x,g1,hid g2,hX.trans (g3.mono hX.size)⟩);have HIM:=hid (show ∀ (X:World) (x:Value) (k:Nat),Below w.heap.size w X->z1j X x given0->zd 2 opE X (.slice (some ⟨k,0,none⟩) 1 1) [((0:Int),[1,2,3])]->Calls prog 14 #[x,.slice (some ⟨k,0,none⟩) 1 1] X fun e w'=>∃ A c,e=.returned (.tuple #[.slice A 4 c,.int .i64 0])/\Hid (ByAt w' A [0,192,72,0])/\Below w.heap.size w w' from fun X x k hX hm hr=>by
  have h0:z32 (z37 given0) ((0:Nat):Int) [1,2,3]=0:=(zd8 zav 0 [1,2,3]).trans z00k;have h1:encR (z37 given0) ((0:Nat):Int) [1,2,3]=4767744:=(zr7 zav z00k).trans z020;have h:=zsb X x given0 hm (hT.below hX) effs0 valid0 _ [((0:Int),[1,2,3])] hr (by decide) (fun y hy=>by simp at hy;subst hy;exact h0) (fun y hy=>by simp at hy;subst hy;rw [show ((0:Int),([1,2,3]:List Int)).1=((0:Nat):Int) from rfl,h1];decide) 4 (by kernel_rfl) (by decide) len0
  refine h.mono fun e w' ⟨v',B,g1,_,g2,g3⟩=>?_;have e1:z2r 4 (List.map (fun (x:POp)=>encR (z37 given0) x.1 x.2) [((0:Int),[1,2,3])])=[0,192,72,0]:=by rw [List.map_cons,List.map_nil];show z2r 4 [encR (z37 given0) ((0:Nat):Int) [1,2,3]]=_;rw [h1];exact z021
  rw [e1] at g2;obtain ⟨A,c,rfl,g4⟩:=z000 (n:=4) g2 rfl;exact ⟨A,c,g1,hid g4,hX.trans (g3.mono hX.size)⟩)
 have HSB:=hid (show ∀ (X:World) A c,Below w.heap.size w X->ByAt X A [0,192,72,0]->Calls prog 16 #[.slice A 4 c,.slice (some ⟨X.heap.size,0,none⟩) 4 4] (X.alloc (.cells #[.int .u8 0,.int .u8 192,.int .u8 72,.int .u8 0] 5)) fun e w'=>e=.returned (.bool true)/\Below w.heap.size w w' from fun X A c hX hr=>by have hb:=(Below.refl X.heap.size X).alloc (Nat.le_refl _) (.cells #[.int .u8 0,.int .u8 192,.int .u8 72,.int .u8 0] 5);have h:=zdh _ A (some ⟨X.heap.size,0,none⟩) 4 c 4 [0,192,72,0] rfl (hr.below hb) (zzz X) (by omega);exact h.mono fun e w' ⟨g1,g2⟩=>⟨g1,(hX.trans (hb.mono hX.size)).trans (g2.mono (Nat.le_trans hX.size hb.size))⟩)
 have HG1:=hid (show ∀ (X:World),Below w.heap.size w X->Calls prog 17 #[.int .i64 0,.agg #[.int .i64 0,.slice (some ⟨X.heap.size,0,none⟩) 3 3],.int .u64 4767744] (X.alloc (.cells #[.int .i64 1,.int .i64 2,.int .i64 3] 3)) fun e w'=>e=.returned (.bool true)/\Below w.heap.size w w' from fun X hX=>by
  have hb:=(Below.refl X.heap.size X).alloc (Nat.le_refl _) (.cells #[.int .i64 1,.int .i64 2,.int .i64 3] 3);have hg:=hX.trans (hb.mono hX.size);have h:=z9x _ (hT.below hg) 0 given0 z81 valid0 effs0 0 (by omega) _ [1,2,3] (zgm X 1 2 3 (by decide)) 4767744 (by first|kernel_rfl|decide +kernel) (by omega) z01o z01p z01q z01r (by decide)
  exact h.mono fun e w' ⟨g1,g2⟩=>⟨g1,hg.trans (g2.mono hg.size)⟩)
 have HG2:=hid (show ∀ (X:World),Below w.heap.size w X->Calls prog 17 #[.int .i64 0,.agg #[.int .i64 32,.slice (some ⟨X.heap.size,0,none⟩) 1 1],.int .u64 2214592511] (X.alloc (.cells #[.int .i64 (-1)] 3)) fun e w'=>e=.returned (.bool true)/\Below w.heap.size w w' from fun X hX=>by
  have hb:=(Below.refl X.heap.size X).alloc (Nat.le_refl _) (.cells #[.int .i64 (-1)] 3);have hg:=hX.trans (hb.mono hX.size);have h:=z9x _ (hT.below hg) 0 given0 z81 valid0 effs0 32 (by omega) _ [-1] (zsc X (-1) (by decide)) 2214592511 (by first|kernel_rfl|decide +kernel) (by omega) z01s z01t z01u z01v (by decide)
  exact h.mono fun e w' ⟨g1,g2⟩=>⟨g1,hg.trans (g2.mono hg.size)⟩)
 have HG3:=hid (show ∀ (X:World),Below w.heap.size w X->Calls prog 17 #[.int .i64 1,.agg #[.int .i64 3,.slice (some ⟨X.heap.size,0,none⟩) 3 3],.int .u64 3088] (X.alloc (.cells #[.int .i64 0,.int .i64 0,.int .i64 1] 3)) fun e w'=>e=.returned (.bool true)/\Below w.heap.size w w' from fun X hX=>by
  have hb:=(Below.refl X.heap.size X).alloc (Nat.le_refl _) (.cells #[.int .i64 0,.int .i64 0,.int .i64 1] 3);have hg:=hX.trans (hb.mono hX.size);have h:=z9x _ (hT.below hg) 1 given1 zny valid1 effs1 3 (by omega) _ [0,0,1] (zgm X 0 0 1 (by decide)) 3088 (by first|kernel_rfl|decide +kernel) (by omega) z01w z01x z01y z01z (by decide)
  exact h.mono fun e w' ⟨g1,g2⟩=>⟨g1,hg.trans (g2.mono hg.size)⟩)
 clear hT;go_enter Tryz.func6,Tryz.ntmps6
 go_wp2_with (first
  | (go_at_call 15;(with_reducible refine (HGI.out _ (Below.refl _ _)).mono ?_);rintro e w3 ⟨x3,rfl,hm3,hb3⟩;have hb5:=(hb3.alloc hb3.size (.cells #[.int .i64 1,.int .i64 2,.int .i64 3] 3)).alloc (Nat.le_trans hb3.size (by simp)) (.cells #[.int .i64 0,.slice (some ⟨w3.heap.size,0,none⟩) 3 3] 30);have hm5:=hid (hm3.out.kept (((Below.refl w3.heap.size w3).alloc (Nat.le_refl _) (.cells #[.int .i64 1,.int .i64 2,.int .i64 3] 3)).alloc (by simp) (.cells #[.int .i64 0,.slice (some ⟨w3.heap.size,0,none⟩) 3 3] 30))))
  | (go_at_call 14;(with_reducible refine (HIM.out _ _ _ hb5 hm5.out (z00w _)).mono ?_);rintro e w6 ⟨A6,c6,rfl,hy6,hb6⟩)
  | (go_at_call 16;(with_reducible refine (HSB.out _ _ _ hb6 hy6.out).mono ?_);rintro e w7 ⟨rfl,hb7⟩)
  | (go_at_call 17;first|((with_reducible refine (HG1.out _ hb7).mono ?_);rintro e w8 ⟨rfl,hb8⟩)|((with_reducible refine (HG2.out _ hb8).mono ?_);rintro e w9 ⟨rfl,hb9⟩)|((with_reducible refine (HG3.out _ hb9).mono ?_);rintro e w10 ⟨rfl,hb10⟩)))
 exact bodyPost_ret (v:=.bool true) (by simp [results,Tryz.results6,go_sem]) rfl ⟨rfl,hb10⟩
end Go.Proofs.YtofhpahihneipaaGreatDoor
