import Derived.Test.YtofhpahihneipaaGreatDoorGr
import Derived.Test.YtofhpahihneipaaGreatDoorGn
import Derived.Test.YtofhpahihneipaaGreatDoorGp
import Derived.Test.YtofhpahihneipaaGreatDoorGe
set_option linter.unusedVariables false
set_option linter.unusedSimpArgs false
set_option warningAsError false
set_option maxHeartbeats 4000000
open Go.Lib (hid)
open Go.Proofs.Tryz (prog)
noncomputable section
namespace Go.Proofs.YtofhpahihneipaaGreatDoor
open Go.RowKit Go.Instr
set_option maxRecDepth 100000
def z5e (m:Mach) (z:Int):Bool:=decide (0<=z/\z<(m.instrs.length:Int))
def z94 (m:Mach) (L:List Int):Int:=if chkR m=0 then (if L.all (z5e m) then 0 else 2) else chkR m
theorem z9g (w : World) (v : Value) (m : Mach) (hm : z1j w v m) (hT : zm w) (hef : ∀ x ∈ m.instrs, ∀ f ∈ x.effs, z4n f) (vs : Value) (L : List Int) (hL : zd 1 intE w vs L) (hlen : L.length <= 1000) :
 Calls prog 21 #[v, vs] w fun e w' => e = .returned (.int .i64 (z94 m L)) /\ Below w.heap.size w w' := by
 have hm' := hm;obtain ⟨cs0, rfl, sr, sb, su, si, hcs, h1, h2, h3, hR, hB, hU, hI⟩ := hm;obtain rfl : cs0 = #[.string m.name, .int .i64 m.word, .int .i64 m.address, sr, sb, su, si] := by cases cs0; simp_all
 obtain ⟨A, c, rfl, _⟩ := id hI;obtain ⟨Al, cl, rfl, _⟩ := id hL;have HL := hid hL;obtain ⟨n, hn⟩ : ∃ z, m.instrs.length = z := ⟨_, rfl⟩;obtain ⟨nl, hnl⟩ : ∃ z, L.length = z := ⟨_, rfl⟩;have HNL := hid hnl;rw [hnl] at HL hlen;have hnl4 : nl <= 9223372036854775807 := by omega
 obtain ⟨W1, hW1⟩ : ∃ W1, W1 = w.alloc (.cells #[.string m.name, .int .i64 m.word, .int .i64 m.address, sr, sb, su, .slice A n c] 27) := ⟨_, rfl⟩;have hb1 : Below w.heap.size w W1 := by rw [hW1]; exact (Below.refl _ _).alloc (Nat.le_refl _) _
 have hl1 : w.heap.size < W1.heap.size := by rw [hW1]; simp
 have hblk1 : W1.heap[w.heap.size]? = some (.cells #[.string m.name, .int .i64 m.word, .int .i64 m.address, sr, sb, su, .slice A n c] 27) := by rw [hW1]; exact heap_alloc_new _ _
 have HQ := hid (show ∀ X, Below W1.heap.size W1 X -> X.cell? ⟨w.heap.size, 6, none⟩ = some (.slice A n c) from fun X hX => zb ((hX.block _ hl1).trans hblk1) rfl);have HGR := hid (show ∀ X, Below W1.heap.size W1 X -> Below w.heap.size w X from fun X hX => hb1.trans (hX.mono hb1.size));obtain ⟨ce, hce⟩ : ∃ z, chkR m = z := ⟨_, rfl⟩;have hcc := znd m;rw [hce] at hcc;have HCK := hid ((z8b W1 (.agg #[.string m.name, .int .i64 m.word, .int .i64 m.address, sr, sb, su, .slice A n c]) m (by rw [<- hn]; exact hm'.kept hb1) (hT.below hb1) hef).mono (R' := fun e w' => e = .returned (.int .i64 ce) /\ Below W1.heap.size W1 w') fun e w' ⟨h1, h2⟩ => ⟨by rw [h1, hce], h2⟩);obtain ⟨r, hr⟩ : ∃ z, z94 m L = z := ⟨_, rfl⟩;have HR := hid hr;rw [hW1] at HCK;have HW1 := hid hW1;have HCE := hid hce;have HIM := hid (show ∀ z, z5e m z = decide (0 <= z /\ z < (n : Int)) from fun z => by unfold z5e; rw [hn]);rw [hn, hnl, hr];clear hR hB hU hI hcs hW1 hblk1 hl1 hb1 hm' hT hef hL hn hnl hr hce;have hk : ce = 0 ∨ ce ≠ 0 := by omega
 rcases hk with rfl | hne
 ·go_enter Tryz.func21, Tryz.ntmps21
  go_wp2_with (go_at_call 30; (with_reducible refine HCK.out.mono ?_); rintro e w3 ⟨rfl, hb3⟩)
  rw [<- HW1.out] at hb3;have HB3 := hid hb3;have hr0 : (if L.all (z5e m) then (0 : Int) else 2) = r := by rw [<- HR.out]; unfold z94; rw [if_pos HCE.out]
  have HS := hid (show (if (L.drop 0).all (z5e m) then (0 : Int) else 2) = r by rw [List.drop_zero]; exact hr0);clear hb3 hr0;go_loopw [15] (fun vi wr => ∃ i : Nat, vi = .int .i64 i /\ i <= nl /\ Hid (Below W1.heap.size W1 wr /\ (if (L.drop i).all (z5e m) then (0 : Int) else 2) = r)) (fun vi _ => nl - (intOf vi).toNat)
  case atStart => exact ⟨0, rfl, Nat.zero_le _, hid ⟨HB3.out, HS.out⟩⟩
  case round =>
   obtain ⟨i, rfl, hi, HJ⟩ := hrel;have q3 := HQ.out _ HJ.out.1;by_cases hlt : i < nl
   ·obtain ⟨z, hz⟩ : ∃ x, L[i]? = some x := ⟨_, List.getElem?_eq_getElem (by rw [HNL.out]; exact hlt)⟩;have hbw := HGR.out _ HJ.out.1;obtain ⟨A', c', e1, _, _, _, hall⟩ := HL.out.kept (fun cs x hx => intE.kept hx hbw) hbw;obtain ⟨b, o, cs, e2, hb, hcl, hcell, hE⟩ := hall i z hz;obtain ⟨rfl, rfl⟩ : Al = A' /\ cl = c' := by cases e1; exact ⟨rfl, rfl⟩
    subst e2;obtain ⟨rfl, _⟩ := hE;have c0 : wr.cell? ⟨b, o + i, none⟩ = some (.int .i64 z) := (by simpa using hcell 0 _ rfl);have hd : L.drop i = z :: L.drop (i + 1) := by
     rw [List.drop_eq_getElem_cons (by rw [HNL.out]; exact hlt)]
     congr 1
     exact Option.some.inj ((List.getElem?_eq_getElem _).symm.trans hz)
    have hj2 := HJ.out.2;rw [hd, List.all_cons, HIM.out] at hj2;have HJ1 := hid HJ.out.1;have HLT := hid hlt;have hin : (i : Int) < (nl : Int) := (by omega);obtain ⟨g1, hg1⟩ : ∃ g, decide (z < 0) = g := ⟨_, rfl⟩;obtain ⟨g2, hg2⟩ : ∃ g, decide (z ≥ (n : Int)) = g := ⟨_, rfl⟩;have hgg : decide (0 <= z /\ z < (n : Int)) = (!g1 && !g2) := by rw [<- hg1, <- hg2, Bool.eq_iff_iff]; simp <;> omega
    rw [hgg] at hj2;have HJ2 := hid hj2;have HG1 := hid hg1;have HG2 := hid hg2;clear hall hcell hz e1 hbw hcl hd hj2 hg1 hg2 hgg HJ
    cases g1 with
    | true =>
      obtain rfl : r = 2 := by rw [<- HJ2.out]; rfl
      have hg1 := HG1.out;have hgp : z < 0 := (by simpa using hg1);go_wp2
      go_ret
      exact ⟨rfl, HGR.out _ HJ1.out⟩
    | false =>
      have hg1 := HG1.out;have hgp : ¬ z < 0 := by simpa using hg1
      cases g2 with
      | true =>
        obtain rfl : r = 2 := by rw [<- HJ2.out]; rfl
        have hg2 := HG2.out;have hgq : (n : Int) <= z := (by simpa using hg2);go_wp2
        go_ret
        exact ⟨rfl, HGR.out _ HJ1.out⟩
      | false =>
        have hg2 := HG2.out;have hgq : ¬ (n : Int) <= z := (by simpa using hg2);go_wp2
        go_roundw
        case rel => exact ⟨i + 1, by first | rfl | go_num | (congr 1), by have := HLT.out; omega, hid ⟨HJ1.out, by rw [<- HJ2.out]; simp⟩⟩
        case measure => simp only [intOf]; have := HLT.out; omega
   ·obtain rfl : i = nl := by omega
    have hj2 := HJ.out.2;rw [List.drop_eq_nil_of_le (by rw [HNL.out]; exact Nat.le_refl _)] at hj2;have hr0 : r = 0 := (by rw [<- hj2]; rfl);have HR0 := hid hr0;have HJ1 := hid (HGR.out _ HJ.out.1);clear hr0 hj2 HJ;go_wp2
    go_ret
    exact ⟨by rw [HR0.out]; rfl, HJ1.out⟩
 ·have hr0 : r = ce := by rw [<- HR.out]; unfold z94; rw [if_neg (by rw [HCE.out]; exact hne), HCE.out]
  have HR0 := hid hr0;have g : (ce != 0) = true := by simp [hne]
  clear hr0 hcc hne;go_enter Tryz.func21, Tryz.ntmps21
  go_wp2_with (go_at_call 30; (with_reducible refine HCK.out.mono ?_); rintro e w3 ⟨rfl, hb3⟩)
  go_ret
  exact ⟨by rw [HR0.out]; rfl, HGR.out _ (by rw [HW1.out]; exact hb3.trans (Below.refl _ _))⟩
def endR (m:Mach):Nat:=2^(8*m.word).toNat
theorem zr8 (w:World) (v:Value) (m:Mach) (hm:z1j w v m) (hw:1<=m.word/\m.word<=4):
 Calls prog 22 #[v] w fun e w'=>e=.returned (.int .u64 (endR m:Nat))/\Below w.heap.size w w':=by
 obtain ⟨cs0,rfl,sr,sb,su,si,hcs,h1,h2,h3,hR,hB,hU,hI⟩:=hm;obtain rfl:cs0= #[.string m.name,.int .i64 m.word,.int .i64 m.address,sr,sb,su,si]:=by cases cs0;simp_all
 obtain ⟨n,hn,h1,h2⟩:∃ n:Nat,m.word=(n:Int)/\1<=n/\n<=4:=⟨m.word.toNat,by omega,by omega,by omega⟩;have hE:endR m=2^(8*n):=by unfold endR;rw [hn];congr 1
 rw [hE,hn];have s8:wrap64 (8*(n:Int))=((8*n:Nat):Int):=by rw [zg _ (by omega) (by omega)];simp
 obtain ⟨k,hk⟩:∃ k,8*n=k:=⟨_,rfl⟩;rw [hk] at s8 ⊢;have hk2:k<=32:=by omega
 have hp:(2:Nat)^k<=4294967296:=Nat.pow_le_pow_right (n:=2) (by omega) hk2;have hwr:IntKind.u64.wrap (2^k)=((2^k:Nat):Int):=by have:=z3h (2^k) (2^k) (Nat.mod_eq_of_lt (by omega));simpa using this
 have HP:=hid hwr;have HK:=hid hk;have hb1:Below w.heap.size w (w.alloc (.cells #[.string m.name,.int .i64 (n:Int),.int .i64 m.address,sr,sb,su,si] 27)):=(Below.refl _ _).alloc (Nat.le_refl _) _;have HB1:=hid hb1;clear hcs hR hB hU hI hE hn hk hb1 hwr;go_enter Tryz.func22,Tryz.ntmps22
 go_wp2
 exact bodyPost_ret (v:=.int .u64 ((2^k:Nat):Int)) (by simp [results,Tryz.results22,go_sem,HK.out,HP.out]) rfl ⟨rfl,HB1.out⟩
def z57 (m:Mach) (z:Int) (x:Nat):Int:=if z94 m [z]=0 then (if x<endR m then 0 else 24) else z94 m [z]
def legB (m:Mach) (z:Int) (x:Nat):Bool:=if z57 m z x=0 then (match m.instrs[z.toNat]? with|some i=>hasR (z1p m i) x|none=>false) else false
theorem zzd {w:World} {k:Nat} {a:Int} {T:Nat} (h:w.heap[k]? =some (.cells #[.int .i64 a] T)) (ha : -9223372036854775808<=a/\a<=9223372036854775807):zd 1 intE w (.slice (some ⟨k,0,none⟩) 1 1) [a]:=by
 refine ⟨some ⟨k,0,none⟩,1,rfl,by simp [maxLen],by simp,by simp [maxLen],?_⟩;intro i x hx;have hk:k<w.heap.size:=by obtain ⟨h1,_⟩:=Array.getElem?_eq_some_iff.1 h;exact h1
 match i,hx with
 | 0,hx=>
   obtain rfl:a=x:=by simpa using hx
   refine ⟨k,0,[.int .i64 a],rfl,hk,rfl,?_,rfl,ha⟩;intro j u hj
   match j,hj with
   | 0,hj=>obtain rfl:Value.int .i64 a=u:=by simpa using hj
           exact zb h rfl
   | j+1,hj=>simp at hj
 | i+1,hx=>simp at hx
theorem zme {m:Mach} (h:chkR m=0) {i:MIns} (hi:i∈m.instrs):zpx (z1p m i):=by obtain ⟨h1,h2,_,_,_,h3,_⟩:=z3d h hi;refine ⟨by show (i.opers.map _).length<=4;rw [List.length_map];exact h2,fun f hf=>?_⟩;obtain ⟨o,ho,rfl⟩:=List.mem_map.1 hf;exact h3 o ho
theorem legal_any (w : World) (v : Value) (m : Mach) (hm : z1j w v m) (hT : zm w) (hef : ∀ x ∈ m.instrs, ∀ f ∈ x.effs, z4n f) (z : Int) (hz : -9223372036854775808 <= z /\ z <= 9223372036854775807) (x : Nat) (hx : x < 18446744073709551616) :
 Calls prog 9 #[v, .int .i64 z, .int .u64 x] w fun e w' => e = .returned (.tuple #[.bool (legB m z x), .int .i64 (z57 m z x)]) /\ Below w.heap.size w w' := by
 have hm' := hm;obtain ⟨cs0, rfl, sr, sb, su, si, hcs, h1, h2, h3, hR, hB, hU, hI⟩ := hm;obtain rfl : cs0 = #[.string m.name, .int .i64 m.word, .int .i64 m.address, sr, sb, su, si] := by cases cs0; simp_all
 obtain ⟨A, c, rfl, _⟩ := id hI;obtain ⟨n, hn⟩ : ∃ z, m.instrs.length = z := ⟨_, rfl⟩;have HI := hid hI;have HN := hid hn;rw [hn] at hm' HI;rw [hn];obtain ⟨W1, hW1⟩ : ∃ W1, W1 = w.alloc (.cells #[.string m.name, .int .i64 m.word, .int .i64 m.address, sr, sb, su, .slice A n c] 27) := ⟨_, rfl⟩;have hb1 : Below w.heap.size w W1 := by rw [hW1]; exact (Below.refl _ _).alloc (Nat.le_refl _) _
 have hl1 : w.heap.size < W1.heap.size := by rw [hW1]; simp
 have hs1 : W1.heap.size = w.heap.size + 1 := by rw [hW1]; simp
 have hblk1 : W1.heap[w.heap.size]? = some (.cells #[.string m.name, .int .i64 m.word, .int .i64 m.address, sr, sb, su, .slice A n c] 27) := by rw [hW1]; exact heap_alloc_new _ _
 obtain ⟨W2, hW2⟩ : ∃ W2, W2 = W1.alloc (.cells #[.int .i64 z] 3) := ⟨_, rfl⟩;have hb2 : Below W1.heap.size W1 W2 := by rw [hW2]; exact (Below.refl _ _).alloc (Nat.le_refl _) _
 have hblk2 : W2.heap[w.heap.size + 1]? = some (.cells #[.int .i64 z] 3) := by rw [hW2, <- hs1]; exact heap_alloc_new _ _
 have hw2 : Below w.heap.size w W2 := hb1.trans (hb2.mono hb1.size);have HQ := hid (show ∀ X, Below W1.heap.size W1 X -> X.cell? ⟨w.heap.size, 0, none⟩ = some (.string m.name) /\ X.cell? ⟨w.heap.size, 1, none⟩ = some (.int .i64 m.word) /\ X.cell? ⟨w.heap.size, 2, none⟩ = some (.int .i64 m.address) /\ X.cell? ⟨w.heap.size, 3, none⟩ = some sr /\ X.cell? ⟨w.heap.size, 4, none⟩ = some sb /\ X.cell? ⟨w.heap.size, 5, none⟩ = some su /\ X.cell? ⟨w.heap.size, 6, none⟩ = some (.slice A n c) from fun X hX => by have e1 := (hX.block _ hl1).trans hblk1;exact ⟨zb e1 rfl, zb e1 rfl, zb e1 rfl, zb e1 rfl, zb e1 rfl, zb e1 rfl, zb e1 rfl⟩)
 have HGR := hid (show ∀ X, Below W1.heap.size W1 X -> Below w.heap.size w X from fun X hX => hb1.trans (hX.mono hb1.size));obtain ⟨ce, hce⟩ : ∃ y, z94 m [z] = y := ⟨_, rfl⟩;have HCI := hid ((z9g W2 (.agg #[.string m.name, .int .i64 m.word, .int .i64 m.address, sr, sb, su, .slice A n c]) m (hm'.kept hw2) (hT.below hw2) hef _ [z] (zzd hblk2 hz) (by simp)).mono (R' := fun e w' => e = .returned (.int .i64 ce) /\ Below W1.heap.size W1 w') fun e w' ⟨h1, h2⟩ => ⟨by rw [h1, hce], hb2.trans (h2.mono hb2.size)⟩);have hMV : ∀ X, Below W1.heap.size W1 X -> z1j X (.agg #[.string m.name, .int .i64 m.word, .int .i64 m.address, sr, sb, su, .slice A n c]) m := fun X hX => hm'.kept (HGR.out X hX);rw [hW2, hW1] at HCI;have HW1 := hid hW1;have HCE := hid hce;by_cases hk : ce = 0
 ·subst hk;have hc0 : chkR m = 0 /\ z5e m z = true := by
   unfold z94 at hce;by_cases h : chkR m = 0
   ·rw [if_pos h] at hce;refine ⟨h, ?_⟩
    cases hq : z5e m z with
    | true => rfl
    | false => simp [hq] at hce
   ·rw [if_neg h] at hce; exact absurd hce h
  obtain ⟨hc0, hidx⟩ := hc0;unfold z5e at hidx;simp only [decide_eq_true_eq] at hidx;rw [hn] at hidx;obtain ⟨k, rfl⟩ : ∃ k : Nat, z = (k : Int) := ⟨z.toNat, by omega⟩;have hkn : (k : Int) < (n : Int) := hidx.2;obtain ⟨i, hi⟩ : ∃ y, m.instrs[k]? = some y := ⟨_, List.getElem?_eq_getElem (by omega)⟩;have him := List.mem_of_getElem? hi;have hwd := (z3d hc0 him).1;obtain ⟨en, hen⟩ : ∃ y, endR m = y := ⟨_, rfl⟩;have HEN := hid (show ∀ X, Below W1.heap.size W1 X -> Calls prog 22 #[.agg #[.string m.name, .int .i64 m.word, .int .i64 m.address, sr, sb, su, .slice A n c]] X fun e w' => e = .returned (.int .u64 (en : Nat)) /\ Below W1.heap.size W1 w' from fun X hX => (zr8 X _ m (hMV X hX) hwd).mono fun e w' ⟨h1, h2⟩ => ⟨by rw [h1, hen], hX.trans (h2.mono hX.size)⟩);by_cases hlt : x < en
  ·have hle : z57 m (k : Int) x = 0 := by unfold z57; rw [if_pos hce, hen, if_pos hlt]
   obtain ⟨s, hs⟩ : ∃ y, z1p m i = y := ⟨_, rfl⟩;have hlb : legB m (k : Int) x = hasR s x := by unfold legB; rw [if_pos hle, Int.toNat_natCast, hi, <- hs]
   obtain ⟨A', c', e1, _, _, _, hall⟩ := HI.out;obtain ⟨b, o, cs, e2, hb, hcl, hcell, hE⟩ := hall k i hi;obtain ⟨rfl, rfl⟩ : A = A' /\ c = c' := by cases e1; exact ⟨rfl, rfl⟩
   subst e2;have hE0 := hE;obtain ⟨so, se, rfl, _⟩ := hE;have hIV : ∀ X, Below W1.heap.size W1 X -> InsV X (.agg #[.string i.name, .int .u64 (i.mask : Nat), .int .u64 (i.mtch : Nat), so, se, .int .i64 i.unit, .int .i64 i.busy, .int .i64 i.lat, .int .i64 i.slots]) i := fun X hX => ⟨_, rfl, hE0.kept (HGR.out X hX)⟩;have HS := hid (show ∀ X, Below W1.heap.size W1 X -> X.cell? ⟨w.heap.size, 0, none⟩ = some (.string m.name) /\ X.cell? ⟨w.heap.size, 1, none⟩ = some (.int .i64 m.word) /\ X.cell? ⟨w.heap.size, 2, none⟩ = some (.int .i64 m.address) /\ X.cell? ⟨w.heap.size, 3, none⟩ = some sr /\ X.cell? ⟨w.heap.size, 4, none⟩ = some sb /\ X.cell? ⟨w.heap.size, 5, none⟩ = some su /\ X.cell? ⟨w.heap.size, 6, none⟩ = some (.slice (some ⟨b, o, none⟩) n c) /\ X.cell? ⟨b, o + k * 9, none⟩ = some (.string i.name) /\ X.cell? ⟨b, o + k * 9 + 1, none⟩ = some (.int .u64 (i.mask : Nat)) /\ X.cell? ⟨b, o + k * 9 + 2, none⟩ = some (.int .u64 (i.mtch : Nat)) /\ X.cell? ⟨b, o + k * 9 + 3, none⟩ = some so /\ X.cell? ⟨b, o + k * 9 + 4, none⟩ = some se /\ X.cell? ⟨b, o + k * 9 + 5, none⟩ = some (.int .i64 i.unit) /\ X.cell? ⟨b, o + k * 9 + 6, none⟩ = some (.int .i64 i.busy) /\ X.cell? ⟨b, o + k * 9 + 7, none⟩ = some (.int .i64 i.lat) /\ X.cell? ⟨b, o + k * 9 + 8, none⟩ = some (.int .i64 i.slots) from fun X hX => by
    obtain ⟨q0, q1, q2, q3, q4, q5, q6⟩ := HQ.out X hX;have hd : ∀ j u, ([.string i.name, .int .u64 (i.mask : Nat), .int .u64 (i.mtch : Nat), so, se, .int .i64 i.unit, .int .i64 i.busy, .int .i64 i.lat, .int .i64 i.slots] : List Value)[j]? = some u -> X.cell? ⟨b, o + k * 9 + j, none⟩ = some u := fun j u hj => by rw [(HGR.out X hX).cell hb]; exact hcell j u hj
    exact ⟨q0, q1, q2, q3, q4, q5, q6, by simpa using hd 0 _ rfl, hd 1 _ rfl, hd 2 _ rfl, hd 3 _ rfl, hd 4 _ rfl, hd 5 _ rfl, hd 6 _ rfl, hd 7 _ rfl, hd 8 _ rfl⟩)
   have HSO := hid (show ∀ X, Below W1.heap.size W1 X -> Calls prog 23 #[.agg #[.string m.name, .int .i64 m.word, .int .i64 m.address, sr, sb, su, .slice (some ⟨b, o, none⟩) n c], .agg #[.string i.name, .int .u64 (i.mask : Nat), .int .u64 (i.mtch : Nat), so, se, .int .i64 i.unit, .int .i64 i.busy, .int .i64 i.lat, .int .i64 i.slots]] X fun e w' => ∃ sv, e = .returned sv /\ ShpV w' sv s /\ Below W1.heap.size W1 w' from fun X hX => (zl0 X _ _ m (hMV X hX) i (hIV X hX) (zls hc0 him)).mono fun e w' ⟨sv, h1, h2, h3⟩ => ⟨sv, h1, hs ▸ h2, hX.trans (h3.mono hX.size)⟩);have hsz : s.size = 8 * m.word := by rw [<- hs]; rfl
   have HHA := hid (show ∀ sv X, Below W1.heap.size W1 X -> ShpV X sv s -> Calls prog 24 #[sv, .int .u64 x] X fun e w' => e = .returned (.bool (hasR s x)) /\ Below W1.heap.size W1 w' from fun sv X hX hv => (zs5 X sv s hv (hs ▸ zme hc0 him) x (by rw [hsz]; unfold endR at hen; rw [hen]; exact hlt)).mono fun e w' ⟨h1, h2⟩ => ⟨h1, hX.trans (h2.mono hX.size)⟩);obtain ⟨r, hr⟩ : ∃ y, hasR s x = y := ⟨_, rfl⟩;rw [hr] at HHA;rw [hle, hlb, hr];have hng : ¬ en <= x := by omega
   have hk0 : (0 : Int) <= (k : Int) := by omega
   clear hR hB hU hI hcs hW1 hW2 hblk1 hblk2 hl1 hs1 hb1 hb2 hw2 hm' hT hef hMV hce hn hc0 hidx hi him hwd hen hlt hle hs hlb hall hcell hcl hE0 hIV hsz hr e1 hz;go_enter Tryz.func9, Tryz.ntmps9
   go_wp2_with (first
    | (go_at_call 21; (with_reducible refine HCI.out.mono ?_); rintro e w3 ⟨rfl, hb3⟩; rw [<- HW1.out] at hb3; obtain ⟨p0, p1, p2, p3, p4, p5, p6⟩ := HQ.out _ hb3)
    | (go_at_call 22; (with_reducible refine (HEN.out _ (by assumption)).mono ?_); rintro e w4 ⟨rfl, hb4⟩))
   have HB4 := hid hb4;obtain ⟨s0, s1, s2, s3, s4, s5, s6, s7, s8, s9, sa, sb1, sc, sd, se1, sf⟩ := HS.out _ hb4
   first | (go_region_held3 (fun w' => w'.cell? ⟨w.heap.size, 0, none⟩ = some (.string m.name) /\ w'.cell? ⟨w.heap.size, 1, none⟩ = some (.int .i64 m.word) /\ w'.cell? ⟨w.heap.size, 2, none⟩ = some (.int .i64 m.address) /\ w'.cell? ⟨w.heap.size, 3, none⟩ = some sr /\ w'.cell? ⟨w.heap.size, 4, none⟩ = some sb /\ w'.cell? ⟨w.heap.size, 5, none⟩ = some su /\ w'.cell? ⟨w.heap.size, 6, none⟩ = some (.slice (some ⟨b, o, none⟩) n c) /\ w'.cell? ⟨b, o + k * 9, none⟩ = some (.string i.name) /\ w'.cell? ⟨b, o + k * 9 + 1, none⟩ = some (.int .u64 (i.mask : Nat)) /\ w'.cell? ⟨b, o + k * 9 + 2, none⟩ = some (.int .u64 (i.mtch : Nat)) /\ w'.cell? ⟨b, o + k * 9 + 3, none⟩ = some so /\ w'.cell? ⟨b, o + k * 9 + 4, none⟩ = some se /\ w'.cell? ⟨b, o + k * 9 + 5, none⟩ = some (.int .i64 i.unit) /\ w'.cell? ⟨b, o + k * 9 + 6, none⟩ = some (.int .i64 i.busy) /\ w'.cell? ⟨b, o + k * 9 + 7, none⟩ = some (.int .i64 i.lat) /\ w'.cell? ⟨b, o + k * 9 + 8, none⟩ = some (.int .i64 i.slots))
    (first | (refine HS.out _ ?_; (repeat (first | assumption | exact HB4.out | refine Below.drew ?_)); done) | exact ⟨by assumption, by assumption, by assumption, by assumption, by assumption, by assumption, by assumption, by assumption, by assumption, by assumption, by assumption, by assumption, by assumption, by assumption, by assumption, by assumption⟩ | go_keep)
    (first
      | (go_at_call 23; go_loud ((with_reducible refine (HSO.out _ (by (repeat (first | assumption | exact HB4.out | refine Below.drew ?_)))).mono ?_); rintro e w5 ⟨sv, rfl, hsv, hb5⟩))
      | (go_at_call 24; go_loud ((with_reducible refine (HHA.out _ _ (by (repeat (first | assumption | refine Below.drew ?_))) (by assumption)).mono ?_); rintro e w6 ⟨rfl, hb6⟩)))) | fail "stood"
   all_goals go_wp2
   all_goals exact bodyPost_ret (v := .tuple #[.bool r, .int .i64 0]) (by simp [results, Tryz.results9, go_sem]) rfl ⟨rfl, HGR.out _ (by first | assumption | exact Below.drew (by assumption))⟩
  ·have hle : z57 m (k : Int) x = 24 := by unfold z57; rw [if_pos hce, hen, if_neg hlt]
   have hlb : legB m (k : Int) x = false := by unfold legB; rw [if_neg (by rw [hle]; decide)]
   have hng : en <= x := by omega
   rw [hle, hlb];clear hR hB hU hI hcs hW1 hW2 hblk1 hblk2 hl1 hs1 hb1 hb2 hw2 hm' hT hef hMV hce hn hc0 hidx hi him hwd hen hlt hle hlb hz;go_enter Tryz.func9, Tryz.ntmps9
   go_wp2_with (first
    | (go_at_call 21; (with_reducible refine HCI.out.mono ?_); rintro e w3 ⟨rfl, hb3⟩; rw [<- HW1.out] at hb3; obtain ⟨p0, p1, p2, p3, p4, p5, p6⟩ := HQ.out _ hb3)
    | (go_at_call 22; (with_reducible refine (HEN.out _ (by assumption)).mono ?_); rintro e w4 ⟨rfl, hb4⟩))
   exact bodyPost_ret (v := .tuple #[.bool false, .int .i64 24]) (by simp [results, Tryz.results9, go_sem]) rfl ⟨rfl, HGR.out _ hb4⟩
 ·have hle : z57 m z x = ce := by unfold z57; rw [if_neg (by rw [hce]; exact hk), hce]
  have hlb : legB m z x = false := by unfold legB; rw [if_neg (by rw [hle]; exact hk)]
  have g : (ce != 0) = true := by simp [hk]
  rw [hle, hlb];clear hR hB hU hI hcs hW1 hW2 hblk1 hblk2 hl1 hs1 hb1 hb2 hw2 hm' hT hef hMV hce hn hle hlb hz hk;go_enter Tryz.func9, Tryz.ntmps9
  go_wp2_with (go_at_call 21; (with_reducible refine HCI.out.mono ?_); rintro e w3 ⟨rfl, hb3⟩; rw [<- HW1.out] at hb3; obtain ⟨p0, p1, p2, p3, p4, p5, p6⟩ := HQ.out _ hb3)
  exact bodyPost_ret (v := .tuple #[.bool false, .int .i64 ce]) (by simp [results, Tryz.results9, go_sem]) rfl ⟨rfl, HGR.out _ hb3⟩
def shpN (B:Nat) (w0 w:World) (cs:List Value) (s:Shp):Prop:=∃ sf C,cs=[.int .i64 s.size,.int .u64 (s.mtch:Nat),.int .u64 (s.free:Nat),sf]/\(1<=s.size/\s.size<=32)/\s.mtch<18446744073709551616/\s.free<18446744073709551616/\w.ownsRow B 106 2 sf s.fields.length C.flatten/\z48 2 fldE w0 C s.fields/\s.fields.length<=4
theorem shpN.shp {B:Nat} {w0 w:World} {cs:List Value} {s:Shp} (h:shpN B w0 w cs s) (hb:Below w0.heap.size w0 w):shpE w cs s:=by obtain ⟨sf,C,h1,h2,h3,h4,h5,h6,h7⟩:=h;exact ⟨sf,h1,h2,h3,h4,zdf h5 (h6.kept fun cs x hx=>hx.kept hb) (by unfold maxLen;omega)⟩
theorem z00y {w:World} {B B' k k' n n':Nat} {e e':TypeId} {v v':Value} {xs xs':List Value} (h:w.ownsRow B e k v n xs) (h':w.ownsRow B' e' k' v' n' xs') (hne:e≠e'):v.ownBlock=none∨v.ownBlock≠v'.ownBlock:=by
 rcases h.2 with ⟨rfl,_⟩|⟨g,cap,cur,rfl,_,hg,_⟩
 ·exact .inl rfl
 ·refine .inr fun e1=>?_;rcases h'.2 with ⟨rfl,_⟩|⟨g',cap',cur',rfl,_,hg',_⟩
  ·cases e1
  ·have h2:g=g':=Option.some.inj e1;subst h2;rw [hg] at hg';injection hg' with h3;injection h3 with _ h4 _;exact hne h4
theorem shpN.below {B:Nat} {w0 w w':World} {cs:List Value} {s:Shp} (h:shpN B w0 w cs s) (hb:Below w.heap.size w w'):shpN B w0 w' cs s:=by obtain ⟨sf,C,h1,h2,h3,h4,h5,h6,h7⟩:=h;exact ⟨sf,C,h1,h2,h3,h4,z1z h5 hb,h6,h7⟩
theorem shpN.grown {B B' k n:Nat} {w0 w w':World} {cs:List Value} {s:Shp} {v:Value} {xs:List Value} (h:shpN B w0 w cs s) (ho:w.ownsRow B' 76 k v n xs) (hg:w.grownBy w' v.ownBlock):shpN B w0 w' cs s:=by obtain ⟨sf,C,h1,h2,h3,h4,h5,h6,h7⟩:=h;exact ⟨sf,C,h1,h2,h3,h4,h5.kept hg (z00y h5 ho (by decide)),h6,h7⟩
theorem zwr:(prog.info? 76).map (fun i=>(i.zero,i.size,i.bytes))=some (some (.agg #[.int .i64 0,.int .u64 0,.int .u64 0,.slice none 0 0]),4,48):=by kernel_rfl
theorem znw (W:World) (p q r s:Value) (t:TypeId):∀ B,W.heap.size=B->∀ (j:Nat) (x:Value),([p,q,r,s]:List Value)[j]? =some x->(W.alloc (.cells #[p,q,r,s] t)).cell? ((⟨B,0,none⟩:Addr).add j)=some x:=by
 rintro _ rfl j x hx
 match j,hx with
 | 0,hx=>obtain rfl:p=x:=by simpa using hx
         exact zj rfl rfl
 | 1,hx=>obtain rfl:q=x:=by simpa using hx
         exact zj rfl rfl
 | 2,hx=>obtain rfl:r=x:=by simpa using hx
         exact zj rfl rfl
 | 3,hx=>obtain rfl:s=x:=by simpa using hx
         exact zj rfl rfl
 | j+4,hx=>simp at hx
theorem zpj (w:World) (v:Value) (m:Mach) (hm:z1j w v m) (hok:∀ i∈m.instrs,zug m i) (hlen:m.instrs.length<=64):
 Calls prog 26 #[v] w fun e w'=>∃ sv,e=.returned sv/\zd 4 shpE w' sv (m.instrs.map (z1p m))/\Below w.heap.size w w':=by
 have hm':=hm;obtain ⟨cs0,rfl,sr,sb,su,si,hcs,h1,h2,h3,hR,hB,hU,hI⟩:=hm;obtain rfl:cs0= #[.string m.name,.int .i64 m.word,.int .i64 m.address,sr,sb,su,si]:=by cases cs0;simp_all
 obtain ⟨A,c,rfl,_⟩:=id hI;obtain ⟨n,hn⟩:∃ z,m.instrs.length=z:=⟨_,rfl⟩;have HI:=hid hI;have HN:=hid hn;rw [hn] at hm' HI hlen;rw [hn];have hn4:n<=9223372036854775807:=by omega
 obtain ⟨W1,hW1⟩:∃ W1,W1=w.alloc (.cells #[.string m.name,.int .i64 m.word,.int .i64 m.address,sr,sb,su,.slice A n c] 27):=⟨_,rfl⟩;have hb1:Below w.heap.size w W1:=by rw [hW1];exact (Below.refl _ _).alloc (Nat.le_refl _) _
 have hl1:w.heap.size<W1.heap.size:=by rw [hW1];simp
 have hblk1:W1.heap[w.heap.size]? =some (.cells #[.string m.name,.int .i64 m.word,.int .i64 m.address,sr,sb,su,.slice A n c] 27):=by rw [hW1];exact heap_alloc_new _ _
 have HQ:=hid (show ∀ X,Below W1.heap.size W1 X->X.cell? ⟨w.heap.size,0,none⟩=some (.string m.name)/\X.cell? ⟨w.heap.size,1,none⟩=some (.int .i64 m.word)/\X.cell? ⟨w.heap.size,2,none⟩=some (.int .i64 m.address)/\X.cell? ⟨w.heap.size,3,none⟩=some sr/\X.cell? ⟨w.heap.size,4,none⟩=some sb/\X.cell? ⟨w.heap.size,5,none⟩=some su/\X.cell? ⟨w.heap.size,6,none⟩=some (.slice A n c) from fun X hX=>by have e1:=(hX.block _ hl1).trans hblk1;exact ⟨zb e1 rfl,zb e1 rfl,zb e1 rfl,zb e1 rfl,zb e1 rfl,zb e1 rfl,zb e1 rfl⟩)
 have HGR:=hid (show ∀ X,Below W1.heap.size W1 X->Below w.heap.size w X from fun X hX=>hb1.trans (hX.mono hb1.size));have HSO:=hid (show ∀ (i:MIns) (vi:Value) X,i∈m.instrs->Below W1.heap.size W1 X->InsV w vi i->Calls prog 23 #[.agg #[.string m.name,.int .i64 m.word,.int .i64 m.address,sr,sb,su,.slice A n c],vi] X fun e w'=>∃ (sz:Int) (mt fr:Nat) (Af:Option Addr) (nf cf:Nat),e=.returned (.agg #[.int .i64 sz,.int .u64 (mt:Nat),.int .u64 (fr:Nat),.slice Af nf cf])/\shpN W1.heap.size w w' [.int .i64 sz,.int .u64 (mt:Nat),.int .u64 (fr:Nat),.slice Af nf cf] (z1p m i)/\Below X.heap.size X w' from fun i vi X hi hX hv=>(zaj w X (HGR.out X hX) _ vi m hm' i hv (hok i hi)).mono fun e w' ⟨sv,h1,h2,h3⟩=>by
  obtain ⟨sf,C,k1,k2,k3,k4,k5,k6,k7⟩:=h2;subst k1;obtain ⟨Af,nf,cf,rfl⟩:∃ A k c,sf=.slice A k c:=by
   rcases k5.2 with ⟨h,_⟩|⟨g,cap,cur,h,_⟩
   ·exact ⟨_,_,_,h⟩
   ·exact ⟨_,_,_,h⟩
  exact ⟨_,_,_,Af,nf,cf,h1,⟨_,C,rfl,k2,k3,k4,World.ownsRow.mono k5 hX.size,k6,k7⟩,h3⟩)
 obtain ⟨i0,hi0,hz0,hz1,hz2⟩:=info_parts zwr;have HI0:=hid hi0;have HZ0:=hid hz0;have HZ1:=hid hz1;have HZ2:=hid hz2;have HRF:=hid (Below.refl W1.heap.size W1);have HLN:=hid hlen;have HW1:=hid hW1;have HWS:=hid hl1;have HFIN:=hid (show ∀ X sv C,Below W1.heap.size W1 X->X.ownsRow W1.heap.size 76 4 sv n C.flatten->z48 4 (shpN W1.heap.size w) X C ((m.instrs.map (z1p m)).take n)->zd 4 shpE X sv (m.instrs.map (z1p m))/\Below w.heap.size w X from fun X sv C hX ho hC=>by
  have hl:(m.instrs.map (z1p m)).length=n:=by rw [List.length_map,hn]
  rw [<- hl,List.take_length] at hC;rw [<- hl] at ho;exact ⟨zdf ho ⟨hC.1,hC.2.1,fun i x c hx hc=>(hC.2.2 i x c hx hc).shp (HGR.out X hX)⟩ (by rw [hl];unfold maxLen;omega),HGR.out X hX⟩)
 clear hR hB hU hI hcs hW1 hblk1 hl1 hb1 hm' hn hi0 hz0 hz1 hz2 hok hlen;go_enter Tryz.func26,Tryz.ntmps26
 go_wp2
 rw [<- HW1.out];go_loopw [3,9] (fun vv vi wr=>∃ i:Nat,vi=.int .i64 i/\i<=n/\Hid (∃ C,Below W1.heap.size W1 wr/\wr.ownsRow W1.heap.size 76 4 vv i C.flatten/\z48 4 (shpN W1.heap.size w) wr C ((m.instrs.map (z1p m)).take i))) (fun _ vi _=>n-(intOf vi).toNat)
 case atStart=>exact ⟨0,rfl,Nat.zero_le _,hid ⟨[],HRF.out,World.ownsRow_nil _ _ _ _,z48.nil⟩⟩
 case round=>
  obtain ⟨j,rfl,hj,HJ⟩:=hrel;obtain ⟨C,hbw,hown,hOw⟩:=HJ.out;by_cases hlt:j<n
  ·obtain ⟨x,hx⟩:∃ z,m.instrs[j]? =some z:=⟨_,List.getElem?_eq_getElem (by rw [HN.out];exact hlt)⟩;obtain ⟨A',c',e1,_,_,_,hall⟩:=HI.out;obtain ⟨b,o,cs,e2,hb,hcl,hcell,hE⟩:=hall j x hx;obtain ⟨rfl,rfl⟩:A=A'/\c=c':=by cases e1;exact ⟨rfl,rfl⟩
   subst e2;have hE0:=hE;obtain ⟨so,se,rfl,_,_,_,hso,hse,_⟩:=hE;obtain ⟨Ao,co,rfl,_⟩:=hso;obtain ⟨Ae,ce,rfl,_⟩:=hse;obtain ⟨no,hno⟩:∃ z,x.opers.length=z:=⟨_,rfl⟩;obtain ⟨ne,hne⟩:∃ z,x.effs.length=z:=⟨_,rfl⟩;rw [hno,hne] at hcell hE0;have hbw0:=HGR.out _ hbw;have hd:∀ k u,([.string x.name,.int .u64 (x.mask:Nat),.int .u64 (x.mtch:Nat),.slice Ao no co,.slice Ae ne ce,.int .i64 x.unit,.int .i64 x.busy,.int .i64 x.lat,.int .i64 x.slots]:List Value)[k]? =some u->wr.cell? ⟨b,o+j*9+k,none⟩=some u:=fun k u hk=>by rw [hbw0.cell hb];exact hcell k u hk
   have p0:wr.cell? ⟨b,o+j*9,none⟩=some (.string x.name):=by simpa using hd 0 _ rfl
   have p1:=hd 1 _ rfl;have p2:=hd 2 _ rfl;have p3:=hd 3 _ rfl;have p4:=hd 4 _ rfl;have p5:=hd 5 _ rfl;have p6:=hd 6 _ rfl;have p7:=hd 7 _ rfl;have p8:=hd 8 _ rfl;obtain ⟨W5,hW5⟩:∃ z,z=wr.alloc (.cells #[.string x.name,.int .u64 (x.mask:Nat),.int .u64 (x.mtch:Nat),.slice Ao no co,.slice Ae ne ce,.int .i64 x.unit,.int .i64 x.busy,.int .i64 x.lat,.int .i64 x.slots] 60):=⟨_,rfl⟩;have hb5:Below wr.heap.size wr W5:=by rw [hW5];exact (Below.refl _ _).alloc (Nat.le_refl _) _
   have hbw5:Below W1.heap.size W1 W5:=hbw.trans (hb5.mono hbw.size);have hblk5:W5.heap[wr.heap.size]? =some (.cells #[.string x.name,.int .u64 (x.mask:Nat),.int .u64 (x.mtch:Nat),.slice Ao no co,.slice Ae ne ce,.int .i64 x.unit,.int .i64 x.busy,.int .i64 x.lat,.int .i64 x.slots] 60):=by rw [hW5];exact heap_alloc_new _ _
   obtain ⟨q0,q1,q2,q3,q4,q5,q6⟩:=HQ.out _ hbw5;have r0:=zb hblk5 (i:=0) rfl;have r1:=zb hblk5 (i:=1) rfl;have r2:=zb hblk5 (i:=2) rfl;have r3:=zb hblk5 (i:=3) rfl;have r4:=zb hblk5 (i:=4) rfl;have r5:=zb hblk5 (i:=5) rfl;have r6:=zb hblk5 (i:=6) rfl;have r7:=zb hblk5 (i:=7) rfl;have r8:=zb hblk5 (i:=8) rfl;have HCA:=hid (HSO.out x (.agg #[.string x.name,.int .u64 (x.mask:Nat),.int .u64 (x.mtch:Nat),.slice Ao no co,.slice Ae ne ce,.int .i64 x.unit,.int .i64 x.busy,.int .i64 x.lat,.int .i64 x.slots]) W5 (List.mem_of_getElem? hx) hbw5 ⟨_,rfl,hE0⟩);have HNEXT:=hid (show ∀ vx w6 cells v' w7,wr.ownsRow W1.heap.size 76 4 vx j C.flatten->cells.length=4->Below W5.heap.size W5 w6->shpN W1.heap.size w w6 cells (z1p m x)->w7.ownsRow W1.heap.size 76 4 v' (j+1) (C.flatten++cells)->∀ o,(w6.alloc o).grownBy w7 vx.ownBlock->∃ C,Below W1.heap.size W1 w7/\w7.ownsRow W1.heap.size 76 4 v' (j+1) C.flatten/\z48 4 (shpN W1.heap.size w) w7 C ((m.instrs.map (z1p m)).take (j+1)) from fun vx w6 cells v' w7 hown hc4 h6 hN ho o hg=>by
    have hown6:=z1z (z1z (z1z hown hb5) h6) ((Below.refl w6.heap.size w6).alloc (Nat.le_refl _) o);have h56:=hbw5.trans (h6.mono hbw5.size);refine ⟨C++[cells],?_,by rw [List.flatten_append];simpa using ho,?_⟩
    ·exact (h56.alloc h56.size o).grown hg (by have:=h56.size;simp;omega) (fun r hr=>(hown6.lt r hr).1)
    ·have ht:(m.instrs.map (z1p m)).take (j+1)=(m.instrs.map (z1p m)).take j++[z1p m x]:=by
      rw [List.take_add_one,List.getElem?_map,hx];rfl
     rw [ht];have h7:Below wr.heap.size wr (w6.alloc o):=(hb5.trans (h6.mono hb5.size)).trans (((Below.refl w6.heap.size w6).alloc (Nat.le_refl _) o).mono (by have:=hb5.size;have:=h6.size;omega));refine (hOw.kept fun cs y hy=>(hy.below h7).grown hown6 hg).snoc hc4 ?_;exact (hN.below ((Below.refl w6.heap.size w6).alloc (Nat.le_refl _) o)).grown hown6 hg)
   rw [hW5] at HCA q0 q1 q2 q3 q4 q5 q6 r0 r1 r2 r3 r4 r5 r6 r7 r8;have HW5:=hid hW5;have HB5:=hid hb5;have HBW5:=hid hbw5;have HOWN:=hid hown;have HLT:=hid hlt;have hin:(j:Int)<(n:Int):=by omega
   clear hall hcell hd hcl e1 hbw hown hOw HJ hx hE0 hno hne hbw0 hW5 hb5 hbw5 hblk5
   go_wp2_with (first
    | (go_at_call 23;(with_reducible refine HCA.out.mono ?_);rintro e w6 ⟨sz,mt,fr,Af,nf,cf,rfl,hN6,hb6⟩;rw [<- HW5.out] at hb6)
    | (at_builtin;refine Hid.out ?_))
   refine hid ?_;refine wpList_append_own _ rfl _ _ 80 rfl W1.heap.size 76 i0 (.agg #[.int .i64 0,.int .u64 0,.int .u64 0,.slice none 0 0]) 4 48 Tryz.underlying80 HI0.out HZ0.out HZ1.out HZ2.out rfl (by decide) _ j C.flatten rfl (World.ownsRow.alloc (z1z (z1z HOWN.out HB5.out) hb6) _) ⟨_,0,none⟩ 1 1 [.int .i64 sz,.int .u64 (mt:Nat),.int .u64 (fr:Nat),.slice Af nf cf] rfl rfl (znw _ _ _ _ _ _ _ rfl) (by intro u hu;simp at hu;rcases hu with rfl|rfl|rfl|rfl<;>rfl) (by have:=HLN.out;have:=HLT.out;unfold maxLen;omega) (by have:=HLN.out;have:=HLT.out;omega) (by have:=HBW5.out.size;have:=hb6.size;simp;omega) ?_;intro v' w9 hown' hgrow _;have HNX:=hid (HNEXT.out _ w6 _ v' w9 HOWN.out rfl hb6 hN6 hown' _ hgrow);clear hown' hgrow hN6 hb6;go_wp2
   go_roundw
   case rel=>exact ⟨j+1,by first|rfl|go_num|(congr 1),by have:=HLT.out;omega,HNX⟩
   case measure=>simp only [intOf];have:=HLT.out;omega
  ·obtain rfl:j=n:=by omega
   have HF:=hid (HFIN.out _ _ _ hbw hown hOw);clear HJ hown hOw hbw;go_wp2
   go_ret
   exact ⟨_,rfl,HF.out⟩
theorem zzj {w:World} {cs:List Value} {s:Shp} (h:shpE w cs s):ShpV w (.agg cs.toArray) s:=by obtain ⟨sf,h1,h2⟩:=h;subst h1;exact ⟨sf,rfl,h2⟩
theorem zkk (W:World) (b:Nat) (x:Nat) (hb:b<W.heap.size) (hc:W.cell? ⟨b,0,none⟩=some (.int .u64 (x:Nat))) (s:Shp) (cs:List Value) (hE:shpE W cs s) (hok:zpx s) (hx:x<2^s.size.toNat):
 Calls prog 27 (#[.agg cs.toArray]++ #[.pointer (some ⟨b,0,none⟩)]) W fun e w'=>e=.returned (.bool (hasR s x))/\Below W.heap.size W w':=by
 have hE0:=hE;obtain ⟨sf,rfl,_⟩:=hE;have hb1:Below W.heap.size W (W.alloc (.cells #[.int .i64 s.size,.int .u64 (s.mtch:Nat),.int .u64 (s.free:Nat),sf] 76)):=(Below.refl _ _).alloc (Nat.le_refl _) _;have hc1:(W.alloc (.cells #[.int .i64 s.size,.int .u64 (s.mtch:Nat),.int .u64 (s.free:Nat),sf] 76)).cell? ⟨b,0,none⟩=some (.int .u64 (x:Nat)):=by rw [hb1.cell hb];exact hc
 have HH:=hid ((zs5 (W.alloc (.cells #[.int .i64 s.size,.int .u64 (s.mtch:Nat),.int .u64 (s.free:Nat),sf] 76)) _ s (zzj (hE0.kept hb1)) hok x hx).mono (R':=fun e w'=>e=.returned (.bool (hasR s x))/\Below W.heap.size W w') fun e w' ⟨h1,h2⟩=>⟨h1,hb1.trans (h2.mono hb1.size)⟩);obtain ⟨r,hr⟩:∃ z,hasR s x=z:=⟨_,rfl⟩;rw [hr] at HH ⊢;clear hE0 hb1 hok hx hr hc;show Calls prog 27 #[.agg #[.int .i64 s.size,.int .u64 (s.mtch:Nat),.int .u64 (s.free:Nat),sf],.pointer (some ⟨b,0,none⟩)] W _;go_enter Tryz.func27,Tryz.ntmps27
 go_wp2_with (go_at_call 24;(with_reducible refine HH.out.mono ?_);rintro e w3 ⟨rfl,hb3⟩)
 exact bodyPost_ret (v:=.bool r) (by simp [results,Tryz.results27,go_sem]) rfl ⟨rfl,hb3⟩
theorem zh9 {w:World} {b x:Nat} (hb:b<w.heap.size) (hc:w.cell? ⟨b,0,none⟩=some (.int .u64 (x:Nat))) {L:List Shp} (hL:∀ s∈L,zpx s/\x<2^s.size.toNat):Says shpE w 27 #[.pointer (some ⟨b,0,none⟩)] (fun s=>hasR s x) L:=
 fun W hW s hs cs hE=>zkk W b x (Nat.lt_of_lt_of_le hb hW.size) (by rw [hW.cell hb];exact hc) s cs hE (hL s hs).1 (hL s hs).2
theorem znp:∀ (args:Array Value) (w:World),(callFunc 27 args).run prog w=.ok (.enter 27 args) w:=fun _ _=>by kernel_rfl
def plK (p:Nat->Bool) (k:Nat):List Nat:=(List.range k).filter p
theorem zwe (p:Nat->Bool) (k:Nat):plK p (k+1)=plK p k++(if p k then [k] else []):=by
 unfold plK;rw [List.range_succ,List.filter_append]
 congr 1
 cases h:p k<;>simp [h]
theorem zxn (p:Nat->Bool) (k:Nat):(plK p k).length<=k:=by unfold plK;exact Nat.le_trans (List.length_filter_le _ _) (by simp)
theorem z00z (p:Nat->Bool) (k x:Nat) (h:x∈plK p k):x<k:=by unfold plK at h;simp at h;exact h.1
def atP (p:Shp->Bool) (L:List Shp) (i:Nat):Bool:=match L[i]? with|some s=>p s|none=>false
theorem zp9 (v:Value) (L:List Shp) (w:World) (hR:zd 4 shpE w v L) (g:Nat) (lb:Array Value) (eg:∀ args w,(callFunc g args).run prog w=.ok (.enter g args) w) (p:Shp->Bool) (hp:Says shpE w g lb p L) (hlen:L.length<=64):
 Calls prog 25 #[v,.func (.func g) #[] lb] w fun e w'=>∃ sv,e=.returned sv/\zd 1 intE w' sv ((plK (atP p L) L.length).map fun (z:Nat)=>(z:Int))/\Below w.heap.size w w':=by
 have HR:=hid hR;have HP:=hid hp;obtain ⟨A,c,rfl,hn1,_,_,_⟩:=hR;obtain ⟨n,hn⟩:∃ n,L.length=n:=⟨_,rfl⟩;have HN:=hid hn;rw [hn] at hn1 HR hlen ⊢;have hn4:n<=9223372036854775807:=by omega
 obtain ⟨i0,hi0,hz0,hz1,hz2⟩:=info_parts zlt;have HI0:=hid hi0;have HZ0:=hid hz0;have HZ1:=hid hz1;have HZ2:=hid hz2;have HRF:=hid (Below.refl w.heap.size w);have HLEN:=hid hlen;obtain ⟨pn,hpn⟩:∃ z,z=atP p L:=⟨_,rfl⟩;have HPN:=hid hpn;rw [<- hpn];have HFIN:=hid (show ∀ (X:World) (sv:Value),Below w.heap.size w X->X.ownsRow w.heap.size 3 1 sv (plK pn n).length (z7b (plK pn n))->zd 1 intE X sv ((plK pn n).map fun (z:Nat)=>(z:Int))/\Below w.heap.size w X from fun X sv hX ho=>by refine ⟨?_,hX⟩;have h9:=zxn pn n;exact zkv ho (by unfold maxLen;omega) (fun x hx=>by have:=z00z _ _ x hx;omega))
 clear hp hn1 hn hi0 hz0 hz1 hz2 hpn hlen;go_enter Tryz.func25,Tryz.ntmps25
 go_wp2
 go_loopw [5,10] (fun vv vi wr=>∃ i:Nat,vi=.int .i64 i/\i<=n/\Hid (Below w.heap.size w wr/\wr.ownsRow w.heap.size 3 1 vv (plK pn i).length (z7b (plK pn i)))) (fun _ vi _=>n-(intOf vi).toNat)
 case atStart=>exact ⟨0,rfl,Nat.zero_le _,hid ⟨HRF.out,World.ownsRow_nil _ _ _ _⟩⟩
 case round=>
  obtain ⟨i,rfl,hi,HJ⟩:=hrel;by_cases hlt:i<n
  ·obtain ⟨s,hs⟩:∃ z,L[i]? =some z:=⟨_,List.getElem?_eq_getElem (by rw [HN.out];exact hlt)⟩;have hbw:=HJ.out.1;obtain ⟨A',c',e1,_,_,_,hall⟩:=HR.out.kept (fun cs x hx=>shpE.kept hx hbw) hbw;obtain ⟨b,o,cs,e2,hb,hcl,hcell,hE⟩:=hall i s hs;obtain ⟨rfl,rfl⟩:A=A'/\c=c':=by cases e1;exact ⟨rfl,rfl⟩
   subst e2;have hE0:=hE;obtain ⟨sf,rfl,_,_,_,hsf⟩:=hE;obtain ⟨Af,cf,rfl,_⟩:=hsf;obtain ⟨nf,hnf⟩:∃ z,s.fields.length=z:=⟨_,rfl⟩;rw [hnf] at hcell hE0;have p0:wr.cell? ⟨b,o+i*4,none⟩=some (.int .i64 s.size):=by simpa using hcell 0 _ rfl
   have p1:wr.cell? ⟨b,o+i*4+1,none⟩=some (.int .u64 (s.mtch:Nat)):=hcell 1 _ rfl;have p2:wr.cell? ⟨b,o+i*4+2,none⟩=some (.int .u64 (s.free:Nat)):=hcell 2 _ rfl;have p3:wr.cell? ⟨b,o+i*4+3,none⟩=some (.slice Af nf cf):=hcell 3 _ rfl;obtain ⟨W5,hW5⟩:∃ z,z=wr.alloc (.cells #[.int .i64 s.size,.int .u64 (s.mtch:Nat),.int .u64 (s.free:Nat),.slice Af nf cf] 76):=⟨_,rfl⟩;have hba:Below wr.heap.size wr W5:=by rw [hW5];exact (Below.refl _ _).alloc (Nat.le_refl _) _
   have hblk5:W5.heap[wr.heap.size]? =some (.cells #[.int .i64 s.size,.int .u64 (s.mtch:Nat),.int .u64 (s.free:Nat),.slice Af nf cf] 76):=by rw [hW5];exact heap_alloc_new _ _
   have r0:=zb hblk5 (i:=0) rfl;have r1:=zb hblk5 (i:=1) rfl;have r2:=zb hblk5 (i:=2) rfl;have r3:=zb hblk5 (i:=3) rfl;have hbw5:Below w.heap.size w W5:=hbw.trans (hba.mono hbw.size);have hcall:Calls prog g (#[.agg #[.int .i64 s.size,.int .u64 (s.mtch:Nat),.int .u64 (s.free:Nat),.slice Af nf cf]]++lb) W5 fun e w'=>e=.returned (.bool (p s))/\Below wr.heap.size wr w'/\Below w.heap.size w w':=(HP.out W5 hbw5 s (List.mem_of_getElem? hs) _ (hE0.kept hba)).mono fun e w' ⟨h1,h2⟩=>⟨h1,hba.trans (h2.mono hba.size),hbw5.trans (h2.mono hbw5.size)⟩;have hsu:=zwe pn i;have hat:pn i=p s:=by rw [HPN.out];unfold atP;rw [hs]
   rw [hat] at hsu;have HLT:=hid hlt;have HLE:=hid (zxn pn i);have HSW:=hid (HJ.out.1.size);have hin:(i:Int)<(n:Int):=by omega
   have HOWN:=hid HJ.out.2;obtain ⟨q,hq⟩:∃ q,p s=q:=⟨_,rfl⟩;rw [hq] at hcall hsu;have HSU:=hid hsu;rw [hW5] at hcall r0 r1 r2 r3;have HCL:=hid hcall;clear hall hcell hs e1 hbw hcl hba hat hq hE0 HJ hW5 hblk5 hbw5 hcall hsu hnf
   cases q with
   | false=>
     go_wp2_with ((with_reducible refine HCL.out.mono ?_);rintro e w5 ⟨rfl,hb5,hc5⟩)
     go_roundw
     case rel=>exact ⟨i+1,by first|rfl|go_num|(congr 1),by have:=HLT.out;omega,hid ⟨hc5,by rw [HSU.out];simp only [Bool.false_eq_true,if_false,List.append_nil];exact z1z HOWN.out hb5⟩⟩
     case measure=>simp only [intOf];have:=HLT.out;omega
   | true=>
     go_wp2_with (first
      | (at_builtin;refine Hid.out ?_)
      | ((with_reducible refine HCL.out.mono ?_);rintro e w5 ⟨rfl,hb5,hc5⟩))
     refine hid ?_;refine wpList_append_own _ rfl _ _ 28 rfl w.heap.size 3 i0 (.int .i64 0) 1 8 Tryz.underlying28 HI0.out HZ0.out HZ1.out HZ2.out rfl (by decide) _ (plK pn i).length (z7b (plK pn i)) rfl ((z1z HOWN.out hb5).alloc _) ⟨_,0,none⟩ 1 1 [.int .i64 i] rfl rfl (z4i _ _ _ _ rfl) (by intro u hu;simp at hu;subst hu;rfl) (by have:=HLE.out;have:=HLT.out;have:=HLEN.out;unfold maxLen;omega) (by have:=HLE.out;have:=HLT.out;have:=HLEN.out;omega) (by have:=hc5.size;simp;omega) ?_;intro v' w6 hown' hgrow _;have hb6:Below w.heap.size w w6:=by
      have h1:=hc5.alloc hc5.size (.cells #[.int .i64 (i:Int)] 3);exact h1.grown hgrow (by have:=hc5.size;simp;omega) (fun r hr=>by have:=HOWN.out.lt r hr;omega)
     have HO6:=hid (show w6.ownsRow w.heap.size 3 1 v' (plK pn (i+1)).length (z7b (plK pn (i+1))) by rw [HSU.out];simp only [if_true];rw [zk8,List.length_append];exact hown')
     have HB6:=hid hb6;clear hown' hgrow hb6;go_wp2
     go_roundw
     case rel=>exact ⟨i+1,by first|rfl|go_num|(congr 1),by have:=HLT.out;omega,hid ⟨HB6.out,HO6.out⟩⟩
     case measure=>simp only [intOf];have:=HLT.out;omega
  ·obtain rfl:i=n:=by omega
   have HF:=hid (HFIN.out _ _ HJ.out.1 HJ.out.2);clear HJ;go_wp2
   go_ret
   exact ⟨_,rfl,HF.out⟩
def z1i (m:Mach) (x:Nat):Int:=if chkR m=0 then (if x<endR m then 0 else 24) else chkR m
def ownL (m:Mach) (x:Nat):List Nat:=if z1i m x=0 then plK (atP (fun s=>hasR s x) (m.instrs.map (z1p m))) m.instrs.length else []
theorem z50 {α:Type} {k:Nat} {E:World->List Value->α->Prop} {w:World}:zd k E w (.slice none 0 0) ([]:List α):=⟨none,0,rfl,by simp,by simp,by simp,fun i x hx=>by simp at hx⟩
theorem zud {m:Mach} (h:chkR m=0):1<=m.word/\m.word<=4:=by have hh:=(z30 h).2.1;unfold z63 at hh;simp only [Bool.and_eq_true,decide_eq_true_eq] at hh;exact hh.2.1
theorem zjz {m:Mach} (h:chkR m=0):m.instrs.length<=64:=(z3l (z30 h).1).2.2.2.2.1
theorem zq0 (m:Mach):z94 m []=chkR m:=by
 unfold z94;by_cases h:chkR m=0
 ·rw [if_pos h,h];rfl
 ·rw [if_neg h]
theorem z8i (w : World) (v : Value) (m : Mach) (hm : z1j w v m) (hT : zm w) (hef : ∀ x ∈ m.instrs, ∀ f ∈ x.effs, z4n f) (x : Nat) (hx : x < 18446744073709551616) :
 Calls prog 10 #[v, .int .u64 x] w fun e w' => ∃ sv, e = .returned (.tuple #[sv, .int .i64 (z1i m x)]) /\ zd 1 intE w' sv ((ownL m x).map fun (z : Nat) => (z : Int)) /\ Below w.heap.size w w' := by
 have hm' := hm;obtain ⟨cs0, rfl, sr, sb, su, si, hcs, h1, h2, h3, hR, hB, hU, hI⟩ := hm;obtain rfl : cs0 = #[.string m.name, .int .i64 m.word, .int .i64 m.address, sr, sb, su, si] := by cases cs0; simp_all
 obtain ⟨W0, hW0⟩ : ∃ W1, W1 = w.alloc (.cells #[.string m.name, .int .i64 m.word, .int .i64 m.address, sr, sb, su, si] 27) := ⟨_, rfl⟩;have hb0 : Below w.heap.size w W0 := by rw [hW0]; exact (Below.refl _ _).alloc (Nat.le_refl _) _
 have hl0 : w.heap.size < W0.heap.size := by rw [hW0]; simp
 have hs0 : W0.heap.size = w.heap.size + 1 := by rw [hW0]; simp
 have hblk0 : W0.heap[w.heap.size]? = some (.cells #[.string m.name, .int .i64 m.word, .int .i64 m.address, sr, sb, su, si] 27) := by rw [hW0]; exact heap_alloc_new _ _
 obtain ⟨W1, hW1⟩ : ∃ W1, W1 = W0.alloc (.cells #[.int .u64 (x : Nat)] 31) := ⟨_, rfl⟩;have hb01 : Below W0.heap.size W0 W1 := by rw [hW1]; exact (Below.refl _ _).alloc (Nat.le_refl _) _
 have hs1 : W1.heap.size = w.heap.size + 2 := by rw [hW1]; simp [hs0]
 have hb1 : Below w.heap.size w W1 := hb0.trans (hb01.mono hb0.size);have hblk1 : W1.heap[w.heap.size + 1]? = some (.cells #[.int .u64 (x : Nat)] 31) := by rw [hW1, <- hs0]; exact heap_alloc_new _ _
 have hblkm : W1.heap[w.heap.size]? = some (.cells #[.string m.name, .int .i64 m.word, .int .i64 m.address, sr, sb, su, si] 27) := (hb01.block _ hl0).trans hblk0;have HQ := hid (show ∀ X, Below W1.heap.size W1 X -> X.cell? ⟨w.heap.size, 0, none⟩ = some (.string m.name) /\ X.cell? ⟨w.heap.size, 1, none⟩ = some (.int .i64 m.word) /\ X.cell? ⟨w.heap.size, 2, none⟩ = some (.int .i64 m.address) /\ X.cell? ⟨w.heap.size, 3, none⟩ = some sr /\ X.cell? ⟨w.heap.size, 4, none⟩ = some sb /\ X.cell? ⟨w.heap.size, 5, none⟩ = some su /\ X.cell? ⟨w.heap.size, 6, none⟩ = some si /\ X.cell? ⟨w.heap.size + 1, 0, none⟩ = some (.int .u64 (x : Nat)) from fun X hX => by have e1 := (hX.block _ (by omega)).trans hblkm;have e2 := (hX.block _ (by omega)).trans hblk1;exact ⟨zb e1 rfl, zb e1 rfl, zb e1 rfl, zb e1 rfl, zb e1 rfl, zb e1 rfl, zb e1 rfl, zb e2 rfl⟩)
 have HGR := hid (show ∀ X, Below W1.heap.size W1 X -> Below w.heap.size w X from fun X hX => hb1.trans (hX.mono hb1.size));obtain ⟨ce, hce⟩ : ∃ y, chkR m = y := ⟨_, rfl⟩;have hMV : ∀ X, Below W1.heap.size W1 X -> z1j X (.agg #[.string m.name, .int .i64 m.word, .int .i64 m.address, sr, sb, su, si]) m := fun X hX => hm'.kept (HGR.out X hX);have HCI := hid ((z9g W1 (.agg #[.string m.name, .int .i64 m.word, .int .i64 m.address, sr, sb, su, si]) m (hMV _ (Below.refl _ _)) (hT.below hb1) hef (.slice none 0 0) [] z50 (by simp)).mono (R' := fun e w' => e = .returned (.int .i64 ce) /\ Below W1.heap.size W1 w') fun e w' ⟨h1, h2⟩ => ⟨by rw [h1, zq0, hce], h2⟩);rw [hW1, hW0] at HCI;have HW1 := hid (show W1 = (w.alloc (.cells #[.string m.name, .int .i64 m.word, .int .i64 m.address, sr, sb, su, si] 27)).alloc (.cells #[.int .u64 (x : Nat)] 31) by rw [hW1, hW0]);have HS1 := hid hs1;by_cases hk : ce = 0
 ·subst hk;have hwd := zud hce;obtain ⟨en, hen⟩ : ∃ y, endR m = y := ⟨_, rfl⟩;have HEN := hid (show ∀ X, Below W1.heap.size W1 X -> Calls prog 22 #[.agg #[.string m.name, .int .i64 m.word, .int .i64 m.address, sr, sb, su, si]] X fun e w' => e = .returned (.int .u64 (en : Nat)) /\ Below W1.heap.size W1 w' from fun X hX => (zr8 X _ m (hMV X hX) hwd).mono fun e w' ⟨h1, h2⟩ => ⟨by rw [h1, hen], hX.trans (h2.mono hX.size)⟩);obtain ⟨L, hL⟩ : ∃ y, m.instrs.map (z1p m) = y := ⟨_, rfl⟩;have hLS : ∀ s ∈ L, zpx s /\ s.size = 8 * m.word := fun s hs => by
   rw [<- hL] at hs;obtain ⟨i, hi, rfl⟩ := List.mem_map.1 hs;exact ⟨zme hce hi, rfl⟩
  have hLl : L.length = m.instrs.length := by rw [<- hL, List.length_map]
  have hl64 : L.length <= 64 := by rw [hLl]; exact zjz hce
  have HSH := hid (show ∀ X, Below W1.heap.size W1 X -> Calls prog 26 #[.agg #[.string m.name, .int .i64 m.word, .int .i64 m.address, sr, sb, su, si]] X fun e w' => ∃ sv, e = .returned sv /\ zd 4 shpE w' sv L /\ Below W1.heap.size W1 w' from fun X hX => (zpj X _ m (hMV X hX) (fun i hi => zls hce hi) (zjz hce)).mono fun e w' ⟨sv, h1, h2, h3⟩ => ⟨sv, h1, hL ▸ h2, hX.trans (h3.mono hX.size)⟩);by_cases hlt : x < en
  ·have hoe : z1i m x = 0 := by unfold z1i; rw [if_pos hce, hen, if_pos hlt]
   have hol : ownL m x = plK (atP (fun s => hasR s x) L) L.length := by unfold ownL; rw [if_pos hoe, hL, hLl]
   have HPL := hid (show ∀ sv X, Below W1.heap.size W1 X -> zd 4 shpE X sv L -> Calls prog 25 #[sv, .func (.func 27) #[] #[.pointer (some ⟨w.heap.size + 1, 0, none⟩)]] X fun e w' => ∃ sv, e = .returned sv /\ zd 1 intE w' sv ((ownL m x).map fun (z : Nat) => (z : Int)) /\ Below w.heap.size w w' from fun sv X hX hr => (zp9 sv L X hr _ _ znp (fun s => hasR s x) (zh9 (by have := hX.size; omega) (HQ.out X hX).2.2.2.2.2.2.2 fun s hs => ⟨(hLS s hs).1, by rw [(hLS s hs).2]; unfold endR at hen; rw [hen]; exact hlt⟩) hl64).mono fun e w' ⟨sv2, h1, h2, h3⟩ => ⟨sv2, h1, by rw [hol]; exact h2, (HGR.out X hX).trans (h3.mono (HGR.out X hX).size)⟩);have hng : ¬ en <= x := by omega
   rw [hoe];clear hR hB hU hI hcs hW1 hW0 hblk1 hblk0 hblkm hl0 hs0 hs1 hb0 hb01 hb1 hm' hT hef hMV hce hwd hen hL hLS hLl hl64 hlt hoe hol h1 h2 h3 hx;go_enter Tryz.func10, Tryz.ntmps10
   go_wp2_with (go_at_call 21; (with_reducible refine HCI.out.mono ?_); rintro e w3 ⟨rfl, hb3⟩; rw [<- HW1.out] at hb3; obtain ⟨p0, p1, p2, p3, p4, p5, p6, p7⟩ := HQ.out _ hb3)
   have HB3 := hid hb3
   first | (go_region_held3 (fun w' => w'.cell? ⟨w.heap.size, 0, none⟩ = some (.string m.name) /\ w'.cell? ⟨w.heap.size, 1, none⟩ = some (.int .i64 m.word) /\ w'.cell? ⟨w.heap.size, 2, none⟩ = some (.int .i64 m.address) /\ w'.cell? ⟨w.heap.size, 3, none⟩ = some sr /\ w'.cell? ⟨w.heap.size, 4, none⟩ = some sb /\ w'.cell? ⟨w.heap.size, 5, none⟩ = some su /\ w'.cell? ⟨w.heap.size, 6, none⟩ = some si /\ w'.cell? ⟨w.heap.size + 1, 0, none⟩ = some (.int .u64 (x : Nat)))
    (first | (refine HQ.out _ ?_; (repeat (first | assumption | exact HB3.out | refine Below.drew ?_)); done) | exact ⟨by assumption, by assumption, by assumption, by assumption, by assumption, by assumption, by assumption, by assumption⟩ | go_keep)
    (first
      | (go_at_call 22; go_loud ((with_reducible refine (HEN.out _ (by (repeat (first | assumption | exact HB3.out | refine Below.drew ?_)))).mono ?_); rintro e w4 ⟨rfl, hb4⟩)))) | fail "stood"
   all_goals (
    obtain ⟨q0, q1, q2, q3, q4, q5, q6, q7⟩ := HQ.out _ hb4
    go_wp2_with (first
     | (go_at_call 26; (with_reducible refine (HSH.out _ (by first | assumption | exact Below.drew (by assumption))).mono ?_); rintro e w5 ⟨sv, rfl, hr5, hb5⟩)
     | (go_at_call 25; (with_reducible refine (HPL.out _ _ (by assumption) (by assumption)).mono ?_); rintro e w6 ⟨sv2, rfl, hr6, hb6⟩))
    exact bodyPost_ret (v := .tuple #[sv2, .int .i64 0]) (by simp [results, Tryz.results10, go_sem]) rfl ⟨_, rfl, by assumption, by assumption⟩)
  ·have hoe : z1i m x = 24 := by unfold z1i; rw [if_pos hce, hen, if_neg hlt]
   have hol : ownL m x = [] := by unfold ownL; rw [if_neg (by rw [hoe]; decide)]
   have hng : en <= x := by omega
   rw [hoe, hol];clear hR hB hU hI hcs hW1 hW0 hblk1 hblk0 hblkm hl0 hs0 hs1 hb0 hb01 hb1 hm' hT hef hMV hce hwd hen hL hLS hLl hl64 hlt hoe hol h1 h2 h3 hx;go_enter Tryz.func10, Tryz.ntmps10
   go_wp2_with (go_at_call 21; (with_reducible refine HCI.out.mono ?_); rintro e w3 ⟨rfl, hb3⟩; rw [<- HW1.out] at hb3; obtain ⟨p0, p1, p2, p3, p4, p5, p6, p7⟩ := HQ.out _ hb3)
   have HB3 := hid hb3
   first | (go_region_held3 (fun w' => w'.cell? ⟨w.heap.size, 0, none⟩ = some (.string m.name) /\ w'.cell? ⟨w.heap.size, 1, none⟩ = some (.int .i64 m.word) /\ w'.cell? ⟨w.heap.size, 2, none⟩ = some (.int .i64 m.address) /\ w'.cell? ⟨w.heap.size, 3, none⟩ = some sr /\ w'.cell? ⟨w.heap.size, 4, none⟩ = some sb /\ w'.cell? ⟨w.heap.size, 5, none⟩ = some su /\ w'.cell? ⟨w.heap.size, 6, none⟩ = some si /\ w'.cell? ⟨w.heap.size + 1, 0, none⟩ = some (.int .u64 (x : Nat)))
    (first | (refine HQ.out _ ?_; (repeat (first | assumption | exact HB3.out | refine Below.drew ?_)); done) | exact ⟨by assumption, by assumption, by assumption, by assumption, by assumption, by assumption, by assumption, by assumption⟩ | go_keep)
    (first
      | (go_at_call 22; go_loud ((with_reducible refine (HEN.out _ (by (repeat (first | assumption | exact HB3.out | refine Below.drew ?_)))).mono ?_); rintro e w4 ⟨rfl, hb4⟩)))) | fail "stood"
   all_goals (
    go_wp2
    exact bodyPost_ret (v := .tuple #[.slice none 0 0, .int .i64 24]) (by simp [results, Tryz.results10, go_sem]) rfl ⟨_, rfl, z50, HGR.out _ (by first | assumption | exact Below.drew (by assumption))⟩)
 ·have hoe : z1i m x = ce := by unfold z1i; rw [if_neg (by rw [hce]; exact hk), hce]
  have hol : ownL m x = [] := by unfold ownL; rw [if_neg (by rw [hoe]; exact hk)]
  have g : (ce != 0) = true := by simp [hk]
  rw [hoe, hol];clear hR hB hU hI hcs hW1 hW0 hblk1 hblk0 hblkm hl0 hs0 hs1 hb0 hb01 hb1 hm' hT hef hMV hce hoe hol h1 h2 h3 hx hk;go_enter Tryz.func10, Tryz.ntmps10
  go_wp2_with (go_at_call 21; (with_reducible refine HCI.out.mono ?_); rintro e w3 ⟨rfl, hb3⟩; rw [<- HW1.out] at hb3)
  exact bodyPost_ret (v := .tuple #[.slice none 0 0, .int .i64 ce]) (by simp [results, Tryz.results10, go_sem]) rfl ⟨_, rfl, z50, HGR.out _ hb3⟩
end Go.Proofs.YtofhpahihneipaaGreatDoor
