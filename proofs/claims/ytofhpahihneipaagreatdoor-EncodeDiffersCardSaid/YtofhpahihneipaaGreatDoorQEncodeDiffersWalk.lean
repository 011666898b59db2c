import Derived.Test.YtofhpahihneipaaGreatDoorQLit12
import Derived.Test.YtofhpahihneipaaGreatDoorQEncodeDiffersLaid
import Derived.Test.YtofhpahihneipaaGreatDoorGo
import Derived.Test.YtofhpahihneipaaGreatDoorQMachOpenOp
set_option linter.unusedVariables false
set_option linter.unusedSimpArgs false
set_option warningAsError false
set_option maxHeartbeats 4000000
open Go.Lib (hid)
open Go.Proofs.Tryz (prog)
namespace Go.Proofs.YtofhpahihneipaaGreatDoor
open Go.RowKit Go.Instr Go.Sort Go.Lib
theorem mtch_lt {w:World} {v:Value} {L:List MIns} (h:zd 9 insE w v L):∀ i∈L,i.mtch<18446744073709551616:=by intro i hi;obtain ⟨k,hk,rfl⟩:=List.getElem_of_mem hi;obtain ⟨A,c,_,_,_,_,hall⟩:=h;obtain ⟨b,o,cs,_,_,_,_,hE⟩:=hall k _ (List.getElem?_eq_getElem hk);obtain ⟨so,se,_,_,_,h2,_⟩:=hE;exact h2
theorem enc_word {m:Mach} {z:Int} {av:List Int} (hm:∀ i∈m.instrs,i.mtch<18446744073709551616) (h:z32 m z av=0):chkR m=0/\∃ (q:Nat) (i:MIns),z=q/\m.instrs[q]? =some i/\Fits m i av/\encR m z av=z22 m i.mtch i.opers av/\hasR (z1p m i) (encR m z av)=true/\encR m z av<2^(8*m.word).toNat/\z1c m (encR m z av) [] i.opers=av:=by
 obtain ⟨hc,q,i,rfl,hi,hf⟩:=z8e h;have e:encR m (q:Int) av=z22 m i.mtch i.opers av:=by unfold encR;rw [if_pos h,Int.toNat_natCast,hi]
 obtain ⟨k1,k2,k3⟩:=zkg hc (List.mem_of_getElem? hi) (hm i (List.mem_of_getElem? hi)) hf;rw [<- e] at k1 k2 k3;exact ⟨hc,q,i,rfl,hi,hf,e,k1,k2,k3⟩
theorem zyg {m:Mach} {z:Int} {av bv:List Int} (hm:∀ i∈m.instrs,i.mtch<18446744073709551616) (h1:z32 m z av=0) (h2:z32 m z bv=0):decide (encR m z av=encR m z bv)=decide (av=bv):=by
 obtain ⟨_,q,i,e1,hi,_,_,_,_,a1⟩:=enc_word hm h1;obtain ⟨_,q',i',e2,hi',_,_,_,_,a2⟩:=enc_word hm h2;obtain rfl:q=q':=by omega
 rw [hi] at hi';obtain rfl:=Option.some.inj hi';by_cases h:av=bv
 ·subst h;simp
 ·have:encR m z av≠encR m z bv:=fun e=>h (by rw [<- a1,<-a2,e]);simp [h,this]
end Go.Proofs.YtofhpahihneipaaGreatDoor
namespace Go.Proofs.YtofhpahihneipaaGreatDoor.encodeDiffers
open Go.RowKit Go.Instr Go.Sort Go.Lib
set_option maxRecDepth 100000
theorem walk {H : Type} {enc : TypeId × Value -> H} {W : World} {base : Nat} (v0 v1 v2 : Value) {d0 d1 d2 : DataW H} {p0 p1 p2 : List MemPlace} (ok0 : Value.okWide prog W .any base 27 v0) (h0 : DataW.Trod enc prog W 0 (fun _ => true) true 27 v0 d0 p0)
 (ok1 : Value.okWide prog W .any base 30 v1) (h1 : DataW.Trod enc prog W 0 (fun _ => true) true 30 v1 d1 p1)
 (ok2 : Value.okWide prog W .any base 30 v2) (h2 : DataW.Trod enc prog W 0 (fun _ => true) true 30 v2 d2 p2)
 (hL : laidMetH prog Rows.encodeDiffersRow.laid W) :
 Calls prog 4 #[v0, v1, v2] W fun e w' => e = .returned (.bool true) /\ Below W.heap.size W w' := by
 obtain ⟨m, hm⟩ := z8f ok0 h0;obtain ⟨z1, s1, av, rfl, hz1, hA⟩ := zd9 ok1 h1;obtain ⟨z2, s2, bv, rfl, hz2, hB2⟩ := zd9 ok2 h2;have hT := zr3 W hL;clear ok0 h0 ok1 h1 ok2 h2 hL;have hm' := hm;obtain ⟨cs0, rfl, sr, sb, su, si, hcs, h1, h2, h3, hR, hB, hU, hI⟩ := hm;obtain rfl : cs0 = #[.string m.name, .int .i64 m.word, .int .i64 m.address, sr, sb, su, si] := by cases cs0; simp_all
 have hmt := mtch_lt hI;obtain ⟨Aa, ca, rfl, _⟩ := id hA;obtain ⟨Ab, cb, rfl, _⟩ := id hB2;obtain ⟨la, hla⟩ : ∃ y, av.length = y := ⟨_, rfl⟩;obtain ⟨lb, hlb⟩ : ∃ y, bv.length = y := ⟨_, rfl⟩;rw [hla] at hA ⊢;rw [hlb] at hB2 ⊢;obtain ⟨W1, hW1⟩ : ∃ W1, W1 = ((W.alloc (.cells #[.string m.name, .int .i64 m.word, .int .i64 m.address, sr, sb, su, si] 27)).alloc (.cells #[.int .i64 z1, .slice Aa la ca] 30)).alloc (.cells #[.int .i64 z2, .slice Ab lb cb] 30) := ⟨_, rfl⟩;have ha1 : Below W.heap.size W (W.alloc (.cells #[.string m.name, .int .i64 m.word, .int .i64 m.address, sr, sb, su, si] 27)) := (Below.refl _ _).alloc (Nat.le_refl _) _;have ha2 := ha1.alloc (by simp) (.cells #[.int .i64 z1, .slice Aa la ca] 30);have hb1 : Below W.heap.size W W1 := by rw [hW1]; exact ha2.alloc (by simp; omega) _
 have hl1 : W1.heap.size = W.heap.size + 3 := by rw [hW1]; simp
 have hk0 : W1.heap[W.heap.size]? = some (.cells #[.string m.name, .int .i64 m.word, .int .i64 m.address, sr, sb, su, si] 27) := by rw [hW1];exact ((((Below.refl _ _).alloc (Nat.le_refl _) _).alloc (by simp) _).block _ (by simp)).trans (heap_alloc_new _ _)
 have hk1 : W1.heap[W.heap.size + 1]? = some (.cells #[.int .i64 z1, .slice Aa la ca] 30) := by rw [hW1];refine (((Below.refl _ _).alloc (Nat.le_refl _) _).block _ (by simp)).trans ?_;have := heap_alloc_new (W.alloc (.cells #[.string m.name, .int .i64 m.word, .int .i64 m.address, sr, sb, su, si] 27)) (.cells #[.int .i64 z1, .slice Aa la ca] 30);simpa using this
 have hk2 : W1.heap[W.heap.size + 2]? = some (.cells #[.int .i64 z2, .slice Ab lb cb] 30) := by rw [hW1];have := heap_alloc_new ((W.alloc (.cells #[.string m.name, .int .i64 m.word, .int .i64 m.address, sr, sb, su, si] 27)).alloc (.cells #[.int .i64 z1, .slice Aa la ca] 30)) (.cells #[.int .i64 z2, .slice Ab lb cb] 30);simpa using this
 have HQ := hid (show ∀ X, Below W1.heap.size W1 X -> (X.cell? ⟨W.heap.size, 0, none⟩ = some (.string m.name) /\ X.cell? ⟨W.heap.size, 1, none⟩ = some (.int .i64 m.word) /\ X.cell? ⟨W.heap.size, 2, none⟩ = some (.int .i64 m.address) /\ X.cell? ⟨W.heap.size, 3, none⟩ = some sr /\ X.cell? ⟨W.heap.size, 4, none⟩ = some sb /\ X.cell? ⟨W.heap.size, 5, none⟩ = some su /\ X.cell? ⟨W.heap.size, 6, none⟩ = some si) /\ X.cell? ⟨W.heap.size + 1, 0, none⟩ = some (.int .i64 z1) /\ X.cell? ⟨W.heap.size + 1, 1, none⟩ = some (.slice Aa la ca) /\ X.cell? ⟨W.heap.size + 2, 0, none⟩ = some (.int .i64 z2) /\ X.cell? ⟨W.heap.size + 2, 1, none⟩ = some (.slice Ab lb cb) from fun X hX => by have e0 := (hX.block _ (by omega)).trans hk0;have e1 := (hX.block _ (by omega)).trans hk1;have e2 := (hX.block _ (by omega)).trans hk2;exact ⟨⟨zb e0 rfl, zb e0 rfl, zb e0 rfl, zb e0 rfl, zb e0 rfl, zb e0 rfl, zb e0 rfl⟩, zb e1 rfl, zb e1 rfl, zb e2 rfl, zb e2 rfl⟩)
 have HGR := hid (show ∀ X, Below W1.heap.size W1 X -> Below W.heap.size W X from fun X hX => hb1.trans (hX.mono hb1.size));have HW1 := hid hW1;have hMV : ∀ X, Below W1.heap.size W1 X -> z1j X (.agg #[.string m.name, .int .i64 m.word, .int .i64 m.address, sr, sb, su, si]) m := fun X hX => hm'.kept (HGR.out X hX);have hTX : ∀ X, Below W1.heap.size W1 X -> zm X := fun X hX => hT.below (HGR.out X hX);have hAX : ∀ X, Below W1.heap.size W1 X -> zd 1 intE X (.slice Aa la ca) av := fun X hX => hA.kept (fun cs x hx => intE.kept hx (HGR.out X hX)) (HGR.out X hX);have hBX : ∀ X, Below W1.heap.size W1 X -> zd 1 intE X (.slice Ab lb cb) bv := fun X hX => hB2.kept (fun cs x hx => intE.kept hx (HGR.out X hX)) (HGR.out X hX);have HAL := hid (z6h W1 (hTX _ (Below.refl _ _)));have HGT := hid (show ∀ X, Below W1.heap.size W1 X -> Calls prog 7 #[.agg #[.string m.name, .int .i64 m.word, .int .i64 m.address, sr, sb, su, si]] X fun e w' => GrE m e /\ Below W1.heap.size W1 w' from fun X hX => (z82 X _ m (hMV X hX)).mono fun e w' ⟨g1, g2⟩ => ⟨g1, hX.trans (g2.mono hX.size)⟩);rw [hW1] at HAL;obtain ⟨e1, he1⟩ : ∃ y, z32 m z1 av = y := ⟨_, rfl⟩;obtain ⟨e2, he2⟩ : ∃ y, z32 m z2 bv = y := ⟨_, rfl⟩;obtain ⟨x1, hx1⟩ : ∃ y, encR m z1 av = y := ⟨_, rfl⟩;obtain ⟨x2, hx2⟩ : ∃ y, encR m z2 bv = y := ⟨_, rfl⟩;have HE1 := hid (show MachSmall m -> ∀ X, Below W1.heap.size W1 X -> Calls prog 8 #[.agg #[.string m.name, .int .i64 m.word, .int .i64 m.address, sr, sb, su, si], .agg #[.int .i64 z1, .slice Aa la ca]] X fun e w' => e = .returned (.tuple #[.int .u64 (x1 : Nat), .int .i64 e1]) /\ Below W1.heap.size W1 w' from fun hs X hX => by have h := z3k X _ m (hMV X hX) (hTX X hX) hs.effs z1 hz1 _ av (hAX X hX);rw [he1, hx1] at h;exact h.mono fun e w' ⟨g1, g2⟩ => ⟨g1, hX.trans (g2.mono hX.size)⟩)
 have HE2 := hid (show MachSmall m -> ∀ X, Below W1.heap.size W1 X -> Calls prog 8 #[.agg #[.string m.name, .int .i64 m.word, .int .i64 m.address, sr, sb, su, si], .agg #[.int .i64 z2, .slice Ab lb cb]] X fun e w' => e = .returned (.tuple #[.int .u64 (x2 : Nat), .int .i64 e2]) /\ Below W1.heap.size W1 w' from fun hs X hX => by have h := z3k X _ m (hMV X hX) (hTX X hX) hs.effs z2 hz2 _ bv (hBX X hX);rw [he2, hx2] at h;exact h.mono fun e w' ⟨g1, g2⟩ => ⟨g1, hX.trans (g2.mono hX.size)⟩)
 obtain ⟨d, hd⟩ : ∃ y, decide (av = bv) = y := ⟨_, rfl⟩;have HSO := hid (show z1 = z2 -> la <= 20 -> lb <= 20 -> ∀ X, Below W1.heap.size W1 X -> Calls prog 12 #[.agg #[.int .i64 z1, .slice Aa la ca], .agg #[.int .i64 z2, .slice Ab lb cb]] X fun e w' => e = .returned (.bool d) /\ Below W1.heap.size W1 w' from fun hz q1 q2 X hX => by have h := z8l X z1 z2 _ _ av bv (hAX X hX) (hBX X hX) (by omega) (by omega);rw [hd, decide_eq_true hz, Bool.true_and] at h;exact h.mono fun e w' ⟨g1, g2⟩ => ⟨g1, hX.trans (g2.mono hX.size)⟩)
 have hcase : (e1 ≠ 0) ∨ (e1 = 0 /\ e2 ≠ 0) ∨ (e1 = 0 /\ e2 = 0 /\ z1 ≠ z2) ∨ (e1 = 0 /\ e2 = 0 /\ z1 = z2 /\ ((x1 : Int) == (x2 : Int)) = d) := by
  by_cases q1 : e1 = 0
  ·by_cases q2 : e2 = 0
   ·by_cases q3 : z1 = z2
    ·refine .inr (.inr (.inr ⟨q1, q2, q3, ?_⟩));rw [q1] at he1;rw [q2] at he2;rw [<- q3] at he2 hx2;have := zyg hmt he1 he2;rw [hx1, hx2, hd] at this;rw [<- this];rw [Bool.eq_iff_iff];simp;try omega
    ·exact .inr (.inr (.inl ⟨q1, q2, q3⟩))
   ·exact .inr (.inl ⟨q1, q2⟩)
  ·exact .inl q1
 clear hcs h1 h2 h3 hR hB hU hI hm' hT hTX hMV hAX hBX hA hB2 hW1 hb1 hl1 hk0 hk1 hk2 ha1 ha2 hz1 hz2 hmt he1 he2 hx1 hx2 hd hla hlb;rcases hcase with q1 | ⟨rfl, q2⟩ | ⟨rfl, rfl, q3⟩ | ⟨rfl, rfl, rfl, hxx⟩
 ·have g1 : (e1 != 0) = true := by simp [q1]
  clear q1;go_enter Tryz.func4, Tryz.ntmps4
  go_wp2_with (first
   | (go_at_call 6; (with_reducible refine HAL.out.mono ?_); rintro e w3 ⟨rfl, hb3⟩; rw [<- HW1.out] at hb3; obtain ⟨⟨p0, p1, p2, p3, p4, p5, p6⟩, p7, p8, p9, p10⟩ := HQ.out _ hb3)
   | (go_at_call 7; (with_reducible refine (HGT.out _ hb3).mono ?_); rintro e w4 ⟨⟨g, rfl, hg⟩, hb4⟩; have HG := hid hg; clear hg; obtain ⟨⟨q0, q1, q2, q3, q4, q5, q6⟩, q7, q8, q9, q10⟩ := HQ.out _ hb4)
   | (go_at_call 8; (with_reducible refine (HE1.out (HG.out (by first | assumption | simp_all)) _ hb4).mono ?_); rintro e w5 ⟨rfl, hb5⟩; obtain ⟨⟨r0, r1, r2, r3, r4, r5, r6⟩, r7, r8, r9, r10⟩ := HQ.out _ hb5)
   | (go_at_call 8; (with_reducible refine (HE2.out (HG.out (by first | assumption | simp_all)) _ hb5).mono ?_); rintro e w6 ⟨rfl, hb6⟩; obtain ⟨⟨s0, s1, s2, s3, s4, s5, s6⟩, s7, s8, s9, s10⟩ := HQ.out _ hb6)
   | (go_at_call 12; (with_reducible refine (HSO.out (by trivial) (by omega) (by omega) _ hb6).mono ?_); rintro e w7 ⟨rfl, hb7⟩))
  all_goals exact bodyPost_ret (v := .bool true) (by simp [results, Tryz.results4, go_sem]) rfl ⟨rfl, HGR.out _ (by assumption)⟩
 ·have g1 : ((0 : Int) != 0) = false := by decide
  have g2 : (e2 != 0) = true := by simp [q2]
  clear q2;go_enter Tryz.func4, Tryz.ntmps4
  go_wp2_with (first
   | (go_at_call 6; (with_reducible refine HAL.out.mono ?_); rintro e w3 ⟨rfl, hb3⟩; rw [<- HW1.out] at hb3; obtain ⟨⟨p0, p1, p2, p3, p4, p5, p6⟩, p7, p8, p9, p10⟩ := HQ.out _ hb3)
   | (go_at_call 7; (with_reducible refine (HGT.out _ hb3).mono ?_); rintro e w4 ⟨⟨g, rfl, hg⟩, hb4⟩; have HG := hid hg; clear hg; obtain ⟨⟨q0, q1, q2, q3, q4, q5, q6⟩, q7, q8, q9, q10⟩ := HQ.out _ hb4)
   | (go_at_call 8; (with_reducible refine (HE1.out (HG.out (by first | assumption | simp_all)) _ hb4).mono ?_); rintro e w5 ⟨rfl, hb5⟩; obtain ⟨⟨r0, r1, r2, r3, r4, r5, r6⟩, r7, r8, r9, r10⟩ := HQ.out _ hb5)
   | (go_at_call 8; (with_reducible refine (HE2.out (HG.out (by first | assumption | simp_all)) _ hb5).mono ?_); rintro e w6 ⟨rfl, hb6⟩; obtain ⟨⟨s0, s1, s2, s3, s4, s5, s6⟩, s7, s8, s9, s10⟩ := HQ.out _ hb6)
   | (go_at_call 12; (with_reducible refine (HSO.out (by trivial) (by omega) (by omega) _ hb6).mono ?_); rintro e w7 ⟨rfl, hb7⟩))
  all_goals exact bodyPost_ret (v := .bool true) (by simp [results, Tryz.results4, go_sem]) rfl ⟨rfl, HGR.out _ (by assumption)⟩
 ·have g1 : ((0 : Int) != 0) = false := by decide
  have g3 : (z1 != z2) = true := by simp [q3]
  clear q3;go_enter Tryz.func4, Tryz.ntmps4
  go_wp2_with (first
   | (go_at_call 6; (with_reducible refine HAL.out.mono ?_); rintro e w3 ⟨rfl, hb3⟩; rw [<- HW1.out] at hb3; obtain ⟨⟨p0, p1, p2, p3, p4, p5, p6⟩, p7, p8, p9, p10⟩ := HQ.out _ hb3)
   | (go_at_call 7; (with_reducible refine (HGT.out _ hb3).mono ?_); rintro e w4 ⟨⟨g, rfl, hg⟩, hb4⟩; have HG := hid hg; clear hg; obtain ⟨⟨q0, q1, q2, q3, q4, q5, q6⟩, q7, q8, q9, q10⟩ := HQ.out _ hb4)
   | (go_at_call 8; (with_reducible refine (HE1.out (HG.out (by first | assumption | simp_all)) _ hb4).mono ?_); rintro e w5 ⟨rfl, hb5⟩; obtain ⟨⟨r0, r1, r2, r3, r4, r5, r6⟩, r7, r8, r9, r10⟩ := HQ.out _ hb5)
   | (go_at_call 8; (with_reducible refine (HE2.out (HG.out (by first | assumption | simp_all)) _ hb5).mono ?_); rintro e w6 ⟨rfl, hb6⟩; obtain ⟨⟨s0, s1, s2, s3, s4, s5, s6⟩, s7, s8, s9, s10⟩ := HQ.out _ hb6)
   | (go_at_call 12; (with_reducible refine (HSO.out (by trivial) (by omega) (by omega) _ hb6).mono ?_); rintro e w7 ⟨rfl, hb7⟩))
  all_goals exact bodyPost_ret (v := .bool true) (by simp [results, Tryz.results4, go_sem]) rfl ⟨rfl, HGR.out _ (by assumption)⟩
 ·have g1 : ((0 : Int) != 0) = false := by decide
  have g3 : (z1 != z1) = false := by simp
  have gd : (d == d) = true := by simp
  go_enter Tryz.func4, Tryz.ntmps4
  go_wp2_with (first
   | (go_at_call 6; (with_reducible refine HAL.out.mono ?_); rintro e w3 ⟨rfl, hb3⟩; rw [<- HW1.out] at hb3; obtain ⟨⟨p0, p1, p2, p3, p4, p5, p6⟩, p7, p8, p9, p10⟩ := HQ.out _ hb3)
   | (go_at_call 7; (with_reducible refine (HGT.out _ hb3).mono ?_); rintro e w4 ⟨⟨g, rfl, hg⟩, hb4⟩; have HG := hid hg; clear hg; obtain ⟨⟨q0, q1, q2, q3, q4, q5, q6⟩, q7, q8, q9, q10⟩ := HQ.out _ hb4)
   | (go_at_call 8; (with_reducible refine (HE1.out (HG.out (by first | assumption | simp_all)) _ hb4).mono ?_); rintro e w5 ⟨rfl, hb5⟩; obtain ⟨⟨r0, r1, r2, r3, r4, r5, r6⟩, r7, r8, r9, r10⟩ := HQ.out _ hb5)
   | (go_at_call 8; (with_reducible refine (HE2.out (HG.out (by first | assumption | simp_all)) _ hb5).mono ?_); rintro e w6 ⟨rfl, hb6⟩; obtain ⟨⟨s0, s1, s2, s3, s4, s5, s6⟩, s7, s8, s9, s10⟩ := HQ.out _ hb6)
   | (go_at_call 12; (with_reducible refine (HSO.out (by trivial) (by omega) (by omega) _ hb6).mono ?_); rintro e w7 ⟨rfl, hb7⟩))
  all_goals exact bodyPost_ret (v := .bool true) (by simp [results, Tryz.results4, go_sem]) rfl ⟨rfl, HGR.out _ (by assumption)⟩
end Go.Proofs.YtofhpahihneipaaGreatDoor.encodeDiffers
