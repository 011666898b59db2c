import Derived.Test.YtofhpahihneipaaGreatDoorQLit12
import Derived.Test.YtofhpahihneipaaGreatDoorQEncodeRefusesLaid
import Derived.Test.YtofhpahihneipaaGreatDoorGo
import Derived.Test.YtofhpahihneipaaGreatDoorPe
set_option linter.unusedVariables false
set_option linter.unusedSimpArgs false
set_option warningAsError false
set_option maxHeartbeats 4000000
open Go.Lib (hid)
open Go.Proofs.Tryz (prog)
namespace Go.Proofs.YtofhpahihneipaaGreatDoor
theorem zhh (m:Mach) (x:Nat):(z1i m x≠0/\z1a m x=z1i m x)∨(z1i m x=0/\(ownL m x).length=0/\z1a m x=12)∨(z1i m x=0/\(ownL m x).length=1/\z1a m x=0/\ownL m x=[decZ m x])∨(z1i m x=0/\2<=(ownL m x).length/\z1a m x=18):=by
 by_cases h:z1i m x=0
 ·have e1:z1a m x=(match ownL m x with|[]=>12|[_]=>0|_=>18):=by unfold z1a;rw [if_pos h];try rfl
  have e2:z1a m x=0->decZ m x=(ownL m x).headD 0:=fun q=>by unfold decZ;rw [if_pos q]
  generalize ownL m x=L at*
  match L,e1,e2 with
  | [],e1,e2=>exact .inr (.inl ⟨h,rfl,e1⟩)
  | [z],e1,e2=>exact .inr (.inr (.inl ⟨h,rfl,e1,by rw [e2 e1];rfl⟩))
  | a::b::l,e1,e2=>exact .inr (.inr (.inr ⟨h,by simp,e1⟩))
 ·exact .inl ⟨h,by unfold z1a;rw [if_neg h]⟩
end Go.Proofs.YtofhpahihneipaaGreatDoor
namespace Go.Proofs.YtofhpahihneipaaGreatDoor.encodeRefuses
open Go.RowKit Go.Instr Go.Sort Go.Lib
set_option maxRecDepth 100000
theorem walk {H : Type} {enc : TypeId × Value -> H} {W : World} {base : Nat} (v0 : Value) (a1 : Int) {d0 : DataW H} {p0 : List MemPlace} (ok0 : Value.okWide prog W .any base 27 v0) (h0 : DataW.Trod enc prog W 0 (fun _ => true) true 27 v0 d0 p0)
 (w1 : (Lit.int .u64 a1).wf = true) (hL : laidMetH prog Rows.encodeRefusesRow.laid W) :
 Calls prog 5 #[v0, .int .u64 a1] W fun e w' => e = .returned (.bool true) /\ Below W.heap.size W w' := by
 obtain ⟨m, hm⟩ := z8f ok0 h0;obtain ⟨x, rfl, hx⟩ := zgv w1;have hT := zrb W hL;clear ok0 h0 w1 hL;have hm' := hm;obtain ⟨cs0, rfl, sr, sb, su, si, hcs, h1, h2, h3, hR, hB, hU, hI⟩ := hm;obtain rfl : cs0 = #[.string m.name, .int .i64 m.word, .int .i64 m.address, sr, sb, su, si] := by cases cs0; simp_all
 obtain ⟨W1, hW1⟩ : ∃ W1, W1 = W.alloc (.cells #[.string m.name, .int .i64 m.word, .int .i64 m.address, sr, sb, su, si] 27) := ⟨_, rfl⟩;have hb1 : Below W.heap.size W W1 := by rw [hW1]; exact (Below.refl _ _).alloc (Nat.le_refl _) _
 have hl1 : W.heap.size < W1.heap.size := by rw [hW1]; simp
 have hblk1 : W1.heap[W.heap.size]? = some (.cells #[.string m.name, .int .i64 m.word, .int .i64 m.address, sr, sb, su, si] 27) := by rw [hW1]; exact heap_alloc_new _ _
 have HQ := hid (show ∀ X, Below W1.heap.size W1 X -> X.cell? ⟨W.heap.size, 0, none⟩ = some (.string m.name) /\ X.cell? ⟨W.heap.size, 1, none⟩ = some (.int .i64 m.word) /\ X.cell? ⟨W.heap.size, 2, none⟩ = some (.int .i64 m.address) /\ X.cell? ⟨W.heap.size, 3, none⟩ = some sr /\ X.cell? ⟨W.heap.size, 4, none⟩ = some sb /\ X.cell? ⟨W.heap.size, 5, none⟩ = some su /\ X.cell? ⟨W.heap.size, 6, none⟩ = some si from fun X hX => by have e1 := (hX.block _ hl1).trans hblk1;exact ⟨zb e1 rfl, zb e1 rfl, zb e1 rfl, zb e1 rfl, zb e1 rfl, zb e1 rfl, zb e1 rfl⟩)
 have HGR := hid (show ∀ X, Below W1.heap.size W1 X -> Below W.heap.size W X from fun X hX => hb1.trans (hX.mono hb1.size));have HW1 := hid hW1;have hMV : ∀ X, Below W1.heap.size W1 X -> z1j X (.agg #[.string m.name, .int .i64 m.word, .int .i64 m.address, sr, sb, su, si]) m := fun X hX => hm'.kept (HGR.out X hX);have hTX : ∀ X, Below W1.heap.size W1 X -> zm X := fun X hX => hT.below (HGR.out X hX);have HAL := hid (z6h W1 (hTX _ (Below.refl _ _)));have HGT := hid (show ∀ X, Below W1.heap.size W1 X -> Calls prog 7 #[.agg #[.string m.name, .int .i64 m.word, .int .i64 m.address, sr, sb, su, si]] X fun e w' => GrE m e /\ Below W1.heap.size W1 w' from fun X hX => (z82 X _ m (hMV X hX)).mono fun e w' ⟨g1, g2⟩ => ⟨g1, hX.trans (g2.mono hX.size)⟩);rw [hW1] at HAL;obtain ⟨oe, hoe⟩ : ∃ y, z1i m x = y := ⟨_, rfl⟩;obtain ⟨L, hLl⟩ : ∃ y, ownL m x = y := ⟨_, rfl⟩;obtain ⟨de, hde⟩ : ∃ y, z1a m x = y := ⟨_, rfl⟩;obtain ⟨dz, hdz⟩ : ∃ y, decZ m x = y := ⟨_, rfl⟩;obtain ⟨n, hn⟩ : ∃ y, L.length = y := ⟨_, rfl⟩;have HOW := hid (show MachSmall m -> ∀ X, Below W1.heap.size W1 X -> Calls prog 10 #[.agg #[.string m.name, .int .i64 m.word, .int .i64 m.address, sr, sb, su, si], .int .u64 (x : Nat)] X fun e w' => ∃ A c, e = .returned (.tuple #[.slice A n c, .int .i64 oe]) /\ Hid (zd 1 intE w' (.slice A n c) (L.map fun (z : Nat) => (z : Int))) /\ Below W1.heap.size W1 w' from fun hs X hX => (z8i X _ m (hMV X hX) (hTX X hX) hs.effs x hx).mono fun e w' ⟨sv, g1, g2, g3⟩ => by rw [hLl] at g2;obtain ⟨A, c, rfl, _⟩ := id g2;rw [List.length_map, hn] at g1 g2;rw [hoe] at g1;exact ⟨A, c, g1, hid g2, hX.trans (g3.mono hX.size)⟩)
 have HDE := hid (show MachSmall m -> ∀ X, Below W1.heap.size W1 X -> Calls prog 11 #[.agg #[.string m.name, .int .i64 m.word, .int .i64 m.address, sr, sb, su, si], .int .u64 (x : Nat)] X fun e w' => ∃ A la c, e = .returned (.tuple #[.agg #[.int .i64 (dz : Nat), .slice A la c], .int .i64 de]) /\ Below W1.heap.size W1 w' /\ Below X.heap.size X w' from fun hs X hX => (z5q X _ m (hMV X hX) (hTX X hX) hs.effs x hx).mono fun e w' ⟨sv, g1, g2, g3⟩ => by obtain ⟨A, c, rfl, _⟩ := id g2;rw [hde, hdz] at g1;exact ⟨A, _, c, g1, hX.trans (g3.mono hX.size), g3⟩)
 have hcase := zhh m x;rw [hoe, hLl, hde, hdz, hn] at hcase;have HROW := hid (show ∀ X A c, zd 1 intE X (.slice A n c) (L.map fun (z : Nat) => (z : Int)) -> L = [dz] -> ∃ b o, A = some ⟨b, o, none⟩ /\ X.cell? ⟨b, o, none⟩ = some (.int .i64 (dz : Nat)) from fun X A c hr hl => by subst hl;obtain ⟨A', c', e1, _, _, _, hall⟩ := hr;cases e1;obtain ⟨b, o, cs, rfl, _, _, hcell, hE⟩ := hall 0 (dz : Int) rfl;obtain ⟨rfl, _⟩ := hE;exact ⟨b, o, rfl, by simpa using hcell 0 _ rfl⟩)
 clear hcs h1 h2 h3 hR hB hU hI hm' hT hTX hMV hW1 hb1 hl1 hblk1 hx hoe hLl hde hdz hn;rcases hcase with ⟨hne, rfl⟩ | ⟨rfl, rfl, rfl⟩ | ⟨rfl, rfl, rfl, hL1⟩ | ⟨rfl, hn2, rfl⟩
 ·have g : (de != 0) = true := by simp [hne]
  have g' : (de == de) = true := by simp
  clear hne;go_enter Tryz.func5, Tryz.ntmps5
  go_wp2_with (first
   | (go_at_call 6; (with_reducible refine HAL.out.mono ?_); rintro e w3 ⟨rfl, hb3⟩; rw [<- HW1.out] at hb3; obtain ⟨p0, p1, p2, p3, p4, p5, p6⟩ := HQ.out _ hb3)
   | (go_at_call 7; (with_reducible refine (HGT.out _ hb3).mono ?_); rintro e w4 ⟨⟨g, rfl, hg⟩, hb4⟩; have HG := hid hg; clear hg; obtain ⟨q0, q1, q2, q3, q4, q5, q6⟩ := HQ.out _ hb4)
   | (go_at_call 10; (with_reducible refine (HOW.out (HG.out (by first | assumption | simp_all)) _ hb4).mono ?_); rintro e w5 ⟨A5, c5, rfl, hr5, hb5⟩; obtain ⟨r0, r1, r2, r3, r4, r5, r6⟩ := HQ.out _ hb5)
   | (go_at_call 11; (with_reducible refine (HDE.out (HG.out (by first | assumption | simp_all)) _ hb5).mono ?_); rintro e w6 ⟨A6, l6, c6, rfl, hb6, hb56⟩; have hb7 := hb6.alloc hb6.size (.cells #[.int .i64 (dz : Nat), .slice A6 l6 c6] 30)))
  ·exact bodyPost_ret (v := .bool true) (by simp [results, Tryz.results5, go_sem]) rfl ⟨rfl, HGR.out _ hb4⟩
  ·exact bodyPost_ret (v := .bool true) (by simp [results, Tryz.results5, go_sem]) rfl ⟨rfl, HGR.out _ hb7⟩
 ·have g : ((0 : Int) != 0) = false := by decide
  go_enter Tryz.func5, Tryz.ntmps5
  go_wp2_with (first
   | (go_at_call 6; (with_reducible refine HAL.out.mono ?_); rintro e w3 ⟨rfl, hb3⟩; rw [<- HW1.out] at hb3; obtain ⟨p0, p1, p2, p3, p4, p5, p6⟩ := HQ.out _ hb3)
   | (go_at_call 7; (with_reducible refine (HGT.out _ hb3).mono ?_); rintro e w4 ⟨⟨g, rfl, hg⟩, hb4⟩; have HG := hid hg; clear hg; obtain ⟨q0, q1, q2, q3, q4, q5, q6⟩ := HQ.out _ hb4)
   | (go_at_call 10; (with_reducible refine (HOW.out (HG.out (by first | assumption | simp_all)) _ hb4).mono ?_); rintro e w5 ⟨A5, c5, rfl, hr5, hb5⟩; obtain ⟨r0, r1, r2, r3, r4, r5, r6⟩ := HQ.out _ hb5)
   | (go_at_call 11; (with_reducible refine (HDE.out (HG.out (by first | assumption | simp_all)) _ hb5).mono ?_); rintro e w6 ⟨A6, l6, c6, rfl, hb6, hb56⟩; have hb7 := hb6.alloc hb6.size (.cells #[.int .i64 (dz : Nat), .slice A6 l6 c6] 30)))
  ·exact bodyPost_ret (v := .bool true) (by simp [results, Tryz.results5, go_sem]) rfl ⟨rfl, HGR.out _ hb4⟩
  ·exact bodyPost_ret (v := .bool true) (by simp [results, Tryz.results5, go_sem]) rfl ⟨rfl, HGR.out _ hb7⟩
 ·have HL1 := hid hL1;clear hL1;go_enter Tryz.func5, Tryz.ntmps5
  go_wp2_with (first
   | (go_at_call 6; (with_reducible refine HAL.out.mono ?_); rintro e w3 ⟨rfl, hb3⟩; rw [<- HW1.out] at hb3; obtain ⟨p0, p1, p2, p3, p4, p5, p6⟩ := HQ.out _ hb3)
   | (go_at_call 7; (with_reducible refine (HGT.out _ hb3).mono ?_); rintro e w4 ⟨⟨g, rfl, hg⟩, hb4⟩; have HG := hid hg; clear hg; obtain ⟨q0, q1, q2, q3, q4, q5, q6⟩ := HQ.out _ hb4)
   | (go_at_call 10; (with_reducible refine (HOW.out (HG.out (by first | assumption | simp_all)) _ hb4).mono ?_); rintro e w5 ⟨A5, c5, rfl, hr5, hb5⟩; obtain ⟨r0, r1, r2, r3, r4, r5, r6⟩ := HQ.out _ hb5)
   | (go_at_call 11; (with_reducible refine (HDE.out (HG.out (by first | assumption | simp_all)) _ hb5).mono ?_); rintro e w6 ⟨A6, l6, c6, rfl, hb6, hb56⟩; have hb7 := hb6.alloc hb6.size (.cells #[.int .i64 (dz : Nat), .slice A6 l6 c6] 30)))
  ·exact bodyPost_ret (v := .bool true) (by simp [results, Tryz.results5, go_sem]) rfl ⟨rfl, HGR.out _ hb4⟩
  ·have hb67 := (Below.refl w6.heap.size w6).alloc (Nat.le_refl _) (.cells #[.int .i64 (dz : Nat), .slice A6 l6 c6] 30);have hb57 := hb56.trans (hb67.mono hb56.size);obtain ⟨b5, o5, rfl, hce⟩ := HROW.out _ _ _ (hr5.out.kept (fun cs x hx => intE.kept hx hb57) hb57) HL1.out;have k8 : (w6.alloc (.cells #[.int .i64 (dz : Nat), .slice A6 l6 c6] 30)).cell? ⟨w6.heap.size, 0, none⟩ = some (.int .i64 (dz : Nat)) := zb (heap_alloc_new _ _) rfl;have hdd : (((dz : Nat) : Int) == ((dz : Nat) : Int)) = true := by simp
   have HB7 := hid hb7;clear hb67 hb57 hb56 hb6 hb5 hb4 hb3 hb7;go_quiet (fail)
   go_wp2
   exact bodyPost_ret (v := .bool true) (by simp [results, Tryz.results5, go_sem]) rfl ⟨rfl, HGR.out _ (HB7.out.trans (z38 _ _ _))⟩
 ·have g0 : ((n : Int) == 0) = false := by simp; omega
  have g1 : ((n : Int) == 1) = false := by simp; omega
  clear hn2;go_enter Tryz.func5, Tryz.ntmps5
  go_wp2_with (first
   | (go_at_call 6; (with_reducible refine HAL.out.mono ?_); rintro e w3 ⟨rfl, hb3⟩; rw [<- HW1.out] at hb3; obtain ⟨p0, p1, p2, p3, p4, p5, p6⟩ := HQ.out _ hb3)
   | (go_at_call 7; (with_reducible refine (HGT.out _ hb3).mono ?_); rintro e w4 ⟨⟨g, rfl, hg⟩, hb4⟩; have HG := hid hg; clear hg; obtain ⟨q0, q1, q2, q3, q4, q5, q6⟩ := HQ.out _ hb4)
   | (go_at_call 10; (with_reducible refine (HOW.out (HG.out (by first | assumption | simp_all)) _ hb4).mono ?_); rintro e w5 ⟨A5, c5, rfl, hr5, hb5⟩; obtain ⟨r0, r1, r2, r3, r4, r5, r6⟩ := HQ.out _ hb5)
   | (go_at_call 11; (with_reducible refine (HDE.out (HG.out (by first | assumption | simp_all)) _ hb5).mono ?_); rintro e w6 ⟨A6, l6, c6, rfl, hb6, hb56⟩; have hb7 := hb6.alloc hb6.size (.cells #[.int .i64 (dz : Nat), .slice A6 l6 c6] 30)))
  ·exact bodyPost_ret (v := .bool true) (by simp [results, Tryz.results5, go_sem]) rfl ⟨rfl, HGR.out _ hb4⟩
  ·exact bodyPost_ret (v := .bool true) (by simp [results, Tryz.results5, go_sem]) rfl ⟨rfl, HGR.out _ hb7⟩
end Go.Proofs.YtofhpahihneipaaGreatDoor.encodeRefuses
