import Derived.Test.YtofhpahihneipaaGreatDoorQLit12
import Derived.Test.YtofhpahihneipaaGreatDoorQEncWd
import Derived.Test.YtofhpahihneipaaGreatDoorQEncodeBackLaid
import Derived.Test.YtofhpahihneipaaGreatDoorGo
import Derived.Test.YtofhpahihneipaaGreatDoorQMachOpenOp
set_option linter.unusedVariables false
set_option linter.unusedSimpArgs false
set_option warningAsError false
set_option maxHeartbeats 4000000
open Go.Lib (hid)
open Go.Proofs.Tryz (prog)
namespace Go.Proofs.YtofhpahihneipaaGreatDoor.encodeBack
open Go.RowKit Go.Instr Go.Sort Go.Lib
set_option maxRecDepth 100000
theorem walk {H : Type} {enc : TypeId × Value -> H} {W : World} {base : Nat} (v0 v1 : Value) (a2 : Int) {d0 d1 : DataW H} {p0 p1 : List MemPlace} (ok0 : Value.okWide prog W .any base 27 v0) (h0 : DataW.Trod enc prog W 0 (fun _ => true) true 27 v0 d0 p0)
 (ok1 : Value.okWide prog W .any base 30 v1) (h1 : DataW.Trod enc prog W 0 (fun _ => true) true 30 v1 d1 p1)
 (w2 : (Lit.int .u64 a2).wf = true)
 (hL : laidMetH prog Rows.encodeBackRow.laid W) :
 Calls prog 3 #[v0, v1, .int .u64 a2] W fun e w' => e = .returned (.bool true) /\ Below W.heap.size W w' := by
 obtain ⟨m, hm⟩ := z8f ok0 h0;obtain ⟨z1, s1, av, rfl, hz1, hA⟩ := zd9 ok1 h1;obtain ⟨wd, rfl, hwd⟩ := zgv w2;have hT := zr2 W hL;clear ok0 h0 ok1 h1 w2 hL;have hm' := hm;obtain ⟨cs0, rfl, sr, sb, su, si, hcs, h1, h2, h3, hR, hB, hU, hI⟩ := hm;obtain rfl : cs0 = #[.string m.name, .int .i64 m.word, .int .i64 m.address, sr, sb, su, si] := by cases cs0; simp_all
 have hmt := mtch_lt hI;obtain ⟨Aa, ca, rfl, _⟩ := id hA;obtain ⟨la, hla⟩ : ∃ y, av.length = y := ⟨_, rfl⟩;rw [hla] at hA ⊢;obtain ⟨W1, hW1⟩ : ∃ W1, W1 = (W.alloc (.cells #[.string m.name, .int .i64 m.word, .int .i64 m.address, sr, sb, su, si] 27)).alloc (.cells #[.int .i64 z1, .slice Aa la ca] 30) := ⟨_, rfl⟩;have ha1 : Below W.heap.size W (W.alloc (.cells #[.string m.name, .int .i64 m.word, .int .i64 m.address, sr, sb, su, si] 27)) := (Below.refl _ _).alloc (Nat.le_refl _) _;have hb1 : Below W.heap.size W W1 := by rw [hW1]; exact ha1.alloc (by simp) _
 have hl1 : W1.heap.size = W.heap.size + 2 := by rw [hW1]; simp
 have hk0 : W1.heap[W.heap.size]? = some (.cells #[.string m.name, .int .i64 m.word, .int .i64 m.address, sr, sb, su, si] 27) := by rw [hW1];exact (((Below.refl _ _).alloc (Nat.le_refl _) _).block _ (by simp)).trans (heap_alloc_new _ _)
 have hk1 : W1.heap[W.heap.size + 1]? = some (.cells #[.int .i64 z1, .slice Aa la ca] 30) := by rw [hW1];have := heap_alloc_new (W.alloc (.cells #[.string m.name, .int .i64 m.word, .int .i64 m.address, sr, sb, su, si] 27)) (.cells #[.int .i64 z1, .slice Aa la ca] 30);simpa using this
 have HQ := hid (show ∀ X, Below W1.heap.size W1 X -> (X.cell? ⟨W.heap.size, 0, none⟩ = some (.string m.name) /\ X.cell? ⟨W.heap.size, 1, none⟩ = some (.int .i64 m.word) /\ X.cell? ⟨W.heap.size, 2, none⟩ = some (.int .i64 m.address) /\ X.cell? ⟨W.heap.size, 3, none⟩ = some sr /\ X.cell? ⟨W.heap.size, 4, none⟩ = some sb /\ X.cell? ⟨W.heap.size, 5, none⟩ = some su /\ X.cell? ⟨W.heap.size, 6, none⟩ = some si) /\ X.cell? ⟨W.heap.size + 1, 0, none⟩ = some (.int .i64 z1) /\ X.cell? ⟨W.heap.size + 1, 1, none⟩ = some (.slice Aa la ca) from fun X hX => by have e0 := (hX.block _ (by omega)).trans hk0;have e1 := (hX.block _ (by omega)).trans hk1;exact ⟨⟨zb e0 rfl, zb e0 rfl, zb e0 rfl, zb e0 rfl, zb e0 rfl, zb e0 rfl, zb e0 rfl⟩, zb e1 rfl, zb e1 rfl⟩)
 have HGR := hid (show ∀ X, Below W1.heap.size W1 X -> Below W.heap.size W X from fun X hX => hb1.trans (hX.mono hb1.size));have HW1 := hid hW1;have hMV : ∀ X, Below W1.heap.size W1 X -> z1j X (.agg #[.string m.name, .int .i64 m.word, .int .i64 m.address, sr, sb, su, si]) m := fun X hX => hm'.kept (HGR.out X hX);have hTX : ∀ X, Below W1.heap.size W1 X -> zm X := fun X hX => hT.below (HGR.out X hX);have hAX : ∀ X, Below W1.heap.size W1 X -> zd 1 intE X (.slice Aa la ca) av := fun X hX => hA.kept (fun cs x hx => intE.kept hx (HGR.out X hX)) (HGR.out X hX);have HAL := hid (z6h W1 (hTX _ (Below.refl _ _)));have HGT := hid (show ∀ X, Below W1.heap.size W1 X -> Calls prog 7 #[.agg #[.string m.name, .int .i64 m.word, .int .i64 m.address, sr, sb, su, si]] X fun e w' => GrE m e /\ Below W1.heap.size W1 w' from fun X hX => (z82 X _ m (hMV X hX)).mono fun e w' ⟨g1, g2⟩ => ⟨g1, hX.trans (g2.mono hX.size)⟩);rw [hW1] at HAL;obtain ⟨e1, he1⟩ : ∃ y, z32 m z1 av = y := ⟨_, rfl⟩;obtain ⟨x1, hx1⟩ : ∃ y, encR m z1 av = y := ⟨_, rfl⟩;obtain ⟨n1, hn1⟩ : ∃ y, (ownL m x1).length = y := ⟨_, rfl⟩;obtain ⟨f1, hf1⟩ : ∃ y, z1a m x1 = y := ⟨_, rfl⟩;obtain ⟨zz, hzz⟩ : ∃ y : Int, (decZ m x1 : Int) = y := ⟨_, rfl⟩;obtain ⟨f2, hf2⟩ : ∃ y, z1a m wd = y := ⟨_, rfl⟩;obtain ⟨z2, hz2⟩ : ∃ y : Int, (decZ m wd : Int) = y := ⟨_, rfl⟩;obtain ⟨l2, hl2⟩ : ∃ y, (decA m wd).length = y := ⟨_, rfl⟩;have hone : e1 = 0 -> z57 m z1 x1 = 0 /\ legB m z1 x1 = true /\ z1i m x1 = 0 /\ x1 < 18446744073709551616 /\ ((n1 = 1 /\ f1 = 0 /\ zz = z1 /\ decA m x1 = av) ∨ (2 <= n1 /\ f1 = 18)) := fun h => by have := zi8 hmt (he1.trans h);rw [hx1, hn1, hf1, hzz] at this;exact this
 have htwo : f2 = 0 -> z32 m z2 (decA m wd) = 0 /\ encR m z2 (decA m wd) = wd /\ (-9223372036854775808 <= z2 /\ z2 <= 9223372036854775807) := fun h => by have := zi9 hmt (hf2.trans h);rw [hz2] at this;exact ⟨this.1, this.2.1, by omega, this.2.2⟩
 have htwo' : f2 ≠ 0 -> z2 = 0 /\ l2 = 0 := fun h => by
  constructor
  ·rw [<- hz2]; unfold decZ; rw [if_neg (by rw [hf2]; exact h)]; rfl
  ·rw [<- hl2]; unfold decA; rw [if_neg (by rw [hf2]; exact h)]; rfl
 have HE1 := hid (show MachSmall m -> ∀ X, Below W1.heap.size W1 X -> Calls prog 8 #[.agg #[.string m.name, .int .i64 m.word, .int .i64 m.address, sr, sb, su, si], .agg #[.int .i64 z1, .slice Aa la ca]] X fun e w' => e = .returned (.tuple #[.int .u64 (x1 : Nat), .int .i64 e1]) /\ Below W1.heap.size W1 w' from fun hs X hX => by have h := z3k X _ m (hMV X hX) (hTX X hX) hs.effs z1 hz1 _ av (hAX X hX);rw [he1, hx1] at h;exact h.mono fun e w' ⟨g1, g2⟩ => ⟨g1, hX.trans (g2.mono hX.size)⟩)
 have HLG := hid (show e1 = 0 -> MachSmall m -> ∀ X, Below W1.heap.size W1 X -> Calls prog 9 #[.agg #[.string m.name, .int .i64 m.word, .int .i64 m.address, sr, sb, su, si], .int .i64 z1, .int .u64 (x1 : Nat)] X fun e w' => e = .returned (.tuple #[.bool true, .int .i64 0]) /\ Below W1.heap.size W1 w' from fun he hs X hX => by obtain ⟨k1, k2, _, k4, _⟩ := hone he;have h := legal_any X _ m (hMV X hX) (hTX X hX) hs.effs z1 hz1 x1 k4;rw [k1, k2] at h;exact h.mono fun e w' ⟨g1, g2⟩ => ⟨g1, hX.trans (g2.mono hX.size)⟩)
 have HOW := hid (show e1 = 0 -> MachSmall m -> ∀ X, Below W1.heap.size W1 X -> Calls prog 10 #[.agg #[.string m.name, .int .i64 m.word, .int .i64 m.address, sr, sb, su, si], .int .u64 (x1 : Nat)] X fun e w' => ∃ A c, e = .returned (.tuple #[.slice A n1 c, .int .i64 0]) /\ Below W1.heap.size W1 w' from fun he hs X hX => by obtain ⟨_, _, k3, k4, _⟩ := hone he;refine (z8i X _ m (hMV X hX) (hTX X hX) hs.effs x1 k4).mono fun e w' ⟨sv, g1, g2, g3⟩ => ?_;obtain ⟨A, c, rfl, _⟩ := id g2;rw [List.length_map, hn1, k3] at g1;exact ⟨A, c, g1, hX.trans (g3.mono hX.size)⟩)
 have HD1 := hid (show e1 = 0 -> MachSmall m -> ∀ X, Below W1.heap.size W1 X -> Calls prog 11 #[.agg #[.string m.name, .int .i64 m.word, .int .i64 m.address, sr, sb, su, si], .int .u64 (x1 : Nat)] X fun e w' => ∃ A l c, e = .returned (.tuple #[.agg #[.int .i64 zz, .slice A l c], .int .i64 f1]) /\ Hid (f1 = 0 -> zd 1 intE (w'.alloc (.cells #[.int .i64 zz, .slice A l c] 30)) (.slice A l c) av) /\ Below W1.heap.size W1 (w'.alloc (.cells #[.int .i64 zz, .slice A l c] 30)) from fun he hs X hX => by
  obtain ⟨_, _, _, k4, k5⟩ := hone he;refine (z5q X _ m (hMV X hX) (hTX X hX) hs.effs x1 k4).mono fun e w' ⟨sv, g1, g2, g3⟩ => ?_;obtain ⟨A, c, rfl, _⟩ := id g2;rw [hzz, hf1] at g1;have hb := (Below.refl w'.heap.size w').alloc (Nat.le_refl _) (.cells #[.int .i64 zz, .slice A (decA m x1).length c] 30);refine ⟨A, _, c, g1, hid fun hf => ?_, (hX.trans (g3.mono hX.size)).trans (hb.mono (Nat.le_trans hX.size g3.size))⟩;rcases k5 with ⟨_, _, _, k6⟩ | ⟨_, k6⟩
  ·have h9 := g2.kept (fun cs x hx => intE.kept hx hb) hb;rw [k6] at h9 ⊢;exact h9
  ·omega)
 have HSO := hid (show zz = z1 -> la <= 20 -> ∀ X A l c, Below W1.heap.size W1 X -> zd 1 intE X (.slice A l c) av -> Calls prog 12 #[.agg #[.int .i64 zz, .slice A l c], .agg #[.int .i64 z1, .slice Aa la ca]] X fun e w' => e = .returned (.bool true) /\ Below W1.heap.size W1 w' from fun hz q1 X A l c hX hr => by have h := z8l X zz z1 _ _ av av hr (hAX X hX) (by omega) (by omega);rw [decide_eq_true hz] at h;simp only [decide_true, Bool.and_true] at h;exact h.mono fun e w' ⟨g1, g2⟩ => ⟨g1, hX.trans (g2.mono hX.size)⟩)
 have HD2 := hid (show MachSmall m -> ∀ X, Below W1.heap.size W1 X -> Calls prog 11 #[.agg #[.string m.name, .int .i64 m.word, .int .i64 m.address, sr, sb, su, si], .int .u64 (wd : Nat)] X fun e w' => ∃ A c, e = .returned (.tuple #[.agg #[.int .i64 z2, .slice A l2 c], .int .i64 f2]) /\ Hid (∀ Y, Below w'.heap.size w' Y -> zd 1 intE Y (.slice A l2 c) (decA m wd)) /\ Below W1.heap.size W1 (w'.alloc (.cells #[.int .i64 z2, .slice A l2 c] 30)) /\ Hid (w'.heap.size < (w'.alloc (.cells #[.int .i64 z2, .slice A l2 c] 30)).heap.size) from fun hs X hX => by refine (z5q X _ m (hMV X hX) (hTX X hX) hs.effs wd hwd).mono fun e w' ⟨sv, g1, g2, g3⟩ => ?_;obtain ⟨A, c, rfl, _⟩ := id g2;rw [hz2, hf2, hl2] at g1;rw [hl2] at g2;have hb := (Below.refl w'.heap.size w').alloc (Nat.le_refl _) (.cells #[.int .i64 z2, .slice A l2 c] 30);exact ⟨A, c, g1, hid fun Y hY => g2.kept (fun cs x hx => intE.kept hx hY) hY, (hX.trans (g3.mono hX.size)).trans (hb.mono (Nat.le_trans hX.size g3.size)), hid (by simp)⟩)
 have HE3 := hid (show f2 = 0 -> MachSmall m -> ∀ X A c, Below W1.heap.size W1 X -> zd 1 intE X (.slice A l2 c) (decA m wd) -> Calls prog 8 #[.agg #[.string m.name, .int .i64 m.word, .int .i64 m.address, sr, sb, su, si], .agg #[.int .i64 z2, .slice A l2 c]] X fun e w' => e = .returned (.tuple #[.int .u64 (wd : Nat), .int .i64 0]) /\ Below W1.heap.size W1 w' /\ Below X.heap.size X w' from fun hf hs X A c hX hr => by obtain ⟨k1, k2, k3⟩ := htwo hf;have h := z3k X _ m (hMV X hX) (hTX X hX) hs.effs z2 k3 _ _ hr;rw [k1, k2] at h;exact h.mono fun e w' ⟨g1, g2⟩ => ⟨g1, hX.trans (g2.mono hX.size), g2⟩)
 have HCO := hid (show f2 = 0 -> MachSmall m -> ∀ X A c, Below W1.heap.size W1 X -> zd 1 intE X (.slice A l2 c) (decA m wd) -> Calls prog 13 #[.agg #[.string m.name, .int .i64 m.word, .int .i64 m.address, sr, sb, su, si], .agg #[.int .i64 z2, .slice A l2 c]] X fun e w' => e = .returned (.int .i64 0) /\ Below W1.heap.size W1 w' from fun hf hs X A c hX hr => by obtain ⟨k1, _, k3⟩ := htwo hf;have h := z9q X _ m (hMV X hX) (hTX X hX) hs.effs z2 k3 _ _ hr;rw [k1] at h;exact h.mono fun e w' ⟨g1, g2⟩ => ⟨g1, hX.trans (g2.mono hX.size)⟩)
 have hc1 : e1 ≠ 0 ∨ (e1 = 0 /\ n1 = 1 /\ f1 = 0 /\ zz = z1) ∨ (e1 = 0 /\ 2 <= n1 /\ f1 = 18) := by
  by_cases h : e1 = 0
  ·obtain ⟨_, _, _, _, ⟨k1, k2, k3, _⟩ | ⟨k1, k2⟩⟩ := hone h
   ·exact .inr (.inl ⟨h, k1, k2, k3⟩)
   ·exact .inr (.inr ⟨h, k1, k2⟩)
  ·exact .inl h
 have hc2 : (f2 ≠ 0 /\ z2 = 0 /\ l2 = 0) ∨ f2 = 0 := by
  by_cases h : f2 = 0
  ·exact .inr h
  ·exact .inl ⟨h, htwo' h⟩
 clear hcs h1 h2 h3 hR hB hU hI hm' hT hTX hMV hAX hA hW1 hb1 hl1 hk0 hk1 ha1 hz1 hmt he1 hx1 hn1 hf1 hzz hf2 hz2 hl2 hla hone htwo htwo' hwd;rcases hc1 with q1 | ⟨rfl, rfl, rfl, rfl⟩ | ⟨rfl, q2, rfl⟩
 all_goals
  rcases hc2 with ⟨q3, rfl, rfl⟩ | rfl
 all_goals
  try have ga : (e1 == 0) = false := by simp [q1]
  try have gb : ((n1 : Int) == 1) = false := by simp; omega
  try have gc : ¬ (n1 : Int) < 1 := by omega
  try have gd : (f2 != 0) = true := by simp [q3]
  try clear q1
  try clear q2
  try clear q3
  have HZ := hid (Nat.le_refl 0)
 all_goals
  go_enter Tryz.func3, Tryz.ntmps3
  go_wp2_with (first
   | (go_at_call 6; (with_reducible refine HAL.out.mono ?_); rintro e w3 ⟨rfl, hb3⟩; rw [<- HW1.out] at hb3; obtain ⟨⟨p0, p1, p2, p3, p4, p5, p6⟩, p7, p8⟩ := HQ.out _ hb3)
   | (go_at_call 7; (with_reducible refine (HGT.out _ hb3).mono ?_); rintro e w4 ⟨⟨g, rfl, hg⟩, hb4⟩; have HG := hid hg; clear hg; obtain ⟨⟨q0, q1, q2, q3, q4, q5, q6⟩, q7, q8⟩ := HQ.out _ hb4)
   | (go_at_call 8; (with_reducible refine (HE1.out (HG.out (by first | assumption | simp_all)) _ hb4).mono ?_); rintro e w5 ⟨rfl, hb5⟩; obtain ⟨⟨r0, r1, r2, r3, r4, r5, r6⟩, r7, r8⟩ := HQ.out _ hb5)
   | (go_at_call 9; (with_reducible refine (HLG.out (by trivial) (HG.out (by first | assumption | simp_all)) _ hb5).mono ?_); rintro e w6 ⟨rfl, hb6⟩; obtain ⟨⟨s0, s1, s2, s3, s4, s5, s6⟩, s7, s8⟩ := HQ.out _ hb6)
   | (go_at_call 10; (with_reducible refine (HOW.out (by trivial) (HG.out (by first | assumption | simp_all)) _ hb6).mono ?_); rintro e w7 ⟨A7, c7, rfl, hb7⟩; obtain ⟨⟨t0, t1, t2, t3, t4, t5, t6⟩, t7, t8⟩ := HQ.out _ hb7)
   | (go_at_call 11; (with_reducible refine (HD1.out (by trivial) (HG.out (by first | assumption | simp_all)) _ hb7).mono ?_); rintro e w8 ⟨A8, l8, c8, rfl, hr8, hb8⟩; obtain ⟨⟨u0, u1, u2, u3, u4, u5, u6⟩, u7, u8⟩ := HQ.out _ hb8)
   | (go_at_call 12; (with_reducible refine (HSO.out (by trivial) (by omega) _ _ _ _ hb8 (hr8.out (by trivial))).mono ?_); rintro e w9 ⟨rfl, hb9⟩; obtain ⟨⟨v0, v1, v2, v3, v4, v5, v6⟩, v7, v8⟩ := HQ.out _ hb9)
   | (go_at_call 11; (with_reducible refine (HD2.out (HG.out (by first | assumption | simp_all)) _ (by assumption)).mono ?_); rintro e w10 ⟨A10, c10, rfl, hr10, hb10, hs10⟩; obtain ⟨⟨x0, x1, x2, x3, x4, x5, x6⟩, x7, x8⟩ := HQ.out _ hb10)
   | (go_at_call 8; (with_reducible refine (HE3.out (by trivial) (HG.out (by first | assumption | simp_all)) _ _ _ hb10 (hr10.out _ ((Below.refl _ _).alloc (Nat.le_refl _) _))).mono ?_); rintro e w11 ⟨rfl, hb11, hb1011⟩; obtain ⟨⟨y0, y1, y2, y3, y4, y5, y6⟩, y7, y8⟩ := HQ.out _ hb11; have hbf := ((Below.refl w10.heap.size w10).alloc (Nat.le_refl _) (.cells #[.int .i64 z2, .slice A10 l2 c10] 30)).trans (hb1011.mono (Nat.le_of_lt hs10.out)); have k0 := (hb1011.cell (p := ⟨w10.heap.size, 0, none⟩) hs10.out).trans (zb (heap_alloc_new w10 (.cells #[.int .i64 z2, .slice A10 l2 c10] 30)) (i := 0) rfl); have k1 := (hb1011.cell (p := ⟨w10.heap.size, 1, none⟩) hs10.out).trans (zb (heap_alloc_new w10 (.cells #[.int .i64 z2, .slice A10 l2 c10] 30)) (i := 1) rfl))
   | (go_at_call 13; (with_reducible refine (HCO.out (by trivial) (HG.out (by first | assumption | simp_all)) _ _ _ hb11 (hr10.out _ hbf)).mono ?_); rintro e w12 ⟨rfl, hb12⟩))
 all_goals exact bodyPost_ret (v := .bool true) (by simp [results, Tryz.results3, go_sem]) rfl ⟨rfl, HGR.out _ (by assumption)⟩
end Go.Proofs.YtofhpahihneipaaGreatDoor.encodeBack
