import Derived.Test.YtjjfeddenhemhaaGreatDoorPg
import Derived.Test.YtjjfeddenhemhaaGreatDoorQTwiceLaid
import Derived.Test.YtjjfeddenhemhaaGreatDoorQTwiceMath
import Derived.Test.YtjjfeddenhemhaaGreatDoorPe
import Derived.Test.YtjjfeddenhemhaaGreatDoorGo
namespace Go.Proofs.YtjjfeddenhemhaaGreatDoor.machineTwice
open Go.RowKit Go.Instr Go.Sort Go.Lib
set_option linter.unusedVariables false
set_option linter.unusedSimpArgs false
set_option maxRecDepth 100000
set_option warningAsError false in
set_option maxHeartbeats 8000000 in
theorem walk {H : Type} {enc : TypeId × Value → H} {W : World} {base : Nat} (v0 v1 : Value) (a2 a3 a4 a5 : Int) {d0 d1 : DataW H} {p0 p1 : List MemPlace} (ok0 : Value.okWide Tryz.prog W .any base 27 v0) (h0 : DataW.Trod enc Tryz.prog W 0 (fun _ => true) true 27 v0 d0 p0)
 (ok1 : Value.okWide Tryz.prog W .any base 38 v1) (h1 : DataW.Trod enc Tryz.prog W 0 (fun _ => true) true 38 v1 d1 p1)
 (w2 : (Lit.int .i64 a2).wf = true) (w3 : (Lit.int .i64 a3).wf = true) (w4 : (Lit.int .u64 a4).wf = true) (w5 : (Lit.int .u64 a5).wf = true) (hL : laidMetH Tryz.prog Rows.machineTwiceRow.laid W) :
 Calls Tryz.prog 5 #[v0, v1, .int .i64 a2, .int .i64 a3, .int .u64 a4, .int .u64 a5] W fun e w' => e = .returned (.bool true) ∧ Below W.heap.size W w' := by
 obtain ⟨m, hm⟩ := z81 ok0 h0
 obtain ⟨V, hV⟩ := zfv ok1 h1
 have hz2 := z99 w2
 have hz3 := z99 w3
 obtain ⟨x, rfl, hx⟩ := z6s w4
 obtain ⟨y, rfl, hy⟩ := z6s w5
 have hT := zr9 W hL
 clear ok0 h0 ok1 h1 w2 w3 w4 w5 hL
 have hm' := hm
 obtain ⟨cs0, rfl, sr, sb, su, si, hcs, h1, h2, h3, hR, hB, hU, hI⟩ := hm
 obtain rfl : cs0 = #[.string m.name, .int .i64 m.word, .int .i64 m.address, sr, sb, su, si] := by cases cs0; simp_all
 obtain ⟨AV, cV, rfl, _⟩ := id hV
 obtain ⟨lv, hlv⟩ : ∃ z, V.length = z := ⟨_, rfl⟩
 rw [hlv] at hV ⊢
 obtain ⟨W1, hW1⟩ : ∃ W1, W1 = W.alloc (.cells #[.string m.name, .int .i64 m.word, .int .i64 m.address, sr, sb, su, si] 27) := ⟨_, rfl⟩
 have hb1 : Below W.heap.size W W1 := by rw [hW1]; exact (Below.refl _ _).alloc (Nat.le_refl _) _
 have hl1 : W.heap.size < W1.heap.size := by rw [hW1]; simp
 have hblk1 : W1.heap[W.heap.size]? = some (.cells #[.string m.name, .int .i64 m.word, .int .i64 m.address, sr, sb, su, si] 27) := by rw [hW1]; exact heap_alloc_new _ _
 have HQ := Lib.hid (show ∀ X, Below W1.heap.size W1 X → X.cell? ⟨W.heap.size, 0, none⟩ = some (.string m.name) ∧ X.cell? ⟨W.heap.size, 1, none⟩ = some (.int .i64 m.word) ∧ X.cell? ⟨W.heap.size, 2, none⟩ = some (.int .i64 m.address) ∧ X.cell? ⟨W.heap.size, 3, none⟩ = some sr ∧ X.cell? ⟨W.heap.size, 4, none⟩ = some sb ∧ X.cell? ⟨W.heap.size, 5, none⟩ = some su ∧ X.cell? ⟨W.heap.size, 6, none⟩ = some si from fun X hX => by
  have e1 := (hX.block _ hl1).trans hblk1
  exact ⟨zb e1 rfl, zb e1 rfl, zb e1 rfl, zb e1 rfl, zb e1 rfl, zb e1 rfl, zb e1 rfl⟩)
 have HGR := Lib.hid (show ∀ X, Below W1.heap.size W1 X → Below W.heap.size W X from fun X hX => hb1.trans (hX.mono hb1.size))
 have HW1 := Lib.hid hW1
 have hMV : ∀ X, Below W1.heap.size W1 X → zu X (.agg #[.string m.name, .int .i64 m.word, .int .i64 m.address, sr, sb, su, si]) m := fun X hX => hm'.kept (HGR.out X hX)
 have hTX : ∀ X, Below W1.heap.size W1 X → zh X := fun X hX => hT.below (HGR.out X hX)
 have hVX : ∀ X, Below W1.heap.size W1 X → zd 1 u64E X (.slice AV lv cV) V := fun X hX => hV.kept (fun cs x hx => u64E.kept hx (HGR.out X hX)) (HGR.out X hX)
 have HVX := Lib.hid hVX
 have HLV := Lib.hid hlv
 have HAL := Lib.hid (z65 W1 (hTX _ (Below.refl _ _)))
 have HGT := Lib.hid (show ∀ X, Below W1.heap.size W1 X → Calls Tryz.prog 8 #[.agg #[.string m.name, .int .i64 m.word, .int .i64 m.address, sr, sb, su, si]] X fun e w' => GrE m e ∧ Below W1.heap.size W1 w' from fun X hX => (z7p X _ m (hMV X hX)).mono fun e w' ⟨g1, g2⟩ => ⟨g1, hX.trans (g2.mono hX.size)⟩)
 rw [hW1] at HAL
 obtain ⟨ve, hve⟩ : ∃ z, z1x m V a2 = z := ⟨_, rfl⟩
 obtain ⟨was, hwas⟩ : ∃ z, z2i m V a2 = z := ⟨_, rfl⟩
 have HRD := Lib.hid (show MachSmall m → ∀ X, Below W1.heap.size W1 X → Calls Tryz.prog 13 #[.agg #[.string m.name, .int .i64 m.word, .int .i64 m.address, sr, sb, su, si], .slice AV lv cV, .int .i64 a2] X fun e w' => e = .returned (.tuple #[.int .u64 (was : Nat), .int .i64 ve]) ∧ Below W1.heap.size W1 w' from fun hs X hX => by
  have h := z4h X _ m (hMV X hX) (hTX X hX) hs.effs _ V (hVX X hX) a2 hz2
  rw [hwas, hve] at h
  exact h.mono fun e w' ⟨g1, g2⟩ => ⟨g1, hX.trans (g2.mono hX.size)⟩)
 have hwr : MachSmall m → ∀ (s : Value) (K : List Nat) (z : Int) (t : Nat) (er : Int) (L : List Nat), z29 m K z t = er → wrL m K z t = L → (-9223372036854775808 ≤ z ∧ z ≤ 9223372036854775807) → t < 18446744073709551616 → ∀ X, Below W1.heap.size W1 X → zd 1 u64E X s K → Calls Tryz.prog 12 #[.agg #[.string m.name, .int .i64 m.word, .int .i64 m.address, sr, sb, su, si], s, .int .i64 z, .int .u64 (t : Nat)] X fun e w' => ∃ A l c, e = .returned (.tuple #[.slice A l c, .int .i64 er]) ∧ zd 1 u64E w' (.slice A l c) L ∧ Below X.heap.size X w' := fun hs s K z t er L e1 e2 hz ht X hX hK => (z7g X _ m (hMV X hX) (hTX X hX) hs.effs s K hK z hz t ht).mono fun e w' ⟨v', g1, g2, g3⟩ => by
  rw [e2] at g2
  rw [e1] at g1
  obtain ⟨A, c, rfl, _⟩ := id g2
  exact ⟨A, _, c, g1, g2, g3⟩
 by_cases h0 : ve = 0
 ·subst h0
  have hwl : was < 18446744073709551616 := by
   obtain ⟨hc, ⟨ha0, ha1⟩, hE⟩ := z3d hve
   obtain ⟨i, rfl⟩ : ∃ i : Nat, a2 = (i : Int) := ⟨a2.toNat, by omega⟩
   obtain ⟨r, hr⟩ : ∃ r, m.regs[i]? = some r := ⟨_, List.getElem?_eq_getElem (by omega)⟩
   obtain ⟨p, l, w, Wd, e1, e2, e3, e4, e5, e6, e7, e8⟩ := zke hc hr
   rw [← hwas, z84 hc hE hr e1 e2 e3]
   exact pow64 (Nat.mod_lt _ (Nat.two_pow_pos w)) (by omega)
  obtain ⟨t1, t2⟩ := zn4 hve
  rw [hwas] at t1 t2
  have HWA := Lib.hid (show MachSmall m → ∀ X, Below W1.heap.size W1 X → Calls Tryz.prog 12 #[.agg #[.string m.name, .int .i64 m.word, .int .i64 m.address, sr, sb, su, si], .slice AV lv cV, .int .i64 a2, .int .u64 (was : Nat)] X fun e w' => ∃ A l c, e = .returned (.tuple #[.slice A l c, .int .i64 0]) ∧ zd 1 u64E w' (.slice A l c) V ∧ Below X.heap.size X w' from fun hs X hX => hwr hs _ V a2 was 0 V t1 t2 hz2 hwl X hX (hVX X hX))
  obtain ⟨ge, hge⟩ : ∃ z, z29 m V a2 x = z := ⟨_, rfl⟩
  obtain ⟨he, hhe⟩ : ∃ z, z29 m V a3 y = z := ⟨_, rfl⟩
  obtain ⟨L1, hL1⟩ : ∃ z, wrL m V a2 x = z := ⟨_, rfl⟩
  obtain ⟨L2, hL2⟩ : ∃ z, wrL m V a3 y = z := ⟨_, rfl⟩
  have HWB := Lib.hid (show MachSmall m → ∀ X, Below W1.heap.size W1 X → Calls Tryz.prog 12 #[.agg #[.string m.name, .int .i64 m.word, .int .i64 m.address, sr, sb, su, si], .slice AV lv cV, .int .i64 a2, .int .u64 (x : Nat)] X fun e w' => ∃ A l c, e = .returned (.tuple #[.slice A l c, .int .i64 ge]) ∧ zd 1 u64E w' (.slice A l c) L1 ∧ Below X.heap.size X w' from fun hs X hX => hwr hs _ V a2 x ge L1 hge hL1 hz2 hx X hX (hVX X hX))
  have HWC := Lib.hid (show MachSmall m → ∀ X, Below W1.heap.size W1 X → Calls Tryz.prog 12 #[.agg #[.string m.name, .int .i64 m.word, .int .i64 m.address, sr, sb, su, si], .slice AV lv cV, .int .i64 a3, .int .u64 (y : Nat)] X fun e w' => ∃ A l c, e = .returned (.tuple #[.slice A l c, .int .i64 he]) ∧ zd 1 u64E w' (.slice A l c) L2 ∧ Below X.heap.size X w' from fun hs X hX => hwr hs _ V a3 y he L2 hhe hL2 hz3 hy X hX (hVX X hX))
  by_cases h1g : ge = 0
  ·subst h1g
   obtain ⟨t3, t4⟩ := zjf hge
   rw [hL1, hwas] at t3 t4
   have HWD := Lib.hid (show MachSmall m → ∀ X, Below W1.heap.size W1 X → ∀ {s : Value}, zd 1 u64E X s L1 → Calls Tryz.prog 12 #[.agg #[.string m.name, .int .i64 m.word, .int .i64 m.address, sr, sb, su, si], s, .int .i64 a2, .int .u64 (was : Nat)] X fun e w' => ∃ A l c, e = .returned (.tuple #[.slice A l c, .int .i64 0]) ∧ zd 1 u64E w' (.slice A l c) V ∧ Below X.heap.size X w' from fun hs X hX s hK => hwr hs _ L1 a2 was 0 V t3 t4 hz2 hwl X hX hK)
   obtain ⟨ie, hie⟩ : ∃ z, zz m [a2, a3] = z := ⟨_, rfl⟩
   obtain ⟨ov, hov⟩ : ∃ z, ovB m a2 a3 = z := ⟨_, rfl⟩
   have HOV := Lib.hid (show MachSmall m → ∀ X, Below W1.heap.size W1 X → Calls Tryz.prog 9 #[.agg #[.string m.name, .int .i64 m.word, .int .i64 m.address, sr, sb, su, si], .int .i64 a2, .int .i64 a3] X fun e w' => e = .returned (.tuple #[.bool ov, .int .i64 ie]) ∧ Below X.heap.size X w' from fun hs X hX => by
    have h := z2o X _ m (hMV X hX) (hTX X hX) hs.effs a2 a3 hz2 hz3
    rw [hov, hie] at h
    exact h)
   by_cases h2h : he = 0
   ·subst h2h
    obtain ⟨t5, t6⟩ := zn5 hge hhe
    obtain rfl : ie = 0 := by rw [← hie]; exact t5
    rw [hov, hL1, hL2] at t6
    cases ov with
    | true =>
      clear hcs h1 h2 h3 hR hB hU hI hm' hT hTX hMV hVX hV hW1 hb1 hl1 hblk1 hz2 hz3 hx hy hlv hve hwas hwr hwl t1 t2 hge hhe hL1 hL2 hie hov t6 t5 t4 t3
      go_enter Tryz.func5, Tryz.ntmps5
      go_wp2_with (first
       | (go_at_call 7; (with_reducible refine HAL.out.mono ?_); rintro e w3 ⟨rfl, hb3⟩; rw [← HW1.out] at hb3; obtain ⟨q0, q1, q2, q3, q4, q5, q6⟩ := HQ.out _ hb3)
       | (go_at_call 8; (with_reducible refine (HGT.out _ hb3).mono ?_); rintro e w4 ⟨⟨g, rfl, hg⟩, hb4⟩; have HG := Lib.hid hg; clear hg; obtain ⟨q0, q1, q2, q3, q4, q5, q6⟩ := HQ.out _ hb4)
       | (go_at_call 13; (with_reducible refine (HRD.out (HG.out (by first | assumption | simp_all)) _ hb4).mono ?_); rintro e w5 ⟨rfl, hb5⟩; obtain ⟨q0, q1, q2, q3, q4, q5, q6⟩ := HQ.out _ hb5)
       | (go_at_call 12; (with_reducible refine (HWA.out (HG.out (by first | assumption | simp_all)) _ hb5).mono ?_); rintro e w6 ⟨A6, l6, c6, rfl, hsame, hk6⟩; have hb6 := hb5.trans (hk6.mono hb5.size); obtain ⟨q0, q1, q2, q3, q4, q5, q6⟩ := HQ.out _ hb6)
       | (go_at_call 15; (with_reducible refine (z1h _ _ _ V hsame (HVX.out _ hb6) (by have := HLV.out; omega)).mono ?_); rintro e w7 ⟨rfl, hk7⟩; have hb7 := hb6.trans (hk7.mono hb6.size); obtain ⟨q0, q1, q2, q3, q4, q5, q6⟩ := HQ.out _ hb7)
       | (go_at_call 12; (with_reducible refine (HWB.out (HG.out (by first | assumption | simp_all)) _ hb7).mono ?_); rintro e w8 ⟨A8, l8, c8, rfl, hone, hk8⟩; have hb8 := hb7.trans (hk8.mono hb7.size); obtain ⟨q0, q1, q2, q3, q4, q5, q6⟩ := HQ.out _ hb8)
       | (go_at_call 12; (with_reducible refine (HWC.out (HG.out (by first | assumption | simp_all)) _ hb8).mono ?_); rintro e w9 ⟨A9, l9, c9, rfl, htwo, hk9⟩; have hb9 := hb8.trans (hk9.mono hb8.size); have hone := hone.kept (fun cs x hx => u64E.kept hx hk9) hk9; obtain ⟨q0, q1, q2, q3, q4, q5, q6⟩ := HQ.out _ hb9)
       | (go_at_call 12; (with_reducible refine (HWD.out (HG.out (by first | assumption | simp_all)) _ hb9 hone).mono ?_); rintro e w10 ⟨A10, l10, c10, rfl, hagain, hk10⟩; have hb10 := hb9.trans (hk10.mono hb9.size); have hone := hone.kept (fun cs x hx => u64E.kept hx hk10) hk10; have htwo := htwo.kept (fun cs x hx => u64E.kept hx hk10) hk10; obtain ⟨q0, q1, q2, q3, q4, q5, q6⟩ := HQ.out _ hb10)
       | (go_at_call 15; (with_reducible refine (z1h _ _ _ V hagain (HVX.out _ hb10) (by have := HLV.out; omega)).mono ?_); rintro e w11 ⟨rfl, hk11⟩; have hb11 := hb10.trans (hk11.mono hb10.size); have hone := hone.kept (fun cs x hx => u64E.kept hx hk11) hk11; have htwo := htwo.kept (fun cs x hx => u64E.kept hx hk11) hk11; obtain ⟨q0, q1, q2, q3, q4, q5, q6⟩ := HQ.out _ hb11)
       | (go_at_call 9; (with_reducible refine (HOV.out (HG.out (by first | assumption | simp_all)) _ hb11).mono ?_); rintro e w12 ⟨rfl, hk12⟩; have hb12 := hb11.trans (hk12.mono hb11.size); have hone := hone.kept (fun cs x hx => u64E.kept hx hk12) hk12; have htwo := htwo.kept (fun cs x hx => u64E.kept hx hk12) hk12; obtain ⟨q0, q1, q2, q3, q4, q5, q6⟩ := HQ.out _ hb12))
      ·exact bodyPost_ret (v := .bool true) (by simp [results, Tryz.results5, go_sem]) rfl ⟨rfl, HGR.out _ hb4⟩
      ·exact bodyPost_ret (v := .bool true) (by simp [results, Tryz.results5, go_sem]) rfl ⟨rfl, HGR.out _ hb12⟩
      ·exact bodyPost_ret (v := .bool true) (by simp [results, Tryz.results5, go_sem]) rfl ⟨rfl, HGR.out _ hb4⟩
    | false =>
      obtain ⟨t7, t8, t9⟩ := t6 rfl
      obtain ⟨L3, hL3⟩ : ∃ z, wrL m L1 a3 y = z := ⟨_, rfl⟩
      rw [hL3] at t9
      have HL3 := Lib.hid (show L3.length = lv by rw [← hL3, zun t7, ← hL1, zun hge, hlv])
      have HWE := Lib.hid (show MachSmall m → ∀ X, Below W1.heap.size W1 X → ∀ {s : Value}, zd 1 u64E X s L1 → Calls Tryz.prog 12 #[.agg #[.string m.name, .int .i64 m.word, .int .i64 m.address, sr, sb, su, si], s, .int .i64 a3, .int .u64 (y : Nat)] X fun e w' => ∃ A l c, e = .returned (.tuple #[.slice A l c, .int .i64 0]) ∧ zd 1 u64E w' (.slice A l c) L3 ∧ Below X.heap.size X w' from fun hs X hX s hK => hwr hs _ L1 a3 y 0 L3 t7 hL3 hz3 hy X hX hK)
      have HWF := Lib.hid (show MachSmall m → ∀ X, Below W1.heap.size W1 X → ∀ {s : Value}, zd 1 u64E X s L2 → Calls Tryz.prog 12 #[.agg #[.string m.name, .int .i64 m.word, .int .i64 m.address, sr, sb, su, si], s, .int .i64 a2, .int .u64 (x : Nat)] X fun e w' => ∃ A l c, e = .returned (.tuple #[.slice A l c, .int .i64 0]) ∧ zd 1 u64E w' (.slice A l c) L3 ∧ Below X.heap.size X w' from fun hs X hX s hK => hwr hs _ L2 a2 x 0 L3 t8 t9.symm hz2 hx X hX hK)
      clear hcs h1 h2 h3 hR hB hU hI hm' hT hTX hMV hVX hV hW1 hb1 hl1 hblk1 hz2 hz3 hx hy hlv hve hwas hwr hwl t1 t2 hge hhe hL1 hL2 hie hov t9 t8 t7 hL3 t6 t5 t4 t3
      go_enter Tryz.func5, Tryz.ntmps5
      go_wp2_with (first
       | (go_at_call 7; (with_reducible refine HAL.out.mono ?_); rintro e w3 ⟨rfl, hb3⟩; rw [← HW1.out] at hb3; obtain ⟨q0, q1, q2, q3, q4, q5, q6⟩ := HQ.out _ hb3)
       | (go_at_call 8; (with_reducible refine (HGT.out _ hb3).mono ?_); rintro e w4 ⟨⟨g, rfl, hg⟩, hb4⟩; have HG := Lib.hid hg; clear hg; obtain ⟨q0, q1, q2, q3, q4, q5, q6⟩ := HQ.out _ hb4)
       | (go_at_call 13; (with_reducible refine (HRD.out (HG.out (by first | assumption | simp_all)) _ hb4).mono ?_); rintro e w5 ⟨rfl, hb5⟩; obtain ⟨q0, q1, q2, q3, q4, q5, q6⟩ := HQ.out _ hb5)
       | (go_at_call 12; (with_reducible refine (HWA.out (HG.out (by first | assumption | simp_all)) _ hb5).mono ?_); rintro e w6 ⟨A6, l6, c6, rfl, hsame, hk6⟩; have hb6 := hb5.trans (hk6.mono hb5.size); obtain ⟨q0, q1, q2, q3, q4, q5, q6⟩ := HQ.out _ hb6)
       | (go_at_call 15; (with_reducible refine (z1h _ _ _ V hsame (HVX.out _ hb6) (by have := HLV.out; omega)).mono ?_); rintro e w7 ⟨rfl, hk7⟩; have hb7 := hb6.trans (hk7.mono hb6.size); obtain ⟨q0, q1, q2, q3, q4, q5, q6⟩ := HQ.out _ hb7)
       | (go_at_call 12; (with_reducible refine (HWB.out (HG.out (by first | assumption | simp_all)) _ hb7).mono ?_); rintro e w8 ⟨A8, l8, c8, rfl, hone, hk8⟩; have hb8 := hb7.trans (hk8.mono hb7.size); obtain ⟨q0, q1, q2, q3, q4, q5, q6⟩ := HQ.out _ hb8)
       | (go_at_call 12; (with_reducible refine (HWC.out (HG.out (by first | assumption | simp_all)) _ hb8).mono ?_); rintro e w9 ⟨A9, l9, c9, rfl, htwo, hk9⟩; have hb9 := hb8.trans (hk9.mono hb8.size); have hone := hone.kept (fun cs x hx => u64E.kept hx hk9) hk9; obtain ⟨q0, q1, q2, q3, q4, q5, q6⟩ := HQ.out _ hb9)
       | (go_at_call 12; (with_reducible refine (HWD.out (HG.out (by first | assumption | simp_all)) _ hb9 hone).mono ?_); rintro e w10 ⟨A10, l10, c10, rfl, hagain, hk10⟩; have hb10 := hb9.trans (hk10.mono hb9.size); have hone := hone.kept (fun cs x hx => u64E.kept hx hk10) hk10; have htwo := htwo.kept (fun cs x hx => u64E.kept hx hk10) hk10; obtain ⟨q0, q1, q2, q3, q4, q5, q6⟩ := HQ.out _ hb10)
       | (go_at_call 15; (with_reducible refine (z1h _ _ _ V hagain (HVX.out _ hb10) (by have := HLV.out; omega)).mono ?_); rintro e w11 ⟨rfl, hk11⟩; have hb11 := hb10.trans (hk11.mono hb10.size); have hone := hone.kept (fun cs x hx => u64E.kept hx hk11) hk11; have htwo := htwo.kept (fun cs x hx => u64E.kept hx hk11) hk11; obtain ⟨q0, q1, q2, q3, q4, q5, q6⟩ := HQ.out _ hb11)
       | (go_at_call 9; (with_reducible refine (HOV.out (HG.out (by first | assumption | simp_all)) _ hb11).mono ?_); rintro e w12 ⟨rfl, hk12⟩; have hb12 := hb11.trans (hk12.mono hb11.size); have hone := hone.kept (fun cs x hx => u64E.kept hx hk12) hk12; have htwo := htwo.kept (fun cs x hx => u64E.kept hx hk12) hk12; obtain ⟨q0, q1, q2, q3, q4, q5, q6⟩ := HQ.out _ hb12)
       | (go_at_call 12; (with_reducible refine (HWE.out (HG.out (by first | assumption | simp_all)) _ hb12 hone).mono ?_); rintro e w13 ⟨A13, l13, c13, rfl, hleft, hk13⟩; have hb13 := hb12.trans (hk13.mono hb12.size); have htwo := htwo.kept (fun cs x hx => u64E.kept hx hk13) hk13; obtain ⟨q0, q1, q2, q3, q4, q5, q6⟩ := HQ.out _ hb13)
       | (go_at_call 12; (with_reducible refine (HWF.out (HG.out (by first | assumption | simp_all)) _ hb13 htwo).mono ?_); rintro e w14 ⟨A14, l14, c14, rfl, hright, hk14⟩; have hb14 := hb13.trans (hk14.mono hb13.size); have hleft := hleft.kept (fun cs x hx => u64E.kept hx hk14) hk14; obtain ⟨q0, q1, q2, q3, q4, q5, q6⟩ := HQ.out _ hb14)
       | (go_at_call 15; (with_reducible refine (z1h _ _ _ L3 hleft hright (by have := HLV.out; have := HL3.out; omega)).mono ?_); rintro e w15 ⟨rfl, hk15⟩; have hb15 := hb14.trans (hk15.mono hb14.size); obtain ⟨q0, q1, q2, q3, q4, q5, q6⟩ := HQ.out _ hb15))
      ·exact bodyPost_ret (v := .bool true) (by simp [results, Tryz.results5, go_sem]) rfl ⟨rfl, HGR.out _ hb4⟩
      ·exact bodyPost_ret (v := .bool true) (by simp [results, Tryz.results5, go_sem]) rfl ⟨rfl, HGR.out _ hb15⟩
      ·exact bodyPost_ret (v := .bool true) (by simp [results, Tryz.results5, go_sem]) rfl ⟨rfl, HGR.out _ hb4⟩
   ·have g2 : (he != 0) = true := by simp [h2h]
    clear hcs h1 h2 h3 hR hB hU hI hm' hT hTX hMV hVX hV hW1 hb1 hl1 hblk1 hz2 hz3 hx hy hlv hve hwas hwr hwl t1 t2 hge hhe hL1 hL2 hie hov t4 t3 h2h
    go_enter Tryz.func5, Tryz.ntmps5
    go_wp2_with (first
     | (go_at_call 7; (with_reducible refine HAL.out.mono ?_); rintro e w3 ⟨rfl, hb3⟩; rw [← HW1.out] at hb3; obtain ⟨q0, q1, q2, q3, q4, q5, q6⟩ := HQ.out _ hb3)
     | (go_at_call 8; (with_reducible refine (HGT.out _ hb3).mono ?_); rintro e w4 ⟨⟨g, rfl, hg⟩, hb4⟩; have HG := Lib.hid hg; clear hg; obtain ⟨q0, q1, q2, q3, q4, q5, q6⟩ := HQ.out _ hb4)
     | (go_at_call 13; (with_reducible refine (HRD.out (HG.out (by first | assumption | simp_all)) _ hb4).mono ?_); rintro e w5 ⟨rfl, hb5⟩; obtain ⟨q0, q1, q2, q3, q4, q5, q6⟩ := HQ.out _ hb5)
     | (go_at_call 12; (with_reducible refine (HWA.out (HG.out (by first | assumption | simp_all)) _ hb5).mono ?_); rintro e w6 ⟨A6, l6, c6, rfl, hsame, hk6⟩; have hb6 := hb5.trans (hk6.mono hb5.size); obtain ⟨q0, q1, q2, q3, q4, q5, q6⟩ := HQ.out _ hb6)
     | (go_at_call 15; (with_reducible refine (z1h _ _ _ V hsame (HVX.out _ hb6) (by have := HLV.out; omega)).mono ?_); rintro e w7 ⟨rfl, hk7⟩; have hb7 := hb6.trans (hk7.mono hb6.size); obtain ⟨q0, q1, q2, q3, q4, q5, q6⟩ := HQ.out _ hb7)
     | (go_at_call 12; (with_reducible refine (HWB.out (HG.out (by first | assumption | simp_all)) _ hb7).mono ?_); rintro e w8 ⟨A8, l8, c8, rfl, hone, hk8⟩; have hb8 := hb7.trans (hk8.mono hb7.size); obtain ⟨q0, q1, q2, q3, q4, q5, q6⟩ := HQ.out _ hb8)
     | (go_at_call 12; (with_reducible refine (HWC.out (HG.out (by first | assumption | simp_all)) _ hb8).mono ?_); rintro e w9 ⟨A9, l9, c9, rfl, htwo, hk9⟩; have hb9 := hb8.trans (hk9.mono hb8.size); have hone := hone.kept (fun cs x hx => u64E.kept hx hk9) hk9; obtain ⟨q0, q1, q2, q3, q4, q5, q6⟩ := HQ.out _ hb9)
     | (go_at_call 12; (with_reducible refine (HWD.out (HG.out (by first | assumption | simp_all)) _ hb9 hone).mono ?_); rintro e w10 ⟨A10, l10, c10, rfl, hagain, hk10⟩; have hb10 := hb9.trans (hk10.mono hb9.size); have hone := hone.kept (fun cs x hx => u64E.kept hx hk10) hk10; have htwo := htwo.kept (fun cs x hx => u64E.kept hx hk10) hk10; obtain ⟨q0, q1, q2, q3, q4, q5, q6⟩ := HQ.out _ hb10)
     | (go_at_call 15; (with_reducible refine (z1h _ _ _ V hagain (HVX.out _ hb10) (by have := HLV.out; omega)).mono ?_); rintro e w11 ⟨rfl, hk11⟩; have hb11 := hb10.trans (hk11.mono hb10.size); have hone := hone.kept (fun cs x hx => u64E.kept hx hk11) hk11; have htwo := htwo.kept (fun cs x hx => u64E.kept hx hk11) hk11; obtain ⟨q0, q1, q2, q3, q4, q5, q6⟩ := HQ.out _ hb11)
     | (go_at_call 9; (with_reducible refine (HOV.out (HG.out (by first | assumption | simp_all)) _ hb11).mono ?_); rintro e w12 ⟨rfl, hk12⟩; have hb12 := hb11.trans (hk12.mono hb11.size); have hone := hone.kept (fun cs x hx => u64E.kept hx hk12) hk12; have htwo := htwo.kept (fun cs x hx => u64E.kept hx hk12) hk12; obtain ⟨q0, q1, q2, q3, q4, q5, q6⟩ := HQ.out _ hb12))
    ·exact bodyPost_ret (v := .bool true) (by simp [results, Tryz.results5, go_sem]) rfl ⟨rfl, HGR.out _ hb4⟩
    ·exact bodyPost_ret (v := .bool true) (by simp [results, Tryz.results5, go_sem]) rfl ⟨rfl, HGR.out _ hb12⟩
    ·exact bodyPost_ret (v := .bool true) (by simp [results, Tryz.results5, go_sem]) rfl ⟨rfl, HGR.out _ hb4⟩
  ·have g2 : (ge != 0) = true := by simp [h1g]
   clear hcs h1 h2 h3 hR hB hU hI hm' hT hTX hMV hVX hV hW1 hb1 hl1 hblk1 hz2 hz3 hx hy hlv hve hwas hwr hwl t1 t2 hge hhe hL1 hL2 h1g
   go_enter Tryz.func5, Tryz.ntmps5
   go_wp2_with (first
    | (go_at_call 7; (with_reducible refine HAL.out.mono ?_); rintro e w3 ⟨rfl, hb3⟩; rw [← HW1.out] at hb3; obtain ⟨q0, q1, q2, q3, q4, q5, q6⟩ := HQ.out _ hb3)
    | (go_at_call 8; (with_reducible refine (HGT.out _ hb3).mono ?_); rintro e w4 ⟨⟨g, rfl, hg⟩, hb4⟩; have HG := Lib.hid hg; clear hg; obtain ⟨q0, q1, q2, q3, q4, q5, q6⟩ := HQ.out _ hb4)
    | (go_at_call 13; (with_reducible refine (HRD.out (HG.out (by first | assumption | simp_all)) _ hb4).mono ?_); rintro e w5 ⟨rfl, hb5⟩; obtain ⟨q0, q1, q2, q3, q4, q5, q6⟩ := HQ.out _ hb5)
    | (go_at_call 12; (with_reducible refine (HWA.out (HG.out (by first | assumption | simp_all)) _ hb5).mono ?_); rintro e w6 ⟨A6, l6, c6, rfl, hsame, hk6⟩; have hb6 := hb5.trans (hk6.mono hb5.size); obtain ⟨q0, q1, q2, q3, q4, q5, q6⟩ := HQ.out _ hb6)
    | (go_at_call 15; (with_reducible refine (z1h _ _ _ V hsame (HVX.out _ hb6) (by have := HLV.out; omega)).mono ?_); rintro e w7 ⟨rfl, hk7⟩; have hb7 := hb6.trans (hk7.mono hb6.size); obtain ⟨q0, q1, q2, q3, q4, q5, q6⟩ := HQ.out _ hb7)
    | (go_at_call 12; (with_reducible refine (HWB.out (HG.out (by first | assumption | simp_all)) _ hb7).mono ?_); rintro e w8 ⟨A8, l8, c8, rfl, hone, hk8⟩; have hb8 := hb7.trans (hk8.mono hb7.size); obtain ⟨q0, q1, q2, q3, q4, q5, q6⟩ := HQ.out _ hb8)
    | (go_at_call 12; (with_reducible refine (HWC.out (HG.out (by first | assumption | simp_all)) _ hb8).mono ?_); rintro e w9 ⟨A9, l9, c9, rfl, htwo, hk9⟩; have hb9 := hb8.trans (hk9.mono hb8.size); have hone := hone.kept (fun cs x hx => u64E.kept hx hk9) hk9; obtain ⟨q0, q1, q2, q3, q4, q5, q6⟩ := HQ.out _ hb9))
   ·exact bodyPost_ret (v := .bool true) (by simp [results, Tryz.results5, go_sem]) rfl ⟨rfl, HGR.out _ hb4⟩
   ·exact bodyPost_ret (v := .bool true) (by simp [results, Tryz.results5, go_sem]) rfl ⟨rfl, HGR.out _ hb9⟩
   ·exact bodyPost_ret (v := .bool true) (by simp [results, Tryz.results5, go_sem]) rfl ⟨rfl, HGR.out _ hb4⟩
 ·have hw0 : was = 0 := by rw [← hwas]; unfold z2i; rw [if_neg (by rw [hve]; exact h0)]
  subst hw0
  have g2 : (ve != 0) = true := by simp [h0]
  clear hcs h1 h2 h3 hR hB hU hI hm' hT hTX hMV hVX hV hW1 hb1 hl1 hblk1 hz2 hz3 hx hy hlv hve hwas hwr h0
  go_enter Tryz.func5, Tryz.ntmps5
  go_wp2_with (first
   | (go_at_call 7; (with_reducible refine HAL.out.mono ?_); rintro e w3 ⟨rfl, hb3⟩; rw [← HW1.out] at hb3; obtain ⟨q0, q1, q2, q3, q4, q5, q6⟩ := HQ.out _ hb3)
   | (go_at_call 8; (with_reducible refine (HGT.out _ hb3).mono ?_); rintro e w4 ⟨⟨g, rfl, hg⟩, hb4⟩; have HG := Lib.hid hg; clear hg; obtain ⟨q0, q1, q2, q3, q4, q5, q6⟩ := HQ.out _ hb4)
   | (go_at_call 13; (with_reducible refine (HRD.out (HG.out (by first | assumption | simp_all)) _ hb4).mono ?_); rintro e w5 ⟨rfl, hb5⟩; obtain ⟨q0, q1, q2, q3, q4, q5, q6⟩ := HQ.out _ hb5))
  ·exact bodyPost_ret (v := .bool true) (by simp [results, Tryz.results5, go_sem]) rfl ⟨rfl, HGR.out _ hb4⟩
  ·exact bodyPost_ret (v := .bool true) (by simp [results, Tryz.results5, go_sem]) rfl ⟨rfl, HGR.out _ hb5⟩
  ·exact bodyPost_ret (v := .bool true) (by simp [results, Tryz.results5, go_sem]) rfl ⟨rfl, HGR.out _ hb4⟩
end Go.Proofs.YtjjfeddenhemhaaGreatDoor.machineTwice
