import Derived.Test.YtjjfeddenhemhaaGreatDoorPg
import Derived.Test.YtjjfeddenhemhaaGreatDoorQKeepLaid
import Derived.Test.YtjjfeddenhemhaaGreatDoorQKeepMath
import Derived.Test.YtjjfeddenhemhaaGreatDoorGo
import Derived.Test.YtjjfeddenhemhaaGreatDoorPe
namespace Go.Proofs.YtjjfeddenhemhaaGreatDoor
open Go.RowKit Go.Instr Go.Sort Go.Lib
set_option linter.unusedVariables false
set_option linter.unusedSimpArgs false
set_option maxRecDepth 100000
theorem ztx (W : World) (nm : ByteArray) (wo ad : Int) (A : Option Addr) (n c : Nat) (sb su si : Value) : Calls Tryz.prog 14 #[.agg #[.string nm, .int .i64 wo, .int .i64 ad, .slice A n c, sb, su, si]] W fun e w' => e = .returned (.bool (decide ((n : Int) ≤ 80))) ∧ Below W.heap.size W w' := by
 have HB := (Below.refl W.heap.size W).alloc (Nat.le_refl _) (.cells #[.string nm, .int .i64 wo, .int .i64 ad, .slice A n c, sb, su, si] 27)
 have HBH := Lib.hid HB
 clear HB
 go_enter Tryz.func14, Tryz.ntmps14
 go_wp2
 exact bodyPost_ret (v := .bool (decide ((n : Int) ≤ 80))) (by simp [results, Tryz.results14, go_sem]) rfl ⟨rfl, HBH.out⟩
end Go.Proofs.YtjjfeddenhemhaaGreatDoor
namespace Go.Proofs.YtjjfeddenhemhaaGreatDoor.machineKeeps
open Go.RowKit Go.Instr Go.Sort Go.Lib
set_option linter.unusedVariables false
set_option linter.unusedSimpArgs false
set_option maxRecDepth 100000
set_option warningAsError false in
set_option maxHeartbeats 4000000 in
theorem walk {H : Type} {enc : TypeId × Value → H} {W : World} {base : Nat} (v0 v1 : Value) (a2 a3 : Int) {d0 d1 : DataW H} {p0 p1 : List MemPlace} (ok0 : Value.okWide Tryz.prog W .any base 27 v0) (h0 : DataW.Trod enc Tryz.prog W 0 (fun _ => true) true 27 v0 d0 p0)
 (ok1 : Value.okWide Tryz.prog W .any base 38 v1) (h1 : DataW.Trod enc Tryz.prog W 0 (fun _ => true) true 38 v1 d1 p1)
 (w2 : (Lit.int .i64 a2).wf = true) (w3 : (Lit.int .u64 a3).wf = true) (hL : laidMetH Tryz.prog Rows.machineKeepsRow.laid W) :
 Calls Tryz.prog 4 #[v0, v1, .int .i64 a2, .int .u64 a3] W fun e w' => e = .returned (.bool true) ∧ Below W.heap.size W w' := by
 obtain ⟨m, hm⟩ := z81 ok0 h0
 obtain ⟨V, hV⟩ := zfv ok1 h1
 have hz2 : -9223372036854775808 ≤ a2 ∧ a2 ≤ 9223372036854775807 := z99 w2
 obtain ⟨u, rfl, hu⟩ := z6s w3
 have hT := zpe W hL
 clear ok0 h0 ok1 h1 w2 w3 hL
 have hm' := hm
 obtain ⟨cs0, rfl, sr, sb, su, si, hcs, h1, h2, h3, hR, hB, hU, hI⟩ := hm
 obtain rfl : cs0 = #[.string m.name, .int .i64 m.word, .int .i64 m.address, sr, sb, su, si] := by cases cs0; simp_all
 obtain ⟨A, c, rfl, _⟩ := id hR
 obtain ⟨AV, cV, rfl, _⟩ := id hV
 obtain ⟨n, hn⟩ : ∃ z, m.regs.length = z := ⟨_, rfl⟩
 obtain ⟨lv, hlv⟩ : ∃ z, V.length = z := ⟨_, rfl⟩
 rw [hn] at hm' ⊢
 rw [hlv] at hV ⊢
 obtain ⟨W1, hW1⟩ : ∃ W1, W1 = W.alloc (.cells #[.string m.name, .int .i64 m.word, .int .i64 m.address, .slice A n c, sb, su, si] 27) := ⟨_, rfl⟩
 have hb1 : Below W.heap.size W W1 := by rw [hW1]; exact (Below.refl _ _).alloc (Nat.le_refl _) _
 have hl1 : W.heap.size < W1.heap.size := by rw [hW1]; simp
 have hblk1 : W1.heap[W.heap.size]? = some (.cells #[.string m.name, .int .i64 m.word, .int .i64 m.address, .slice A n c, sb, su, si] 27) := by rw [hW1]; exact heap_alloc_new _ _
 have HQ := Lib.hid (show ∀ X, Below W1.heap.size W1 X → X.cell? ⟨W.heap.size, 0, none⟩ = some (.string m.name) ∧ X.cell? ⟨W.heap.size, 1, none⟩ = some (.int .i64 m.word) ∧ X.cell? ⟨W.heap.size, 2, none⟩ = some (.int .i64 m.address) ∧ X.cell? ⟨W.heap.size, 3, none⟩ = some (.slice A n c) ∧ X.cell? ⟨W.heap.size, 4, none⟩ = some sb ∧ X.cell? ⟨W.heap.size, 5, none⟩ = some su ∧ X.cell? ⟨W.heap.size, 6, none⟩ = some si from fun X hX => by
  have e1 := (hX.block _ hl1).trans hblk1
  exact ⟨zb e1 rfl, zb e1 rfl, zb e1 rfl, zb e1 rfl, zb e1 rfl, zb e1 rfl, zb e1 rfl⟩)
 have HGR := Lib.hid (show ∀ X, Below W1.heap.size W1 X → Below W.heap.size W X from fun X hX => hb1.trans (hX.mono hb1.size))
 have HW1 := Lib.hid hW1
 have hMV : ∀ X, Below W1.heap.size W1 X → zu X (.agg #[.string m.name, .int .i64 m.word, .int .i64 m.address, .slice A n c, sb, su, si]) m := fun X hX => hm'.kept (HGR.out X hX)
 have hTX : ∀ X, Below W1.heap.size W1 X → zh X := fun X hX => hT.below (HGR.out X hX)
 have hVX : ∀ X, Below W1.heap.size W1 X → zd 1 u64E X (.slice AV lv cV) V := fun X hX => hV.kept (fun cs x hx => u64E.kept hx (HGR.out X hX)) (HGR.out X hX)
 have HAL := Lib.hid (z65 W1 (hTX _ (Below.refl _ _)))
 have HGT := Lib.hid (show ∀ X, Below W1.heap.size W1 X → Calls Tryz.prog 8 #[.agg #[.string m.name, .int .i64 m.word, .int .i64 m.address, .slice A n c, sb, su, si]] X fun e w' => GrE m e ∧ Below W1.heap.size W1 w' from fun X hX => (z7p X _ m (hMV X hX)).mono fun e w' ⟨g1, g2⟩ => ⟨g1, hX.trans (g2.mono hX.size)⟩)
 rw [hW1] at HAL
 obtain ⟨dn, hdn⟩ : ∃ d, decide ((n : Int) ≤ 80) = d := ⟨_, rfl⟩
 have HWD := Lib.hid (show ∀ X, Below W1.heap.size W1 X → Calls Tryz.prog 14 #[.agg #[.string m.name, .int .i64 m.word, .int .i64 m.address, .slice A n c, sb, su, si]] X fun e w' => e = .returned (.bool dn) ∧ Below W1.heap.size W1 w' from fun X hX => (ztx X _ _ _ _ _ _ _ _ _).mono fun e w' ⟨g1, g2⟩ => ⟨by rw [g1, hdn], hX.trans (g2.mono hX.size)⟩)
 have HDN := Lib.hid hdn
 obtain ⟨we, hwe⟩ : ∃ z, z29 m V a2 u = z := ⟨_, rfl⟩
 obtain ⟨L1, hL1⟩ : ∃ z, wrL m V a2 u = z := ⟨_, rfl⟩
 have HWR := Lib.hid (show MachSmall m → ∀ X, Below W1.heap.size W1 X → Calls Tryz.prog 12 #[.agg #[.string m.name, .int .i64 m.word, .int .i64 m.address, .slice A n c, sb, su, si], .slice AV lv cV, .int .i64 a2, .int .u64 (u : Nat)] X fun e w' => ∃ A1 c1, e = .returned (.tuple #[.slice A1 L1.length c1, .int .i64 we]) ∧ Hid (zd 1 u64E w' (.slice A1 L1.length c1) L1) ∧ Below W1.heap.size W1 w' from fun hs X hX => (z7g X _ m (hMV X hX) (hTX X hX) hs.effs _ V (hVX X hX) a2 hz2 u hu).mono fun e w' ⟨v', g1, g2, g3⟩ => by
  rw [hL1] at g2
  obtain ⟨A1, c1, rfl, _⟩ := id g2
  rw [hwe] at g1
  exact ⟨A1, c1, g1, Lib.hid g2, hX.trans (g3.mono hX.size)⟩)
 by_cases h0 : we = 0
 ·subst h0
  obtain ⟨hc, k1, k2, k3, k4⟩ := keeps hwe
  rw [hL1] at k1 k2 k3 k4
  rw [hlv] at k1
  rw [k1] at HWR
  have HRA := Lib.hid (show MachSmall m → ∀ X s, Below W1.heap.size W1 X → zd 1 u64E X s L1 → Calls Tryz.prog 13 #[.agg #[.string m.name, .int .i64 m.word, .int .i64 m.address, .slice A n c, sb, su, si], s, .int .i64 a2] X fun e w' => e = .returned (.tuple #[.int .u64 (u : Nat), .int .i64 0]) ∧ Below X.heap.size X w' from fun hs X s hX hu1 => by
   have h := z4h X _ m (hMV X hX) (hTX X hX) hs.effs s L1 hu1 a2 hz2
   rw [k3, k2] at h
   exact h)
  have HLP := Lib.hid (show MachSmall m → ∀ (j : Nat), j < n → ∃ (ov : Bool) (r r' : Nat), (ov = false → r = r') ∧ (∀ X, Below W1.heap.size W1 X → Calls Tryz.prog 9 #[.agg #[.string m.name, .int .i64 m.word, .int .i64 m.address, .slice A n c, sb, su, si], .int .i64 a2, .int .i64 (j : Int)] X fun e w' => e = .returned (.tuple #[.bool ov, .int .i64 0]) ∧ Below X.heap.size X w') ∧
   (∀ X, Below W1.heap.size W1 X → Calls Tryz.prog 13 #[.agg #[.string m.name, .int .i64 m.word, .int .i64 m.address, .slice A n c, sb, su, si], .slice AV lv cV, .int .i64 (j : Int)] X fun e w' => e = .returned (.tuple #[.int .u64 (r : Nat), .int .i64 0]) ∧ Below X.heap.size X w') ∧
   (∀ X s, Below W1.heap.size W1 X → zd 1 u64E X s L1 → Calls Tryz.prog 13 #[.agg #[.string m.name, .int .i64 m.word, .int .i64 m.address, .slice A n c, sb, su, si], s, .int .i64 (j : Int)] X fun e w' => e = .returned (.tuple #[.int .u64 (r' : Nat), .int .i64 0]) ∧ Below X.heap.size X w') from fun hs j hj => by
   obtain ⟨f1, f2, f3, f4⟩ := k4 j (by rw [hn]; exact hj)
   have hj2 : -9223372036854775808 ≤ (j : Int) ∧ (j : Int) ≤ 9223372036854775807 := by have := z32 hc; omega
   refine ⟨ovB m a2 j, z2i m V j, z2i m L1 j, fun h => (f4 h).symm, fun X hX => ?_, fun X hX => ?_, fun X s hX hu1 => ?_⟩
   ·have h := z2o X _ m (hMV X hX) (hTX X hX) hs.effs a2 j hz2 hj2
    rw [f1] at h
    exact h
   ·have h := z4h X _ m (hMV X hX) (hTX X hX) hs.effs _ V (hVX X hX) j hj2
    rw [f2] at h
    exact h
   ·have h := z4h X _ m (hMV X hX) (hTX X hX) hs.effs s L1 hu1 j hj2
    rw [f3] at h
    exact h)
  have HNL := Lib.hid (show n ≤ 64 by rw [← hn]; exact z32 hc)
  clear hcs h1 h2 h3 hR hB hU hI hm' hT hTX hMV hVX hV hW1 hb1 hl1 hblk1 hz2 hu hn hlv hdn hwe hL1 hc k1 k2 k3 k4
  go_enter Tryz.func4, Tryz.ntmps4
  go_wp2_with (first
   | (go_at_call 7; (with_reducible refine HAL.out.mono ?_); rintro e w3 ⟨rfl, hb3⟩; rw [← HW1.out] at hb3; obtain ⟨p0, p1, p2, p3, p4, p5, p6⟩ := HQ.out _ hb3)
   | (go_at_call 8; (with_reducible refine (HGT.out _ hb3).mono ?_); rintro e w4 ⟨⟨g, rfl, hg⟩, hb4⟩; have HG := Lib.hid hg; clear hg; obtain ⟨q0, q1, q2, q3, q4, q5, q6⟩ := HQ.out _ hb4)
   | (go_at_call 14; (with_reducible refine (HWD.out _ hb4).mono ?_); rintro e w5 ⟨rfl, hb5⟩; obtain ⟨r0, r1, r2, r3, r4, r5, r6⟩ := HQ.out _ hb5)
   | (go_at_call 12; (with_reducible refine (HWR.out (HG.out (by first | assumption | simp_all)) _ hb5).mono ?_); rintro e w6 ⟨A1, c1, rfl, hw6, hb6⟩; obtain ⟨s0, s1, s2, s3, s4, s5, s6⟩ := HQ.out _ hb6)
   | (go_at_call 13; (with_reducible refine (HRA.out (HG.out (by first | assumption | simp_all)) _ _ hb6 hw6.out).mono ?_); rintro e w7 ⟨rfl, hb7⟩))
  ·exact bodyPost_ret (v := .bool true) (by simp [results, Tryz.results4, go_sem]) rfl ⟨rfl, HGR.out _ hb4⟩
  ·have hsm : MachSmall m := HG.out (by first | assumption | simp_all)
   have hb7' := hb6.trans (hb7.mono hb6.size)
   have HB6 := Lib.hid hb6
   have HB7 := Lib.hid hb7'
   have HL := Lib.hid (HLP.out hsm)
   have HN7 := Lib.hid (show ∀ X, Below W1.heap.size W1 X → Below w7.heap.size w7 X → zd 1 u64E X (.slice A1 lv c1) L1 from fun X hX hX7 => hw6.out.kept (fun cs x hx => u64E.kept hx (hb7.trans (hX7.mono hb7.size))) (hb7.trans (hX7.mono hb7.size)))
   clear hsm hw6 hb3 hb4 hb5 hb6 hb7 hb7' p0 p1 p2 p3 p4 p5 p6 q0 q1 q2 q3 q4 q5 q6 r0 r1 r2 r3 r4 r5 r6 s0 s1 s2 s3 s4 s5 s6 HLP HWR HRA HGT HWD HAL
   go_loopw [14] (fun vi wr => ∃ i : Nat, vi = .int .i64 i ∧ i ≤ n ∧ Hid (Below w7.heap.size w7 wr)) (fun vi _ => n - (intOf vi).toNat)
   case atStart => exact ⟨0, rfl, Nat.zero_le _, Lib.hid (Below.refl _ _)⟩
   case round =>
    obtain ⟨i, rfl, hi, HJ⟩ := hrel
    have hbw := HB7.out.trans (HJ.out.mono HB7.out.size)
    obtain ⟨q0, q1, q2, q3, q4, q5, q6⟩ := HQ.out _ hbw
    by_cases hlt : i < n
    ·obtain ⟨ov, r, r', hrr, c1', c2', c3'⟩ := HL.out i hlt
     have C1 := Lib.hid c1'
     have C2 := Lib.hid c2'
     have C3 := Lib.hid c3'
     have HLT := Lib.hid hlt
     have hns := HNL.out
     have hin : (i : Int) < (n : Int) := by omega
     have hbj := HJ.out
     clear c1' c2' c3' hi HJ
     have hvv : ov = true ∨ (ov = false ∧ r = r') := by cases ov with
      | true => exact .inl rfl
      | false => exact .inr ⟨rfl, hrr rfl⟩
     clear hrr
     rcases hvv with rfl | ⟨rfl, rfl⟩
     all_goals
      go_wp2_with (first
       | (go_at_call 9; (with_reducible refine (C1.out _ hbw).mono ?_); rintro e w8 ⟨rfl, hb8⟩; have hb8w := hbw.trans (hb8.mono hbw.size); have hb8j := hbj.trans (hb8.mono hbj.size); obtain ⟨x0, x1, x2, x3, x4, x5, x6⟩ := HQ.out _ hb8w)
       | (go_at_call 13; (with_reducible refine (C2.out _ hb8w).mono ?_); rintro e w9 ⟨rfl, hb9⟩; have hb9w := hb8w.trans (hb9.mono hb8w.size); have hb9j := hb8j.trans (hb9.mono hb8j.size); obtain ⟨y0, y1, y2, y3, y4, y5, y6⟩ := HQ.out _ hb9w)
       | (go_at_call 13; (with_reducible refine (C3.out _ _ hb9w (HN7.out _ hb9w hb9j)).mono ?_); rintro e w10 ⟨rfl, hb10⟩; have hb10j := hb9j.trans (hb10.mono hb9j.size)))
      go_roundw
      case rel => exact ⟨i + 1, by first | rfl | go_num | (congr 1), by have := HLT.out; omega, Lib.hid hb10j⟩
      case measure => simp only [intOf]; have := HLT.out; omega
    ·obtain rfl : i = n := by omega
     have HBW := Lib.hid hbw
     have hin : ¬ (i : Int) < (i : Int) := by omega
     clear hbw HJ
     go_wp2
     exact bodyPost_ret (v := .bool true) (by simp [results, Tryz.results4, go_sem]) rfl ⟨rfl, HGR.out _ HBW.out⟩
  ·exact bodyPost_ret (v := .bool true) (by simp [results, Tryz.results4, go_sem]) rfl ⟨rfl, HGR.out _ hb5⟩
  ·exact bodyPost_ret (v := .bool true) (by simp [results, Tryz.results4, go_sem]) rfl ⟨rfl, HGR.out _ hb5⟩
 ·have hL0 : L1 = [] := by rw [← hL1]; unfold wrL; rw [if_neg (by rw [hwe]; exact h0)]
  subst hL0
  simp only [List.length_nil] at HWR
  have g : (we != 0) = true := by simp [h0]
  clear hcs h1 h2 h3 hR hB hU hI hm' hT hTX hMV hVX hV hW1 hb1 hl1 hblk1 hz2 hu hn hlv hdn hwe hL1 h0
  go_enter Tryz.func4, Tryz.ntmps4
  go_wp2_with (first
   | (go_at_call 7; (with_reducible refine HAL.out.mono ?_); rintro e w3 ⟨rfl, hb3⟩; rw [← HW1.out] at hb3; obtain ⟨p0, p1, p2, p3, p4, p5, p6⟩ := HQ.out _ hb3)
   | (go_at_call 8; (with_reducible refine (HGT.out _ hb3).mono ?_); rintro e w4 ⟨⟨g, rfl, hg⟩, hb4⟩; have HG := Lib.hid hg; clear hg; obtain ⟨q0, q1, q2, q3, q4, q5, q6⟩ := HQ.out _ hb4)
   | (go_at_call 14; (with_reducible refine (HWD.out _ hb4).mono ?_); rintro e w5 ⟨rfl, hb5⟩; obtain ⟨r0, r1, r2, r3, r4, r5, r6⟩ := HQ.out _ hb5)
   | (go_at_call 12; (with_reducible refine (HWR.out (HG.out (by first | assumption | simp_all)) _ hb5).mono ?_); rintro e w6 ⟨A1, c1, rfl, hw6, hb6⟩))
  ·exact bodyPost_ret (v := .bool true) (by simp [results, Tryz.results4, go_sem]) rfl ⟨rfl, HGR.out _ hb4⟩
  ·exact bodyPost_ret (v := .bool true) (by simp [results, Tryz.results4, go_sem]) rfl ⟨rfl, HGR.out _ hb6⟩
  ·exact bodyPost_ret (v := .bool true) (by simp [results, Tryz.results4, go_sem]) rfl ⟨rfl, HGR.out _ hb5⟩
  ·exact bodyPost_ret (v := .bool true) (by simp [results, Tryz.results4, go_sem]) rfl ⟨rfl, HGR.out _ hb5⟩
end Go.Proofs.YtjjfeddenhemhaaGreatDoor.machineKeeps
