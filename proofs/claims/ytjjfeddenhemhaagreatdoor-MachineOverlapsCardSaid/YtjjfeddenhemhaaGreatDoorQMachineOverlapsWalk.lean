import Derived.Test.YtjjfeddenhemhaaGreatDoorPg
import Derived.Test.YtjjfeddenhemhaaGreatDoorQOverLaid
import Derived.Test.YtjjfeddenhemhaaGreatDoorPh
import Derived.Test.YtjjfeddenhemhaaGreatDoorGo
import Derived.Deep.RegionHeld3
import Derived.Deep.OwnRows
import Derived.IntWalk
namespace Go.Proofs.YtjjfeddenhemhaaGreatDoor
open Go.RowKit Go.Instr Go.Sort Go.Lib
set_option linter.unusedVariables false
set_option linter.unusedSimpArgs false
set_option maxRecDepth 100000
theorem zfw {n : Int} (h : (Lit.int .i64 n).wf = true) : -9223372036854775808 ≤ n ∧ n ≤ 9223372036854775807 := by
 simp [Lit.wf, IntKind.min, IntKind.max, IntKind.bits, IntKind.signed] at h
 exact ⟨h.1, by omega⟩
theorem zvl (z : Value) (n : Nat) : madeCells #[z] n = Array.replicate n z := by
 apply Array.toList_inj.1
 rw [toList_madeCells_one, Array.toList_replicate]
theorem make64 (n : Nat) (hn : n ≤ 64) (w : World) : Sem.run Tryz.prog (makeSlice 38 (.int .i64 (n : Int)) (.int .i64 (n : Int))) w = .ok (.slice (some ⟨w.heap.size, 0, none⟩) n n) (w.alloc (.cells (Array.replicate n (.int .u64 0)) 41)) := by
 rw [← zvl]
 exact run_make_row' (P := Tryz.prog) 38 41 (.int .u64 0) 8 (by kernel_rfl) (by kernel_rfl) (by kernel_rfl) .i64 .i64 n (by omega) (by omega) w
theorem zqw {n k T : Nat} (hn : n ≤ 64) {X : World} (h : X.heap[k]? = some (.cells (Array.replicate n (.int .u64 0)) T)) (hT : T = 41) : zd 1 u64E X (.slice (some ⟨k, 0, none⟩) n n) (List.replicate n 0) := by
 subst hT
 have hl : (List.replicate n 0).length = n := by simp
 have ho : X.ownsRow 0 41 1 (.slice (some ⟨k, 0, none⟩) n n) n (uRow (List.replicate n 0)) :=
  ⟨by unfold uRow; simp, .inr ⟨k, n, Array.replicate n (.int .u64 0), rfl, Nat.zero_le _, h, Nat.le_refl _, by simp [maxLen]; omega, by simp, by unfold uRow; simp⟩⟩
 have h2 := z6j (l := List.replicate n 0) (v := .slice (some ⟨k, 0, none⟩) n n) (by rw [hl]; exact ho) (by rw [hl]; simp [maxLen]; omega) (by intro x hx; obtain ⟨_, rfl⟩ := List.mem_replicate.1 hx; omega)
 exact h2
theorem zmx {wd sh : Nat} (hw : wd ≤ 64) (h : (64 : Int) - (wd : Int) = (sh : Int)) : (18446744073709551615 : Int) / 2 ^ min (IntKind.u64.wrap (IntKind.i64.wrap (sh : Int))).toNat 64 = ((mk wd : Nat) : Int) := by
 have hs : sh = 64 - wd := by omega
 subst hs
 have key : ∀ k : Nat, k ≤ 64 → (18446744073709551615 : Int) / 2 ^ min (IntKind.u64.wrap (IntKind.i64.wrap (((64 - k : Nat)) : Int))).toNat 64 = ((mk k : Nat) : Int) := by decide +kernel
 exact key wd hw
theorem zaj {W1 X : World} (h : Below W1.heap.size W1 X) (o : Obj) : Below W1.heap.size W1 (X.alloc o) := h.alloc h.size o
end Go.Proofs.YtjjfeddenhemhaaGreatDoor
namespace Go.Proofs.YtjjfeddenhemhaaGreatDoor.machineOverlaps
open Go.RowKit Go.Instr Go.Sort Go.Lib
set_option linter.unusedVariables false
set_option linter.unusedSimpArgs false
set_option maxRecDepth 100000
set_option warningAsError false in
set_option maxHeartbeats 4000000 in
theorem walk {H : Type} {enc : TypeId × Value → H} {W : World} {base : Nat} (v0 : Value) (a1 a2 : Int) {d0 : DataW H} {p0 : List MemPlace} (ok0 : Value.okWide Tryz.prog W .any base 27 v0) (h0 : DataW.Trod enc Tryz.prog W 0 (fun _ => true) true 27 v0 d0 p0)
 (w1 : (Lit.int .i64 a1).wf = true) (w2 : (Lit.int .i64 a2).wf = true) (hL : laidMetH Tryz.prog Rows.machineOverlapsRow.laid W) :
 Calls Tryz.prog 3 #[v0, .int .i64 a1, .int .i64 a2] W fun e w' => e = .returned (.bool true) ∧ Below W.heap.size W w' := by
 obtain ⟨m, hm⟩ := z81 ok0 h0
 have hz1 : -9223372036854775808 ≤ a1 ∧ a1 ≤ 9223372036854775807 := zfw w1
 have hz2 : -9223372036854775808 ≤ a2 ∧ a2 ≤ 9223372036854775807 := zfw w2
 have hT := zqa W hL
 clear ok0 h0 w1 w2 hL
 have hm' := hm
 obtain ⟨cs0, rfl, sr, sb, su, si, hcs, h1, h2, h3, hR, hB, hU, hI⟩ := hm
 obtain rfl : cs0 = #[.string m.name, .int .i64 m.word, .int .i64 m.address, sr, sb, su, si] := by cases cs0; simp_all
 obtain ⟨W1, hW1⟩ : ∃ W1, W1 = W.alloc (.cells #[.string m.name, .int .i64 m.word, .int .i64 m.address, sr, sb, su, si] 27) := ⟨_, rfl⟩
 have hb1 : Below W.heap.size W W1 := by rw [hW1]; exact (Below.refl _ _).alloc (Nat.le_refl _) _
 have hl1 : W.heap.size < W1.heap.size := by rw [hW1]; simp
 have hblk1 : W1.heap[W.heap.size]? = some (.cells #[.string m.name, .int .i64 m.word, .int .i64 m.address, sr, sb, su, si] 27) := by rw [hW1]; exact heap_alloc_new _ _
 have HQ := Lib.hid (show ∀ X, Below W1.heap.size W1 X → X.cell? ⟨W.heap.size, 0, none⟩ = some (.string m.name) ∧ X.cell? ⟨W.heap.size, 1, none⟩ = some (.int .i64 m.word) ∧ X.cell? ⟨W.heap.size, 2, none⟩ = some (.int .i64 m.address) ∧ X.cell? ⟨W.heap.size, 3, none⟩ = some sr ∧ X.cell? ⟨W.heap.size, 4, none⟩ = some sb ∧ X.cell? ⟨W.heap.size, 5, none⟩ = some su ∧ X.cell? ⟨W.heap.size, 6, none⟩ = some si from fun X hX => by
  have e1 := (hX.block _ hl1).trans hblk1
  exact ⟨zb e1 rfl, zb e1 rfl, zb e1 rfl, zb e1 rfl, zb e1 rfl, zb e1 rfl, zb e1 rfl⟩)
 have HGR := Lib.hid (show ∀ X, Below W1.heap.size W1 X → Below W.heap.size W X from fun X hX => hb1.trans (hX.mono hb1.size))
 have HW1 := Lib.hid hW1
 have hMV : ∀ X, Below W1.heap.size W1 X → zu X (.agg #[.string m.name, .int .i64 m.word, .int .i64 m.address, sr, sb, su, si]) m := fun X hX => hm'.kept (HGR.out X hX)
 have hTX : ∀ X, Below W1.heap.size W1 X → zh X := fun X hX => hT.below (HGR.out X hX)
 have HAL := Lib.hid (z65 W1 (hTX _ (Below.refl _ _)))
 have HGT := Lib.hid (show ∀ X, Below W1.heap.size W1 X → Calls Tryz.prog 8 #[.agg #[.string m.name, .int .i64 m.word, .int .i64 m.address, sr, sb, su, si]] X fun e w' => GrE m e ∧ Below W1.heap.size W1 w' from fun X hX => (z7p X _ m (hMV X hX)).mono fun e w' ⟨g1, g2⟩ => ⟨g1, hX.trans (g2.mono hX.size)⟩)
 rw [hW1] at HAL
 have hOV : MachSmall m → ∀ (c d : Int), (-9223372036854775808 ≤ c ∧ c ≤ 9223372036854775807) → (-9223372036854775808 ≤ d ∧ d ≤ 9223372036854775807) → ∀ X, Below W1.heap.size W1 X → Calls Tryz.prog 9 #[.agg #[.string m.name, .int .i64 m.word, .int .i64 m.address, sr, sb, su, si], .int .i64 c, .int .i64 d] X fun e w' => e = .returned (.tuple #[.bool (ovB m c d), .int .i64 (zz m [c, d])]) ∧ Below W1.heap.size W1 w' := fun hs c d hc hd X hX => (z2o X _ m (hMV X hX) (hTX X hX) hs.effs c d hc hd).mono fun e w' ⟨g1, g2⟩ => ⟨g1, hX.trans (g2.mono hX.size)⟩
 obtain ⟨oe, hoe⟩ : ∃ z, zz m [a1, a2] = z := ⟨_, rfl⟩
 by_cases h0 : oe = 0
 ·subst h0
  obtain ⟨hc, i, j, x, y, rfl, rfl, hx, hy⟩ := zwr hoe
  obtain ⟨r, q, q1, q2, q3, q4, q5, q6, q7, q8⟩ := zj7 hc hx
  obtain ⟨p, hp, hpg⟩ := z41 hc hx
  obtain ⟨n, hn⟩ : ∃ n, (z1p m.regs).length = n := ⟨_, rfl⟩
  obtain ⟨z1, z2, z3⟩ := zt4 hc hx hy
  obtain ⟨wd, hwd⟩ : ∃ wd : Nat, x.width = (wd : Int) := ⟨x.width.toNat, by omega⟩
  obtain ⟨lw, hlw⟩ : ∃ lw : Int, x.low = lw := ⟨_, rfl⟩
  rw [hn, hwd, Int.toNat_natCast] at z1 z2 z3
  obtain ⟨ov, hov⟩ : ∃ z, z5o m.regs i j x y = z := ⟨_, rfl⟩
  rw [hov] at z3
  obtain ⟨L1, hL1⟩ : ∃ z, wrL m (List.replicate n 0) (i : Int) (mk wd) = z := ⟨_, rfl⟩
  rw [hL1] at z2 z3
  obtain ⟨rv, hrv⟩ : ∃ z, z2i m L1 (j : Int) = z := ⟨_, rfl⟩
  rw [hrv] at z3
  have hlr := z32 hc
  have hil := (List.getElem?_eq_some_iff.1 hx).1
  have hjl := (List.getElem?_eq_some_iff.1 hy).1
  have hrl := (List.getElem?_eq_some_iff.1 q2).1
  have hnl : n ≤ 64 := by rw [← hn]; unfold z1p; have := z76 m.regs m.regs.length; omega
  have hpn : p < n := by have := (List.getElem?_eq_some_iff.1 hpg).1; unfold z1d at this; rw [List.length_map, hn] at this; exact this
  have HOV1 := Lib.hid (show MachSmall m → ∀ X, Below W1.heap.size W1 X → Calls Tryz.prog 9 #[.agg #[.string m.name, .int .i64 m.word, .int .i64 m.address, sr, sb, su, si], .int .i64 (i : Int), .int .i64 (j : Int)] X fun e w' => e = .returned (.tuple #[.bool ov, .int .i64 0]) ∧ Below W1.heap.size W1 w' from fun hs X hX => by have := hOV hs i j hz1 hz2 X hX; rw [hoe, zax hc hx hy, hov] at this; exact this)
  have HOV2 := Lib.hid (show MachSmall m → ∀ X, Below W1.heap.size W1 X → Calls Tryz.prog 9 #[.agg #[.string m.name, .int .i64 m.word, .int .i64 m.address, sr, sb, su, si], .int .i64 (j : Int), .int .i64 (i : Int)] X fun e w' => e = .returned (.tuple #[.bool ov, .int .i64 0]) ∧ Below W1.heap.size W1 w' from fun hs X hX => by have := hOV hs j i hz2 hz1 X hX; rw [z7s hc hy hx, zax hc hy hx, zqc, hov] at this; exact this)
  have HOV3 := Lib.hid (show MachSmall m → ∀ X, Below W1.heap.size W1 X → Calls Tryz.prog 9 #[.agg #[.string m.name, .int .i64 m.word, .int .i64 m.address, sr, sb, su, si], .int .i64 (i : Int), .int .i64 (i : Int)] X fun e w' => e = .returned (.tuple #[.bool true, .int .i64 0]) ∧ Below W1.heap.size W1 w' from fun hs X hX => by have := hOV hs i i hz1 hz1 X hX; rw [z7s hc hx hx, zax hc hx hx, zqe q6] at this; exact this)
  have HOV4 := Lib.hid (show MachSmall m → ∀ X, Below W1.heap.size W1 X → Calls Tryz.prog 9 #[.agg #[.string m.name, .int .i64 m.word, .int .i64 m.address, sr, sb, su, si], .int .i64 (i : Int), .int .i64 (r : Int)] X fun e w' => e = .returned (.tuple #[.bool true, .int .i64 0]) ∧ Below X.heap.size X w' from fun hs X hX => by have := z2o X _ m (hMV X hX) (hTX X hX) hs.effs i r hz1 (by omega); rw [z7s hc hx q2, zax hc hx q2, zqd hc hx q1 q3 q4 q5 q6 q7] at this; exact this)
  have HRO := Lib.hid (show MachSmall m → ∀ X, Below W1.heap.size W1 X → Calls Tryz.prog 10 #[.agg #[.string m.name, .int .i64 m.word, .int .i64 m.address, sr, sb, su, si]] X fun e w' => ∃ b o cl, e = .returned (.tuple #[.slice (some ⟨b, o, none⟩) n cl, .int .i64 0]) ∧ (b < w'.heap.size ∧ w'.cell? ⟨b, o + p, none⟩ = some (.int .i64 (r : Int))) ∧ Below W1.heap.size W1 w' from fun hs X hX => (z6u X _ m (hMV X hX) (hTX X hX) hs.effs).mono fun e w' ⟨sv, g1, g2, _, g4⟩ => by
   obtain ⟨A, cl, rfl, _, _, _, hall⟩ := g2 hc
   obtain ⟨b, o, cs, rfl, hb, hcl2, hcell, hE⟩ := hall p (r : Int) (by rw [← q1]; exact hpg)
   obtain ⟨rfl, _⟩ := hE
   rw [hc, List.length_map, hn] at g1
   exact ⟨b, o, cl, g1, ⟨hb, by simpa using hcell 0 _ rfl⟩, hX.trans (g4.mono hX.size)⟩)
  have HPT := Lib.hid (show MachSmall m → ∀ X, Below W1.heap.size W1 X → Calls Tryz.prog 11 #[.agg #[.string m.name, .int .i64 m.word, .int .i64 m.address, sr, sb, su, si], .int .i64 (i : Int)] X fun e w' => e = .returned (.tuple #[.int .i64 (p : Int), .int .i64 lw, .int .i64 (wd : Int), .int .i64 0]) ∧ Below X.heap.size X w' from fun hs X hX => by
   have h := zfk X _ m (hMV X hX) (hTX X hX) hs.effs i hz1
   have e : z4f m (i : Int) = ((p : Int), lw, (wd : Int)) := by unfold z4f; rw [if_pos (zi8 hc hx), Int.toNat_natCast, hx]; simp only [hp, hlw, hwd]
   rw [e, zi8 hc hx] at h
   exact h)
  have HWR := Lib.hid (show MachSmall m → ∀ X u, Below W1.heap.size W1 X → zd 1 u64E X u (List.replicate n 0) → Calls Tryz.prog 12 #[.agg #[.string m.name, .int .i64 m.word, .int .i64 m.address, sr, sb, su, si], u, .int .i64 (i : Int), .int .u64 (mk wd : Nat)] X fun e w' => ∃ A l c, e = .returned (.tuple #[.slice A l c, .int .i64 0]) ∧ zd 1 u64E w' (.slice A l c) L1 ∧ Below X.heap.size X w' from fun hs X u hX hu => (z7g X _ m (hMV X hX) (hTX X hX) hs.effs u (List.replicate n 0) hu i hz1 (mk wd) (by have := zsw wd (by omega); omega)).mono fun e w' ⟨v', g1, g2, g3⟩ => by
   rw [hL1] at g2
   rw [z1] at g1
   obtain ⟨A, c, rfl, _⟩ := id g2
   exact ⟨A, _, c, g1, g2, g3⟩)
  have HRD := Lib.hid (show MachSmall m → ∀ X u, Below W1.heap.size W1 X → zd 1 u64E X u L1 → Calls Tryz.prog 13 #[.agg #[.string m.name, .int .i64 m.word, .int .i64 m.address, sr, sb, su, si], u, .int .i64 (j : Int)] X fun e w' => e = .returned (.tuple #[.int .u64 (rv : Nat), .int .i64 0]) ∧ Below W1.heap.size W1 w' from fun hs X u hX hu => by
   have h := z4h X _ m (hMV X hX) (hTX X hX) hs.effs u L1 hu j hz2
   rw [hrv, z2] at h
   exact h.mono fun e w' ⟨g1, g2⟩ => ⟨g1, hX.trans (g2.mono hX.size)⟩)
  have hrz : ((rv : Int) != 0) = ov := by
   cases ov with
   | false => have := z3.2 rfl; simp [this]
   | true =>
     have : rv ≠ 0 := fun h => by have := z3.1 h; cases this
     simp; omega
  have hw64 : ¬ (64 : Int) < (wd : Int) := by omega
  have hmk := make64 n hnl
  have HNL := Lib.hid hnl
  have HS7 := Lib.hid (show ∀ X, Below W1.heap.size W1 X → ∀ d os, (grow (redrawn X d) os).cell? ⟨W.heap.size, 0, none⟩ = some (.string m.name) ∧ (grow (redrawn X d) os).cell? ⟨W.heap.size, 1, none⟩ = some (.int .i64 m.word) ∧ (grow (redrawn X d) os).cell? ⟨W.heap.size, 2, none⟩ = some (.int .i64 m.address) ∧ (grow (redrawn X d) os).cell? ⟨W.heap.size, 3, none⟩ = some sr ∧ (grow (redrawn X d) os).cell? ⟨W.heap.size, 4, none⟩ = some sb ∧ (grow (redrawn X d) os).cell? ⟨W.heap.size, 5, none⟩ = some su ∧ (grow (redrawn X d) os).cell? ⟨W.heap.size, 6, none⟩ = some si from fun X hX d os => HQ.out _ (hX.trans ((below_regrown X d os).mono hX.size)))
  clear hcs h1 h2 h3 hR hB hU hI hm' hT hTX hMV hW1 hb1 hl1 hblk1 hz1 hz2 hoe hOV hx hy hc q1 q2 q3 q4 q5 q7 q8 hp hpg hn z1 z2 z3 hlw hov hL1 hrv hlr hil hjl hrl
  go_enter Tryz.func3, Tryz.ntmps3
  go_wp2_with (first
   | (go_at_call 7; (with_reducible refine HAL.out.mono ?_); rintro e w3 ⟨rfl, hb3⟩; rw [← HW1.out] at hb3; obtain ⟨p0, p1, p2, p3, p4, p5, p6⟩ := HQ.out _ hb3)
   | (go_at_call 8; (with_reducible refine (HGT.out _ (by assumption)).mono ?_); rintro e w4 ⟨⟨g, rfl, hg⟩, hb4⟩; have HG := Lib.hid hg; clear hg; obtain ⟨q0, q1, q2, q3, q4, q5, q6⟩ := HQ.out _ hb4)
   | (go_at_call 9; (with_reducible refine (HOV1.out (HG.out (by first | assumption | simp_all)) _ (by assumption)).mono ?_); rintro e w5 ⟨rfl, hb5⟩; obtain ⟨r0, r1, r2, r3, r4, r5, r6⟩ := HQ.out _ hb5)
   | (go_at_call 9; (with_reducible refine (HOV2.out (HG.out (by first | assumption | simp_all)) _ (by assumption)).mono ?_); rintro e w6 ⟨rfl, hb6⟩; obtain ⟨s0, s1, s2, s3, s4, s5, s6⟩ := HQ.out _ hb6)
   | (go_at_call 9; (with_reducible refine (HOV3.out (HG.out (by first | assumption | simp_all)) _ (by assumption)).mono ?_); rintro e w7 ⟨rfl, hb7⟩; obtain ⟨t0, t1, t2, t3, t4, t5, t6⟩ := HQ.out _ hb7)
   | (go_at_call 10; (with_reducible refine (HRO.out (HG.out (by first | assumption | simp_all)) _ (by assumption)).mono ?_); rintro e w8 ⟨b, o, cl, rfl, ⟨hbl, hcl⟩, hb8⟩; obtain ⟨u0, u1, u2, u3, u4, u5, u6⟩ := HQ.out _ hb8)
   | (go_at_call 11; (with_reducible refine (HPT.out (HG.out (by first | assumption | simp_all)) _ (by assumption)).mono ?_); rintro e w9 ⟨rfl, hb9⟩; have hcl := (hb9.cell hbl).trans hcl; have hbl := Nat.lt_of_lt_of_le hbl hb9.size; have hb9 := hb8.trans (hb9.mono hb8.size); obtain ⟨y0, y1, y2, y3, y4, y5, y6⟩ := HQ.out _ hb9))
  ·exact bodyPost_ret (v := .bool true) (by simp [results, Tryz.results3, go_sem]) rfl ⟨rfl, HGR.out _ hb4⟩
  ·have hsm : MachSmall m := HG.out (by first | assumption | simp_all)
   have K0 := fun d os => (HS7.out _ hb9 d os).1
   have K1 := fun d os => (HS7.out _ hb9 d os).2.1
   have K2 := fun d os => (HS7.out _ hb9 d os).2.2.1
   have K3 := fun d os => (HS7.out _ hb9 d os).2.2.2.1
   have K4 := fun d os => (HS7.out _ hb9 d os).2.2.2.2.1
   have K5 := fun d os => (HS7.out _ hb9 d os).2.2.2.2.2.1
   have K6 := fun d os => (HS7.out _ hb9 d os).2.2.2.2.2.2
   have K7 := fun d os => cell_regrown hcl d os
   have HO4 := Lib.hid (fun d os => Calls.regrown_of (HOV4.out hsm (grow (redrawn w9 d) os) (hb9.trans ((below_regrown w9 d os).mono hb9.size))))
   have HBR := Lib.hid (show ∀ d os, Below W1.heap.size W1 (grow (redrawn w9 d) os) from fun d os => hb9.trans ((below_regrown w9 d os).mono hb9.size))
   clear y0 y1 y2 y3 y4 y5 y6 u0 u1 u2 u3 u4 u5 u6 t0 t1 t2 t3 t4 t5 t6 s0 s1 s2 s3 s4 s5 s6 r0 r1 r2 r3 r4 r5 r6 q0 q1 q2 q3 q4 q5 q6 p0 p1 p2 p3 p4 p5 p6 hcl hbl hb3 hb4 hb5 hb6 hb7 hb8 hb9
   have HSM := Lib.hid hsm
   clear hsm
   refine wp_region_quiet_below (by kernel_rfl) (by kernel_rfl) ?_
   repeat (first | go_big_quiet_step ((with_reducible exact HO4.out _ _)) | quiet_step ((with_reducible exact HO4.out _ _)))
   refine wpQuiet_nil ?_
   intro G hG
   have hbG : Below W1.heap.size W1 G := by obtain ⟨p, rfl⟩ := hG; exact HBR.out _ _
   obtain ⟨y0, y1, y2, y3, y4, y5, y6⟩ := HQ.out _ hbG
   have HBG := Lib.hid hbG
   clear hG K0 K1 K2 K3 K4 K5 K6 K7 HO4
   obtain ⟨sh, hsh⟩ : ∃ sh : Nat, (64 : Int) - (wd : Int) = (sh : Int) := ⟨64 - wd, by omega⟩
   have HSV := Lib.hid (zmx (show wd ≤ 64 by omega) hsh)
   have HBW := Lib.hid (show Below W1.heap.size W1 (G.alloc (.cells (Array.replicate n (.int .u64 0)) 41)).drew from (zaj hbG _).drew)
   have HRW := Lib.hid (show zd 1 u64E (G.alloc (.cells (Array.replicate n (.int .u64 0)) 41)).drew (.slice (some ⟨G.heap.size, 0, none⟩) n n) (List.replicate n 0) from zqw HNL.out (heap_alloc_new _ _) rfl)
   clear hbG
   go_wp2_with fail
   first | (go_region_held3 (fun w' => w'.cell? ⟨W.heap.size, 0, none⟩ = some (.string m.name) ∧ w'.cell? ⟨W.heap.size, 1, none⟩ = some (.int .i64 m.word) ∧ w'.cell? ⟨W.heap.size, 2, none⟩ = some (.int .i64 m.address) ∧ w'.cell? ⟨W.heap.size, 3, none⟩ = some sr ∧ w'.cell? ⟨W.heap.size, 4, none⟩ = some sb ∧ w'.cell? ⟨W.heap.size, 5, none⟩ = some su ∧ w'.cell? ⟨W.heap.size, 6, none⟩ = some si)
    (first | (refine HQ.out _ ?_; (repeat (first | assumption | exact HBG.out | refine Below.drew ?_ | refine zaj ?_ _)); done) | exact ⟨by assumption, by assumption, by assumption, by assumption, by assumption, by assumption, by assumption⟩ | go_keep)
    (first
      | (go_at_call 12; go_loud (rw [HSV.out]; (with_reducible refine (HWR.out HSM.out _ _ HBW.out HRW.out).mono ?_); rintro e w10 ⟨AN, ln, cN, rfl, hn, hb10⟩; have hb10 := HBW.out.trans (hb10.mono HBW.out.size); obtain ⟨g0, g1, g2, g3, g4, g5, g6⟩ := HQ.out _ hb10))))
   go_wp2_with (go_at_call 13; (with_reducible refine (HRD.out HSM.out _ _ (by assumption) (by assumption)).mono ?_); rintro e w11 ⟨rfl, hb11⟩)
   exact bodyPost_ret (v := .bool true) (by simp [results, Tryz.results3, go_sem]) rfl ⟨rfl, HGR.out _ hb11⟩
 ·have ho1 : ovB m a1 a2 = false := by unfold ovB; rw [if_neg (by rw [hoe]; exact h0)]
  have ho2 : ovB m a2 a1 = false := by unfold ovB; rw [if_neg (by rw [zk1, hoe]; exact h0)]
  have hoe2 := (zk1 m a1 a2).trans hoe
  have g : (oe != 0) = true := by simp [h0]
  have HOV1 := Lib.hid (show MachSmall m → ∀ X, Below W1.heap.size W1 X → Calls Tryz.prog 9 #[.agg #[.string m.name, .int .i64 m.word, .int .i64 m.address, sr, sb, su, si], .int .i64 a1, .int .i64 a2] X fun e w' => e = .returned (.tuple #[.bool false, .int .i64 oe]) ∧ Below W1.heap.size W1 w' from fun hs X hX => by have := hOV hs a1 a2 hz1 hz2 X hX; rw [hoe, ho1] at this; exact this)
  have HOV2 := Lib.hid (show MachSmall m → ∀ X, Below W1.heap.size W1 X → Calls Tryz.prog 9 #[.agg #[.string m.name, .int .i64 m.word, .int .i64 m.address, sr, sb, su, si], .int .i64 a2, .int .i64 a1] X fun e w' => e = .returned (.tuple #[.bool false, .int .i64 oe]) ∧ Below W1.heap.size W1 w' from fun hs X hX => by have := hOV hs a2 a1 hz2 hz1 X hX; rw [hoe2, ho2] at this; exact this)
  clear hcs h1 h2 h3 hR hB hU hI hm' hT hTX hMV hW1 hb1 hl1 hblk1 hz1 hz2 hoe hoe2 hOV ho1 ho2 h0
  go_enter Tryz.func3, Tryz.ntmps3
  go_wp2_with (first
   | (go_at_call 7; (with_reducible refine HAL.out.mono ?_); rintro e w3 ⟨rfl, hb3⟩; rw [← HW1.out] at hb3; obtain ⟨p0, p1, p2, p3, p4, p5, p6⟩ := HQ.out _ hb3)
   | (go_at_call 8; (with_reducible refine (HGT.out _ (by assumption)).mono ?_); rintro e w4 ⟨⟨g, rfl, hg⟩, hb4⟩; have HG := Lib.hid hg; clear hg; obtain ⟨q0, q1, q2, q3, q4, q5, q6⟩ := HQ.out _ hb4)
   | (go_at_call 9; (with_reducible refine (HOV1.out (HG.out (by first | assumption | simp_all)) _ hb4).mono ?_); rintro e w5 ⟨rfl, hb5⟩; obtain ⟨r0, r1, r2, r3, r4, r5, r6⟩ := HQ.out _ hb5)
   | (go_at_call 9; (with_reducible refine (HOV2.out (HG.out (by first | assumption | simp_all)) _ hb5).mono ?_); rintro e w6 ⟨rfl, hb6⟩))
  ·exact bodyPost_ret (v := .bool true) (by simp [results, Tryz.results3, go_sem]) rfl ⟨rfl, HGR.out _ hb4⟩
  ·exact bodyPost_ret (v := .bool true) (by simp [results, Tryz.results3, go_sem]) rfl ⟨rfl, HGR.out _ hb6⟩
end Go.Proofs.YtjjfeddenhemhaaGreatDoor.machineOverlaps
