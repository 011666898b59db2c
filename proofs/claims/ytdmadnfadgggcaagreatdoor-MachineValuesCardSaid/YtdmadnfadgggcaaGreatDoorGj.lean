import Derived.Test.YtdmadnfadgggcaaGreatDoorGi
set_option linter.unusedVariables false
set_option linter.unusedSimpArgs false
set_option warningAsError false
set_option maxHeartbeats 12000000
open Go.Lib (hid)
open Go.Proofs.Tryz (prog)
namespace Go.Proofs.YtdmadnfadgggcaaGreatDoor
open Go.RowKit Go.Instr Go.Sort
set_option maxRecDepth 100000
theorem zed (n : Int) (x : Nat) (w : World) : Calls prog 52 #[.int .i64 n, .int .u64 x] w fun e w' => e = .returned (.bool (z4n n x)) /\ w = w' := by
 unfold z4n;by_cases h : 1 <= n /\ n <= 64
 ·obtain ⟨m, rfl⟩ : ∃ m : Nat, n = m := ⟨n.toNat, by omega⟩;refine (zb4 m x w (by omega) (by omega)).mono fun e w' ⟨h1, h2⟩ => ⟨?_, h2⟩;rw [h1, show decide (1 <= (m : Int) /\ (m : Int) <= 64) = true by simpa using h, Bool.true_and];simp
 ·refine (zhd n x w (by omega)).mono fun e w' ⟨h1, h2⟩ => ⟨?_, h2⟩;rw [h1, show decide (1 <= n /\ n <= 64) = false by simpa using h, Bool.false_and]
theorem z82 (W : World) (k : Nat) (L : List MBank) (others : List MOper) (nm : Value) (bk sc td : Int) (Ap AB AO : Option Addr) (np cp nB cB nO cO : Nat) (hk : k < W.heap.size) (c4 : W.cell? ⟨k, 4, none⟩ = some (.slice AB nB cB))
 (hL : zf 2 z1m W (.slice AB nB cB) L) (hnB : L.length = nB) (hpos : ∀ x ∈ L, 0 < x.regs.length) (hO : zf 6 z1g W (.slice AO nO cO) others) (hnO : others.length = nO) (fw : Int)
 (hfw : ∀ X, Below W.heap.size W X -> Calls prog 114 #[.agg #[nm, .int .u8 1, .int .i64 bk, .int .i64 sc, .slice Ap np cp, .int .i64 td]] X fun e w' => e = .returned (.int .i64 fw) /\ Below X.heap.size X w') :
 Calls prog 172 #[.pointer (some ⟨k, 0, none⟩), .agg #[nm, .int .u8 1, .int .i64 bk, .int .i64 sc, .slice Ap np cp, .int .i64 td], .slice AO nO cO] W fun e w' => e = .returned (.bool (if 0 <= bk then (match L[bk.toNat]? with | none => false | some b => if sc ≠ 0 then false else if td = -1 then decide (0 < np) && z4n fw (b.regs.length - 1) else decide (np = 0) && z59 others td bk) else false)) /\ Below W.heap.size W w' := by
 obtain ⟨W1, hW1⟩ : ∃ W1, W1 = W.alloc (.cells #[nm, .int .u8 1, .int .i64 bk, .int .i64 sc, .slice Ap np cp, .int .i64 td] 86) := ⟨_, rfl⟩;have HW := hid hW1;have hb : Below W.heap.size W W1 := by rw [hW1]; exact (Below.refl _ _).alloc (Nat.le_refl _) _
 have HB := hid (zg hb hb.size);have f0 : W1.cell? ⟨W.heap.size, 0, none⟩ = some (nm) := by rw [hW1]; simp only [World.cell?]; rw [heap_alloc_new]; rfl
 have K0 := cell_regrown f0;have f1 : W1.cell? ⟨W.heap.size, 1, none⟩ = some (.int .u8 1) := by rw [hW1]; simp only [World.cell?]; rw [heap_alloc_new]; rfl
 have K1 := cell_regrown f1;have f2 : W1.cell? ⟨W.heap.size, 2, none⟩ = some (.int .i64 bk) := by rw [hW1]; simp only [World.cell?]; rw [heap_alloc_new]; rfl
 have K2 := cell_regrown f2;have f3 : W1.cell? ⟨W.heap.size, 3, none⟩ = some (.int .i64 sc) := by rw [hW1]; simp only [World.cell?]; rw [heap_alloc_new]; rfl
 have K3 := cell_regrown f3;have f4 : W1.cell? ⟨W.heap.size, 4, none⟩ = some (.slice Ap np cp) := by rw [hW1]; simp only [World.cell?]; rw [heap_alloc_new]; rfl
 have K4 := cell_regrown f4;have f5 : W1.cell? ⟨W.heap.size, 5, none⟩ = some (.int .i64 td) := by rw [hW1]; simp only [World.cell?]; rw [heap_alloc_new]; rfl
 have K5 := cell_regrown f5;have d4 := (hb.cell (p := ⟨k, 4, none⟩) hk).trans c4;have K9 := cell_regrown d4;have iB : ∀ d os, Calls prog 183 #[.int .i64 bk, .slice AB nB cB] (grow (redrawn W1 d) os) fun e w'' => e = .returned (.bool (decide (0 <= bk /\ bk < nB))) /\ ∃ p : Regrown, w'' = grow (redrawn W1 p.d) p.os := fun d os => zh (z8y _ _ _ _ _);have iO : ∀ G d os, Calls prog 184 #[.int .i64 td, .slice AO nO cO] (grow (redrawn G d) os) fun e w'' => e = .returned (.bool (decide (0 <= td /\ td < nO))) /\ ∃ p : Regrown, w'' = grow (redrawn G p.d) p.os := fun G d os => zh (z5x _ _ _ _ _);by_cases e2 : 0 <= bk /\ bk < nB
 ·rw [show decide (0 <= bk /\ bk < (nB : Int)) = true by simpa using e2] at iB;obtain ⟨i, rfl⟩ : ∃ i : Nat, bk = i := ⟨bk.toNat, by omega⟩;obtain ⟨y, hy⟩ : ∃ y, L[i]? = some y := ⟨_, List.getElem?_eq_getElem (by omega)⟩;have hy0 := hpos y (List.mem_of_getElem? hy);obtain ⟨A', c', e3, _, _, _, hall⟩ := hL;obtain ⟨b, o, cs, e4, hbl, hcl, hcell, hE⟩ := hall i y hy;obtain ⟨rfl, rfl, rfl⟩ : AB = A' /\ nB = L.length /\ cB = c' := by cases e3; exact ⟨rfl, rfl, rfl⟩
  subst e4;obtain ⟨sv, rfl, _, A5, c5, rfl, hm5, _⟩ := hE;have p1 := (hb.cell (p := ⟨b, o + i * 2 + 1, none⟩) hbl).trans (hcell 1 _ rfl);rw [if_pos e2.1, show (i : Int).toNat = i by simp, hy];show Calls _ _ _ _ (fun e w' => e = .returned (.bool (if sc ≠ 0 then false else if td = -1 then decide (0 < np) && z4n fw (y.regs.length - 1) else decide (np = 0) && z59 others td i)) /\ _);obtain ⟨n5, hn5⟩ : ∃ z, y.regs.length = z := ⟨_, rfl⟩;rw [hn5] at p1 hy0 hm5 ⊢;have KY := cell_regrown p1;have hin : (i : Int) < (L.length : Int) := e2.2;have hi0 : (0 : Int) <= (i : Int) := e2.1;have hw5 : wrap64 ((n5 : Int) - 1) = ((n5 - 1 : Nat) : Int) := by have : n5 <= 9223372036854775807 := Nat.le_trans hm5 (by decide);rw [zd _ (by omega) (by omega)]; omega
  have hu5 : IntKind.u64.wrap ((n5 - 1 : Nat) : Int) = ((n5 - 1 : Nat) : Int) := by have : n5 <= 9223372036854775807 := Nat.le_trans hm5 (by decide);simp [IntKind.wrap, IntKind.bits, IntKind.signed]; omega
  rw [show ((n5 : Int) - 1) = ((n5 - 1 : Nat) : Int) by omega];obtain ⟨m5, hm5'⟩ : ∃ z, n5 - 1 = z := ⟨_, rfl⟩;rw [hm5'] at hw5 hu5 ⊢;have IB := hid iB;have HF := hid hfw;clear iB hb hW1 hy hall hcell hcl hfw e2 c4 e3 hnB hpos hn5 hm5 hy0 hm5';obtain ⟨nB, hnB2⟩ : ∃ n, L.length = n := ⟨_, rfl⟩;rw [hnB2] at hin d4 K9 IB;clear hnB2;by_cases e5 : sc = 0
  ·subst e5;rw [if_neg (by simp)];by_cases e7 : td = -1
   ·subst e7;rw [if_pos rfl];clear iO;by_cases e6 : np = 0
    ·subst e6;go_enter Tryz.func172, Tryz.ntmps172
     go_wp2_with fail
     rw [<- HW.out];refine wp_region_quiet_below (by kernel_rfl) (by kernel_rfl) ?_;repeat (first | go_big_quiet_step (first | (with_reducible exact IB.out _ _)) | quiet_step (first | (with_reducible exact IB.out _ _)))
     refine wpQuiet_nil ?_;intro G hG;have g0 : G.cell? ⟨W.heap.size, 0, none⟩ = some (nm) := (by obtain ⟨p, rfl⟩ := hG; exact K0 _ _);have g1 : G.cell? ⟨W.heap.size, 1, none⟩ = some (.int .u8 1) := (by obtain ⟨p, rfl⟩ := hG; exact K1 _ _);have g2 : G.cell? ⟨W.heap.size, 2, none⟩ = some (.int .i64 i) := (by obtain ⟨p, rfl⟩ := hG; exact K2 _ _);have g3 : G.cell? ⟨W.heap.size, 3, none⟩ = some (.int .i64 0) := (by obtain ⟨p, rfl⟩ := hG; exact K3 _ _);have g4 : G.cell? ⟨W.heap.size, 4, none⟩ = some (.slice Ap 0 cp) := (by obtain ⟨p, rfl⟩ := hG; exact K4 _ _);have g5 : G.cell? ⟨W.heap.size, 5, none⟩ = some (.int .i64 (-1)) := (by obtain ⟨p, rfl⟩ := hG; exact K5 _ _);have g9 : G.cell? ⟨k, 4, none⟩ = some (.slice (some ⟨b, o, none⟩) nB cB) := (by obtain ⟨p, rfl⟩ := hG; exact K9 _ _);have gy : G.cell? ⟨b, o + i * 2 + 1, none⟩ = some (.slice A5 n5 c5) := (by obtain ⟨p, rfl⟩ := hG; exact KY _ _);have hbG : Below W.heap.size W G := (by obtain ⟨p, rfl⟩ := hG; exact HB.out _ _);have HBG := hid (zg hbG hbG.size);clear hG;have J0 := cell_regrown g0;have J1 := cell_regrown g1;have J2 := cell_regrown g2;have J3 := cell_regrown g3;have J4 := cell_regrown g4;have J5 := cell_regrown g5;have J9 := cell_regrown g9;have JY := cell_regrown gy;go_wp2
     refine wp_region_quiet_below (by kernel_rfl) (by kernel_rfl) ?_;repeat (first | go_big_quiet_step (fail) | quiet_step (fail))
     refine wpQuiet_nil ?_;intro G2 hG2;have r0 : G2.cell? ⟨W.heap.size, 0, none⟩ = some (nm) := (by obtain ⟨p, rfl⟩ := hG2; exact J0 _ _);have r1 : G2.cell? ⟨W.heap.size, 1, none⟩ = some (.int .u8 1) := (by obtain ⟨p, rfl⟩ := hG2; exact J1 _ _);have r2 : G2.cell? ⟨W.heap.size, 2, none⟩ = some (.int .i64 i) := (by obtain ⟨p, rfl⟩ := hG2; exact J2 _ _);have r3 : G2.cell? ⟨W.heap.size, 3, none⟩ = some (.int .i64 0) := (by obtain ⟨p, rfl⟩ := hG2; exact J3 _ _);have r4 : G2.cell? ⟨W.heap.size, 4, none⟩ = some (.slice Ap 0 cp) := (by obtain ⟨p, rfl⟩ := hG2; exact J4 _ _);have r5 : G2.cell? ⟨W.heap.size, 5, none⟩ = some (.int .i64 (-1)) := (by obtain ⟨p, rfl⟩ := hG2; exact J5 _ _);have hbG2 : Below W.heap.size W G2 := (by obtain ⟨p, rfl⟩ := hG2; exact HBG.out _ _);clear hG2;go_wp2
     go_ret
     exact ⟨rfl, hbG2⟩
    ·have gp : (0 : Int) < (np : Int) := (by omega);have gp2 : 0 < np := (by omega);rw [show decide (0 < np) = true by simpa using gp2, Bool.true_and];clear e6;go_enter Tryz.func172, Tryz.ntmps172
     go_wp2_with fail
     rw [<- HW.out];refine wp_region_quiet_below (by kernel_rfl) (by kernel_rfl) ?_;repeat (first | go_big_quiet_step (first | (with_reducible exact IB.out _ _)) | quiet_step (first | (with_reducible exact IB.out _ _)))
     refine wpQuiet_nil ?_;intro G hG;have g0 : G.cell? ⟨W.heap.size, 0, none⟩ = some (nm) := (by obtain ⟨p, rfl⟩ := hG; exact K0 _ _);have g1 : G.cell? ⟨W.heap.size, 1, none⟩ = some (.int .u8 1) := (by obtain ⟨p, rfl⟩ := hG; exact K1 _ _);have g2 : G.cell? ⟨W.heap.size, 2, none⟩ = some (.int .i64 i) := (by obtain ⟨p, rfl⟩ := hG; exact K2 _ _);have g3 : G.cell? ⟨W.heap.size, 3, none⟩ = some (.int .i64 0) := (by obtain ⟨p, rfl⟩ := hG; exact K3 _ _);have g4 : G.cell? ⟨W.heap.size, 4, none⟩ = some (.slice Ap np cp) := (by obtain ⟨p, rfl⟩ := hG; exact K4 _ _);have g5 : G.cell? ⟨W.heap.size, 5, none⟩ = some (.int .i64 (-1)) := (by obtain ⟨p, rfl⟩ := hG; exact K5 _ _);have g9 : G.cell? ⟨k, 4, none⟩ = some (.slice (some ⟨b, o, none⟩) nB cB) := (by obtain ⟨p, rfl⟩ := hG; exact K9 _ _);have gy : G.cell? ⟨b, o + i * 2 + 1, none⟩ = some (.slice A5 n5 c5) := (by obtain ⟨p, rfl⟩ := hG; exact KY _ _);have hbG : Below W.heap.size W G := (by obtain ⟨p, rfl⟩ := hG; exact HB.out _ _);have HBG := hid (zg hbG hbG.size);clear hG;have J0 := cell_regrown g0;have J1 := cell_regrown g1;have J2 := cell_regrown g2;have J3 := cell_regrown g3;have J4 := cell_regrown g4;have J5 := cell_regrown g5;have J9 := cell_regrown g9;have JY := cell_regrown gy;go_wp2
     refine wp_region_quiet_below (by kernel_rfl) (by kernel_rfl) ?_;repeat (first | go_big_quiet_step (fail) | quiet_step (fail))
     refine wpQuiet_nil ?_;intro G2 hG2;have r0 : G2.cell? ⟨W.heap.size, 0, none⟩ = some (nm) := (by obtain ⟨p, rfl⟩ := hG2; exact J0 _ _);have r1 : G2.cell? ⟨W.heap.size, 1, none⟩ = some (.int .u8 1) := (by obtain ⟨p, rfl⟩ := hG2; exact J1 _ _);have r2 : G2.cell? ⟨W.heap.size, 2, none⟩ = some (.int .i64 i) := (by obtain ⟨p, rfl⟩ := hG2; exact J2 _ _);have r3 : G2.cell? ⟨W.heap.size, 3, none⟩ = some (.int .i64 0) := (by obtain ⟨p, rfl⟩ := hG2; exact J3 _ _);have r4 : G2.cell? ⟨W.heap.size, 4, none⟩ = some (.slice Ap np cp) := (by obtain ⟨p, rfl⟩ := hG2; exact J4 _ _);have r5 : G2.cell? ⟨W.heap.size, 5, none⟩ = some (.int .i64 (-1)) := (by obtain ⟨p, rfl⟩ := hG2; exact J5 _ _);have hbG2 : Below W.heap.size W G2 := (by obtain ⟨p, rfl⟩ := hG2; exact HBG.out _ _);clear hG2
     go_wp2_with (first
      | (go_at_call 114; (with_reducible refine (HF.out G2 hbG2).mono ?_); rintro e G3 ⟨rfl, hbG3⟩)
      | (go_at_call 52; (with_reducible refine (zed _ m5 _).mono ?_); rintro e w' ⟨rfl, rfl⟩))
     go_ret
     exact ⟨rfl, hbG2.trans (hbG3.mono hbG2.size)⟩
   ·rw [if_neg e7];have g7 : (td == -1) = false := (by simp [e7]);by_cases e6 : np = 0
    ·subst e6;rw [show decide ((0 : Nat) = 0) = true by simp, Bool.true_and];by_cases e8 : 0 <= td /\ td < nO
     ·rw [show decide (0 <= td /\ td < (nO : Int)) = true by simpa using e8] at iO;obtain ⟨t, rfl⟩ : ∃ t : Nat, td = t := ⟨td.toNat, by omega⟩;obtain ⟨yt, hyt⟩ : ∃ y, others[t]? = some y := ⟨_, List.getElem?_eq_getElem (by omega)⟩;rw [show z59 others (t : Int) (i : Int) = (decide ((yt.kind : Int) = 1) && (decide (yt.bank = (i : Int)) && decide (yt.tied = -1))) by unfold z59; rw [if_pos e8.1, show (t : Int).toNat = t by simp, hyt]];obtain ⟨A', c', e9, _, _, _, hallO⟩ := hO;obtain ⟨bt, ot, cst, e10, hblt, hclt, hcellt, hEt⟩ := hallO t yt hyt;obtain ⟨rfl, rfl, rfl⟩ : AO = A' /\ nO = others.length /\ cO = c' := by cases e9; exact ⟨rfl, rfl, rfl⟩
      subst e10;have hEt2 := hEt;obtain ⟨svt, rfl, _⟩ := hEt;have htg : ∀ X, Below W.heap.size W X -> Calls prog 185 #[.agg #[.string yt.name, .int .u8 (yt.kind : Nat), .int .i64 yt.bank, .int .i64 yt.scale, svt, .int .i64 yt.tied], .int .i64 i] X fun e w' => e = .returned (.bool (decide ((yt.kind : Int) = 1) && (decide (yt.bank = (i : Int)) && decide (yt.tied = -1)))) /\ Below X.heap.size X w' := fun X hX => z91 X yt i _ (hEt2.kept hX);have z0 : W.cell? ⟨bt, ot + t * 6, none⟩ = some (.string yt.name) := hcellt 0 _ rfl;have z1 : W.cell? ⟨bt, ot + t * 6 + 1, none⟩ = some (.int .u8 (yt.kind : Nat)) := hcellt 1 _ rfl;have z2 : W.cell? ⟨bt, ot + t * 6 + 2, none⟩ = some (.int .i64 yt.bank) := hcellt 2 _ rfl;have z3 : W.cell? ⟨bt, ot + t * 6 + 3, none⟩ = some (.int .i64 yt.scale) := hcellt 3 _ rfl;have z4 : W.cell? ⟨bt, ot + t * 6 + 4, none⟩ = some svt := hcellt 4 _ rfl;have z5 : W.cell? ⟨bt, ot + t * 6 + 5, none⟩ = some (.int .i64 yt.tied) := hcellt 5 _ rfl;obtain ⟨rt, hrt⟩ : ∃ z, (decide ((yt.kind : Int) = 1) && (decide (yt.bank = (i : Int)) && decide (yt.tied = -1))) = z := ⟨_, rfl⟩;rw [hrt] at htg ⊢;obtain ⟨x0, h0⟩ : ∃ z, Value.string yt.name = z := ⟨_, rfl⟩;rw [h0] at z0 htg;obtain ⟨x1, h1⟩ : ∃ z, Value.int .u8 (yt.kind : Nat) = z := ⟨_, rfl⟩;rw [h1] at z1 htg;obtain ⟨x2, h2⟩ : ∃ z, Value.int .i64 yt.bank = z := ⟨_, rfl⟩;rw [h2] at z2 htg;obtain ⟨x3, h3⟩ : ∃ z, Value.int .i64 yt.scale = z := ⟨_, rfl⟩;rw [h3] at z3 htg;obtain ⟨x5, h5⟩ : ∃ z, Value.int .i64 yt.tied = z := ⟨_, rfl⟩;rw [h5] at z5 htg;obtain ⟨x4, h4⟩ : ∃ z, svt = z := ⟨_, rfl⟩;rw [h4] at z4 htg;have htn : (t : Int) < (others.length : Int) := e8.2;have ht0 : (0 : Int) <= (t : Int) := e8.1;clear hEt2 hrt h0 h1 h2 h3 h4 h5;have HTG := hid htg;have IO := hid iO;clear iO hyt hallO hcellt e9 e8 hnO htg e7;obtain ⟨nO, hnO2⟩ : ∃ n, others.length = n := ⟨_, rfl⟩;rw [hnO2] at htn IO;rw [hnO2];clear hnO2;go_enter Tryz.func172, Tryz.ntmps172
      go_wp2_with fail
      rw [<- HW.out];refine wp_region_quiet_below (by kernel_rfl) (by kernel_rfl) ?_;repeat (first | go_big_quiet_step (first | (with_reducible exact IB.out _ _)) | quiet_step (first | (with_reducible exact IB.out _ _)))
      refine wpQuiet_nil ?_;intro G hG;have g0 : G.cell? ⟨W.heap.size, 0, none⟩ = some (nm) := (by obtain ⟨p, rfl⟩ := hG; exact K0 _ _);have g1 : G.cell? ⟨W.heap.size, 1, none⟩ = some (.int .u8 1) := (by obtain ⟨p, rfl⟩ := hG; exact K1 _ _);have g2 : G.cell? ⟨W.heap.size, 2, none⟩ = some (.int .i64 i) := (by obtain ⟨p, rfl⟩ := hG; exact K2 _ _);have g3 : G.cell? ⟨W.heap.size, 3, none⟩ = some (.int .i64 0) := (by obtain ⟨p, rfl⟩ := hG; exact K3 _ _);have g4 : G.cell? ⟨W.heap.size, 4, none⟩ = some (.slice Ap 0 cp) := (by obtain ⟨p, rfl⟩ := hG; exact K4 _ _);have g5 : G.cell? ⟨W.heap.size, 5, none⟩ = some (.int .i64 t) := (by obtain ⟨p, rfl⟩ := hG; exact K5 _ _);have g9 : G.cell? ⟨k, 4, none⟩ = some (.slice (some ⟨b, o, none⟩) nB cB) := (by obtain ⟨p, rfl⟩ := hG; exact K9 _ _);have gy : G.cell? ⟨b, o + i * 2 + 1, none⟩ = some (.slice A5 n5 c5) := (by obtain ⟨p, rfl⟩ := hG; exact KY _ _);have hbG : Below W.heap.size W G := (by obtain ⟨p, rfl⟩ := hG; exact HB.out _ _);have HBG := hid (zg hbG hbG.size);clear hG;have q0 := fun d os => cell_regrown ((hbG.cell (p := ⟨bt, ot + t * 6, none⟩) hblt).trans z0) d os;have q1 := fun d os => cell_regrown ((hbG.cell (p := ⟨bt, ot + t * 6 + 1, none⟩) hblt).trans z1) d os;have q2 := fun d os => cell_regrown ((hbG.cell (p := ⟨bt, ot + t * 6 + 2, none⟩) hblt).trans z2) d os;have q3 := fun d os => cell_regrown ((hbG.cell (p := ⟨bt, ot + t * 6 + 3, none⟩) hblt).trans z3) d os;have q4 := fun d os => cell_regrown ((hbG.cell (p := ⟨bt, ot + t * 6 + 4, none⟩) hblt).trans z4) d os;have q5 := fun d os => cell_regrown ((hbG.cell (p := ⟨bt, ot + t * 6 + 5, none⟩) hblt).trans z5) d os;have IT := hid (fun d os => Calls.regrown_of (HTG.out _ (HBG.out d os)));have J0 := cell_regrown g0;have J1 := cell_regrown g1;have J2 := cell_regrown g2;have J3 := cell_regrown g3;have J4 := cell_regrown g4;have J5 := cell_regrown g5;go_wp2
      refine wp_region_quiet_below (by kernel_rfl) (by kernel_rfl) ?_;repeat (first | go_big_quiet_step (first | (with_reducible exact IO.out G _ _) | (with_reducible exact IT.out _ _)) | quiet_step (first | (with_reducible exact IO.out G _ _) | (with_reducible exact IT.out _ _)))
      refine wpQuiet_nil ?_;intro G2 hG2;have hbG2 : Below W.heap.size W G2 := (by obtain ⟨p, rfl⟩ := hG2; exact HBG.out _ _);clear hG2;go_wp2
      go_ret
      exact ⟨rfl, hbG2⟩
     ·rw [show decide (0 <= td /\ td < (nO : Int)) = false by simpa using e8] at iO;rw [show z59 others td (i : Int) = false by
       unfold z59;by_cases h0 : 0 <= td
       ·rw [if_pos h0, List.getElem?_eq_none (by omega)]
       ·rw [if_neg h0]]
      have IO := hid iO;clear iO e8 hO e7;go_enter Tryz.func172, Tryz.ntmps172
      go_wp2_with fail
      rw [<- HW.out];refine wp_region_quiet_below (by kernel_rfl) (by kernel_rfl) ?_;repeat (first | go_big_quiet_step (first | (with_reducible exact IB.out _ _)) | quiet_step (first | (with_reducible exact IB.out _ _)))
      refine wpQuiet_nil ?_;intro G hG;have g0 : G.cell? ⟨W.heap.size, 0, none⟩ = some (nm) := (by obtain ⟨p, rfl⟩ := hG; exact K0 _ _);have g1 : G.cell? ⟨W.heap.size, 1, none⟩ = some (.int .u8 1) := (by obtain ⟨p, rfl⟩ := hG; exact K1 _ _);have g2 : G.cell? ⟨W.heap.size, 2, none⟩ = some (.int .i64 i) := (by obtain ⟨p, rfl⟩ := hG; exact K2 _ _);have g3 : G.cell? ⟨W.heap.size, 3, none⟩ = some (.int .i64 0) := (by obtain ⟨p, rfl⟩ := hG; exact K3 _ _);have g4 : G.cell? ⟨W.heap.size, 4, none⟩ = some (.slice Ap 0 cp) := (by obtain ⟨p, rfl⟩ := hG; exact K4 _ _);have g5 : G.cell? ⟨W.heap.size, 5, none⟩ = some (.int .i64 td) := (by obtain ⟨p, rfl⟩ := hG; exact K5 _ _);have g9 : G.cell? ⟨k, 4, none⟩ = some (.slice (some ⟨b, o, none⟩) nB cB) := (by obtain ⟨p, rfl⟩ := hG; exact K9 _ _);have gy : G.cell? ⟨b, o + i * 2 + 1, none⟩ = some (.slice A5 n5 c5) := (by obtain ⟨p, rfl⟩ := hG; exact KY _ _);have hbG : Below W.heap.size W G := (by obtain ⟨p, rfl⟩ := hG; exact HB.out _ _);have HBG := hid (zg hbG hbG.size);clear hG;have J0 := cell_regrown g0;have J1 := cell_regrown g1;have J2 := cell_regrown g2;have J3 := cell_regrown g3;have J4 := cell_regrown g4;have J5 := cell_regrown g5;go_wp2
      refine wp_region_quiet_below (by kernel_rfl) (by kernel_rfl) ?_;repeat (first | go_big_quiet_step (first | (with_reducible exact IO.out G _ _)) | quiet_step (first | (with_reducible exact IO.out G _ _)))
      refine wpQuiet_nil ?_;intro G2 hG2;have hbG2 : Below W.heap.size W G2 := (by obtain ⟨p, rfl⟩ := hG2; exact HBG.out _ _);clear hG2;go_wp2
      go_ret
      exact ⟨rfl, hbG2⟩
    ·have gp : ((np : Int) == 0) = false := (by simp; omega);rw [show decide (np = 0) = false by simpa using e6, Bool.false_and];clear e6 e7 iO hO;go_enter Tryz.func172, Tryz.ntmps172
     go_wp2_with fail
     rw [<- HW.out];refine wp_region_quiet_below (by kernel_rfl) (by kernel_rfl) ?_;repeat (first | go_big_quiet_step (first | (with_reducible exact IB.out _ _)) | quiet_step (first | (with_reducible exact IB.out _ _)))
     refine wpQuiet_nil ?_;intro G hG;have g0 : G.cell? ⟨W.heap.size, 0, none⟩ = some (nm) := (by obtain ⟨p, rfl⟩ := hG; exact K0 _ _);have g1 : G.cell? ⟨W.heap.size, 1, none⟩ = some (.int .u8 1) := (by obtain ⟨p, rfl⟩ := hG; exact K1 _ _);have g2 : G.cell? ⟨W.heap.size, 2, none⟩ = some (.int .i64 i) := (by obtain ⟨p, rfl⟩ := hG; exact K2 _ _);have g3 : G.cell? ⟨W.heap.size, 3, none⟩ = some (.int .i64 0) := (by obtain ⟨p, rfl⟩ := hG; exact K3 _ _);have g4 : G.cell? ⟨W.heap.size, 4, none⟩ = some (.slice Ap np cp) := (by obtain ⟨p, rfl⟩ := hG; exact K4 _ _);have g5 : G.cell? ⟨W.heap.size, 5, none⟩ = some (.int .i64 td) := (by obtain ⟨p, rfl⟩ := hG; exact K5 _ _);have g9 : G.cell? ⟨k, 4, none⟩ = some (.slice (some ⟨b, o, none⟩) nB cB) := (by obtain ⟨p, rfl⟩ := hG; exact K9 _ _);have gy : G.cell? ⟨b, o + i * 2 + 1, none⟩ = some (.slice A5 n5 c5) := (by obtain ⟨p, rfl⟩ := hG; exact KY _ _);have hbG : Below W.heap.size W G := (by obtain ⟨p, rfl⟩ := hG; exact HB.out _ _);have HBG := hid (zg hbG hbG.size);clear hG;have J0 := cell_regrown g0;have J1 := cell_regrown g1;have J2 := cell_regrown g2;have J3 := cell_regrown g3;have J4 := cell_regrown g4;have J5 := cell_regrown g5;go_wp2
     refine wp_region_quiet_below (by kernel_rfl) (by kernel_rfl) ?_;repeat (first | go_big_quiet_step (fail) | quiet_step (fail))
     refine wpQuiet_nil ?_;intro G2 hG2;have hbG2 : Below W.heap.size W G2 := (by obtain ⟨p, rfl⟩ := hG2; exact HBG.out _ _);clear hG2;go_wp2
     go_ret
     exact ⟨rfl, hbG2⟩
  ·rw [if_pos e5];have g5 : (sc != 0) = true := by simp [e5]
   clear e5 iO hO;go_enter Tryz.func172, Tryz.ntmps172
   go_wp2_with fail
   rw [<- HW.out];refine wp_region_quiet_below (by kernel_rfl) (by kernel_rfl) ?_;repeat (first | go_big_quiet_step (first | (with_reducible exact IB.out _ _)) | quiet_step (first | (with_reducible exact IB.out _ _)))
   refine wpQuiet_nil ?_;intro G hG;have g0 : G.cell? ⟨W.heap.size, 0, none⟩ = some (nm) := by obtain ⟨p, rfl⟩ := hG; exact K0 _ _
   have g1 : G.cell? ⟨W.heap.size, 1, none⟩ = some (.int .u8 1) := by obtain ⟨p, rfl⟩ := hG; exact K1 _ _
   have g2 : G.cell? ⟨W.heap.size, 2, none⟩ = some (.int .i64 i) := by obtain ⟨p, rfl⟩ := hG; exact K2 _ _
   have g3 : G.cell? ⟨W.heap.size, 3, none⟩ = some (.int .i64 sc) := by obtain ⟨p, rfl⟩ := hG; exact K3 _ _
   have g4 : G.cell? ⟨W.heap.size, 4, none⟩ = some (.slice Ap np cp) := by obtain ⟨p, rfl⟩ := hG; exact K4 _ _
   have g5 : G.cell? ⟨W.heap.size, 5, none⟩ = some (.int .i64 td) := by obtain ⟨p, rfl⟩ := hG; exact K5 _ _
   have g9 : G.cell? ⟨k, 4, none⟩ = some (.slice (some ⟨b, o, none⟩) nB cB) := by obtain ⟨p, rfl⟩ := hG; exact K9 _ _
   have gy : G.cell? ⟨b, o + i * 2 + 1, none⟩ = some (.slice A5 n5 c5) := by obtain ⟨p, rfl⟩ := hG; exact KY _ _
   have hbG : Below W.heap.size W G := by obtain ⟨p, rfl⟩ := hG; exact HB.out _ _
   have HBG := hid (zg hbG hbG.size);clear hG;go_wp2
   go_ret
   exact ⟨rfl, hbG⟩
 ·rw [show decide (0 <= bk /\ bk < (nB : Int)) = false by simpa using e2] at iB;rw [show (if 0 <= bk then (match L[bk.toNat]? with | none => false | some b => if sc ≠ 0 then false else if td = -1 then decide (0 < np) && z4n fw (b.regs.length - 1) else decide (np = 0) && z59 others td bk) else false) = false by
   by_cases h0 : 0 <= bk
   ·rw [if_pos h0, List.getElem?_eq_none (by omega)]
   ·rw [if_neg h0]]
  have IB := hid iB;clear iB hb hW1 e2 hO hL iO;go_enter Tryz.func172, Tryz.ntmps172
  go_wp2_with fail
  rw [<- HW.out];refine wp_region_quiet_below (by kernel_rfl) (by kernel_rfl) ?_;repeat (first | go_big_quiet_step (first | (with_reducible exact IB.out _ _)) | quiet_step (first | (with_reducible exact IB.out _ _)))
  refine wpQuiet_nil ?_;intro G hG;have g0 : G.cell? ⟨W.heap.size, 0, none⟩ = some (nm) := by obtain ⟨p, rfl⟩ := hG; exact K0 _ _
  have g1 : G.cell? ⟨W.heap.size, 1, none⟩ = some (.int .u8 1) := by obtain ⟨p, rfl⟩ := hG; exact K1 _ _
  have g2 : G.cell? ⟨W.heap.size, 2, none⟩ = some (.int .i64 bk) := by obtain ⟨p, rfl⟩ := hG; exact K2 _ _
  have g3 : G.cell? ⟨W.heap.size, 3, none⟩ = some (.int .i64 sc) := by obtain ⟨p, rfl⟩ := hG; exact K3 _ _
  have g4 : G.cell? ⟨W.heap.size, 4, none⟩ = some (.slice Ap np cp) := by obtain ⟨p, rfl⟩ := hG; exact K4 _ _
  have g5 : G.cell? ⟨W.heap.size, 5, none⟩ = some (.int .i64 td) := by obtain ⟨p, rfl⟩ := hG; exact K5 _ _
  have hbG : Below W.heap.size W G := by obtain ⟨p, rfl⟩ := hG; exact HB.out _ _
  have HBG := hid (zg hbG hbG.size);clear hG;go_wp2
  go_ret
  exact ⟨rfl, hbG⟩
theorem z3k (kd : Int) (hkd : kd = 2 ∨ kd = 3 ∨ kd = 4) (W : World) (k : Nat) (address : Int) (nm : Value) (bk sc td : Int) (Ap : Option Addr) (np cp : Nat) (vo : Value) (hk : k < W.heap.size) (c2 : W.cell? ⟨k, 2, none⟩ = some (.int .i64 address)) (ha : 0 <= address /\ address <= 1000) (fw : Int)
 (hfw : ∀ X, Below W.heap.size W X -> Calls prog 114 #[.agg #[nm, .int .u8 kd, .int .i64 bk, .int .i64 sc, .slice Ap np cp, .int .i64 td]] X fun e w' => e = .returned (.int .i64 fw) /\ Below X.heap.size X w') :
 Calls prog 172 #[.pointer (some ⟨k, 0, none⟩), .agg #[nm, .int .u8 kd, .int .i64 bk, .int .i64 sc, .slice Ap np cp, .int .i64 td], vo] W fun e w' => e = .returned (.bool (decide (bk = 0) && (decide (td = -1) && (decide (0 <= sc /\ sc <= 3) && (decide (0 < np) && decide (fw <= address - sc)))))) /\ Below W.heap.size W w' := by
 obtain ⟨W1, hW1⟩ : ∃ W1, W1 = W.alloc (.cells #[nm, .int .u8 kd, .int .i64 bk, .int .i64 sc, .slice Ap np cp, .int .i64 td] 86) := ⟨_, rfl⟩;have HW := hid hW1;have hb : Below W.heap.size W W1 := by rw [hW1]; exact (Below.refl _ _).alloc (Nat.le_refl _) _
 have HB := hid (zg hb hb.size);have f0 : W1.cell? ⟨W.heap.size, 0, none⟩ = some (nm) := by rw [hW1]; simp only [World.cell?]; rw [heap_alloc_new]; rfl
 have K0 := cell_regrown f0;have f1 : W1.cell? ⟨W.heap.size, 1, none⟩ = some (.int .u8 kd) := by rw [hW1]; simp only [World.cell?]; rw [heap_alloc_new]; rfl
 have K1 := cell_regrown f1;have f2 : W1.cell? ⟨W.heap.size, 2, none⟩ = some (.int .i64 bk) := by rw [hW1]; simp only [World.cell?]; rw [heap_alloc_new]; rfl
 have K2 := cell_regrown f2;have f3 : W1.cell? ⟨W.heap.size, 3, none⟩ = some (.int .i64 sc) := by rw [hW1]; simp only [World.cell?]; rw [heap_alloc_new]; rfl
 have K3 := cell_regrown f3;have f4 : W1.cell? ⟨W.heap.size, 4, none⟩ = some (.slice Ap np cp) := by rw [hW1]; simp only [World.cell?]; rw [heap_alloc_new]; rfl
 have K4 := cell_regrown f4;have f5 : W1.cell? ⟨W.heap.size, 5, none⟩ = some (.int .i64 td) := by rw [hW1]; simp only [World.cell?]; rw [heap_alloc_new]; rfl
 have K5 := cell_regrown f5;have d2 := (hb.cell (p := ⟨k, 2, none⟩) hk).trans c2;have K9 := cell_regrown d2;have iI : ∀ d os, Calls prog 137 #[.int .i64 sc, .int .i64 0, .int .i64 3] (grow (redrawn W1 d) os) fun e w'' => e = .returned (.bool (decide (0 <= sc /\ sc <= 3))) /\ ∃ p : Regrown, w'' = grow (redrawn W1 p.d) p.os := fun d os => zh (z2p _ _ _ _);have iF : ∀ d os, Calls prog 114 #[.agg #[nm, .int .u8 kd, .int .i64 bk, .int .i64 sc, .slice Ap np cp, .int .i64 td]] (grow (redrawn W1 d) os) fun e w'' => e = .returned (.int .i64 fw) /\ ∃ p : Regrown, w'' = grow (redrawn W1 p.d) p.os := fun d os => Calls.regrown_of (hfw _ (HB.out d os));clear hfw c2;rcases hkd with rfl | rfl | rfl
 all_goals
  by_cases e1 : bk = 0
  ·subst e1;by_cases e2 : td = -1
   ·subst e2;by_cases e3 : 0 <= sc /\ sc <= 3
    ·rw [show decide (0 <= sc /\ sc <= 3) = true by simpa using e3] at iI ⊢;by_cases e4 : np = 0
     ·subst e4;have II := hid iI;have IF := hid iF;simp only [decide_true, Bool.true_and, Nat.lt_irrefl, decide_false, Bool.false_and];clear iI iF hb hW1;go_enter Tryz.func172, Tryz.ntmps172
      go_wp2_with fail
      rw [<- HW.out];refine wp_region_quiet_below (by kernel_rfl) (by kernel_rfl) ?_;repeat (first | go_big_quiet_step (first | (with_reducible exact II.out _ _) | (with_reducible exact IF.out _ _)) | quiet_step (first | (with_reducible exact II.out _ _) | (with_reducible exact IF.out _ _)))
      refine wpQuiet_nil ?_;intro G hG;have hbG : Below W.heap.size W G := (by obtain ⟨p, rfl⟩ := hG; exact HB.out _ _);clear hG;go_wp2
      go_ret
      exact ⟨rfl, hbG⟩
     ·have gp : (0 : Int) < (np : Int) := (by omega);have gp2 : 0 < np := (by omega);have w9 : wrap64 (address - sc) = address - sc := zd _ (by omega) (by omega);simp only [decide_true, Bool.true_and, gp2];obtain ⟨g, hg⟩ : ∃ g, decide (fw <= address - sc) = g := ⟨_, rfl⟩;rw [hg];have II := hid iI;have IF := hid iF;clear iI iF hb hW1 e3 e4 ha;go_enter Tryz.func172, Tryz.ntmps172
      go_wp2_with fail
      rw [<- HW.out];refine wp_region_quiet_below (by kernel_rfl) (by kernel_rfl) ?_;repeat (first | go_big_quiet_step (first | (with_reducible exact II.out _ _) | (with_reducible exact IF.out _ _)) | quiet_step (first | (with_reducible exact II.out _ _) | (with_reducible exact IF.out _ _)))
      refine wpQuiet_nil ?_;intro G hG;have hbG : Below W.heap.size W G := (by obtain ⟨p, rfl⟩ := hG; exact HB.out _ _);clear hG;go_wp2
      go_ret
      exact ⟨rfl, hbG⟩
    ·rw [show decide (0 <= sc /\ sc <= 3) = false by simpa using e3] at iI ⊢;simp only [decide_true, Bool.true_and, Bool.false_and];have II := hid iI;have IF := hid iF;clear iI iF hb hW1 e3 ha;go_enter Tryz.func172, Tryz.ntmps172
     go_wp2_with fail
     rw [<- HW.out];refine wp_region_quiet_below (by kernel_rfl) (by kernel_rfl) ?_;repeat (first | go_big_quiet_step (first | (with_reducible exact II.out _ _) | (with_reducible exact IF.out _ _)) | quiet_step (first | (with_reducible exact II.out _ _) | (with_reducible exact IF.out _ _)))
     refine wpQuiet_nil ?_;intro G hG;have hbG : Below W.heap.size W G := (by obtain ⟨p, rfl⟩ := hG; exact HB.out _ _);clear hG;go_wp2
     go_ret
     exact ⟨rfl, hbG⟩
   ·have g2 : (td == -1) = false := (by simp [e2]);rw [show decide (td = -1) = false by simpa using e2];simp only [decide_true, Bool.true_and, Bool.false_and];have II := hid iI;have IF := hid iF;clear iI iF hb hW1 e2 ha;go_enter Tryz.func172, Tryz.ntmps172
    go_wp2_with fail
    rw [<- HW.out];refine wp_region_quiet_below (by kernel_rfl) (by kernel_rfl) ?_;repeat (first | go_big_quiet_step (first | (with_reducible exact II.out _ _) | (with_reducible exact IF.out _ _)) | quiet_step (first | (with_reducible exact II.out _ _) | (with_reducible exact IF.out _ _)))
    refine wpQuiet_nil ?_;intro G hG;have hbG : Below W.heap.size W G := (by obtain ⟨p, rfl⟩ := hG; exact HB.out _ _);clear hG;go_wp2
    go_ret
    exact ⟨rfl, hbG⟩
  ·have g1 : (bk == 0) = false := by simp [e1]
   rw [show decide (bk = 0) = false by simpa using e1];simp only [Bool.false_and];have II := hid iI;have IF := hid iF;clear iI iF hb hW1 e1 ha;go_enter Tryz.func172, Tryz.ntmps172
   go_wp2_with fail
   rw [<- HW.out];refine wp_region_quiet_below (by kernel_rfl) (by kernel_rfl) ?_;repeat (first | go_big_quiet_step (first | (with_reducible exact II.out _ _) | (with_reducible exact IF.out _ _)) | quiet_step (first | (with_reducible exact II.out _ _) | (with_reducible exact IF.out _ _)))
   refine wpQuiet_nil ?_;intro G hG;have hbG : Below W.heap.size W G := by obtain ⟨p, rfl⟩ := hG; exact HB.out _ _
   clear hG;go_wp2
   go_ret
   exact ⟨rfl, hbG⟩
theorem z79 (W : World) (k : Nat) (nm : Value) (kd : Int) (bk sc td : Int) (Ap : Option Addr) (np cp : Nat) (vo : Value) (h1 : (kd == 1) = false) (h2 : (kd == 2) = false) (h3 : (kd == 3) = false) (h4 : (kd == 4) = false) :
 Calls prog 172 #[.pointer (some ⟨k, 0, none⟩), .agg #[nm, .int .u8 kd, .int .i64 bk, .int .i64 sc, .slice Ap np cp, .int .i64 td], vo] W fun e w' => e = .returned (.bool false) /\ Below W.heap.size W w' := by
 have HB := hid (fun cs => (Below.refl W.heap.size W).alloc (Nat.le_refl _) (.cells cs 86));go_enter Tryz.func172, Tryz.ntmps172
 go_wp2
 go_ret
 exact ⟨rfl, HB.out _⟩
theorem z81 (W : World) (k : Nat) (address : Int) (L : List MBank) (others : List MOper) (so sb : Value) (hk : k < W.heap.size) (c2 : W.cell? ⟨k, 2, none⟩ = some (.int .i64 address)) (ha : 0 <= address /\ address <= 1000) (c4 : W.cell? ⟨k, 4, none⟩ = some sb)
 (hL : zf 2 z1m W sb L) (hpos : ∀ x ∈ L, 0 < x.regs.length) (hO : zf 6 z1g W so others) (x : MOper) (cs : List Value) (hE : z1g W cs x) (h4 : x.pieces.length <= 1000) :
 Calls prog 172 #[.pointer (some ⟨k, 0, none⟩), .agg cs.toArray, so] W fun e w' => e = .returned (.bool (z4l address L others x)) /\ Below W.heap.size W w' := by
 have hfw : ∀ X, Below W.heap.size W X -> Calls prog 114 #[.agg cs.toArray] X fun e w' => e = .returned (.int .i64 (fwR 0 x.pieces)) /\ Below X.heap.size X w' := fun X hX => z78 X x cs (hE.kept hX) h4;obtain ⟨AB, cB, rfl, _⟩ := id hL;obtain ⟨AO, cO, rfl, _⟩ := id hO;obtain ⟨sp, rfl, _, _, _, _, hp, _⟩ := hE;obtain ⟨Ap, cp, rfl, _⟩ := hp;have hk1 : ∀ n : Nat, (x.kind = n) ↔ ((x.kind : Int) = (n : Int)) := fun n => by omega
 unfold z4l;by_cases e1 : x.kind = 1
 ·rw [if_pos e1];rw [e1] at hfw ⊢;have h := z82 W k L others (.string x.name) x.bank x.scale x.tied Ap AB AO x.pieces.length cp L.length cB others.length cO hk c4 hL rfl hpos hO rfl (fwR 0 x.pieces) hfw;refine h.mono fun e w' ⟨h1, h2⟩ => ⟨?_, h2⟩;rw [h1]
  congr 2
 ·rw [if_neg e1];by_cases e2 : x.kind = 2 ∨ x.kind = 3 ∨ x.kind = 4
  ·rw [if_pos e2];rcases e2 with e2 | e2 | e2
   ·rw [e2] at hfw ⊢;exact z3k 2 (by omega) W k address (.string x.name) x.bank x.scale x.tied Ap x.pieces.length cp _ hk c2 ha (fwR 0 x.pieces) hfw
   ·rw [e2] at hfw ⊢;exact z3k 3 (by omega) W k address (.string x.name) x.bank x.scale x.tied Ap x.pieces.length cp _ hk c2 ha (fwR 0 x.pieces) hfw
   ·rw [e2] at hfw ⊢;exact z3k 4 (by omega) W k address (.string x.name) x.bank x.scale x.tied Ap x.pieces.length cp _ hk c2 ha (fwR 0 x.pieces) hfw
  ·rw [if_neg e2];exact z79 W k (.string x.name) x.kind x.bank x.scale x.tied Ap x.pieces.length cp _ (by simp; omega) (by simp; omega) (by simp; omega) (by simp; omega)
end Go.Proofs.YtdmadnfadgggcaaGreatDoor
