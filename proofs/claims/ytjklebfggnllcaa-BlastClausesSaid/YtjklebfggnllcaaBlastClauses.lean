/- Contract of Clauses of package blast. -/
import Derived.Test.YtjklebfggnllcaaBlastRefClauses
import Derived.Test.YtjklebfggnllcaaBlastPush
import Derived.Deep.RegionHeld3
namespace Go.Proofs.Ytjklebfggnllcaa
open Go.RowKit Go.Sort
set_option linter.unusedVariables false
set_option linter.unusedSimpArgs false

set_option maxRecDepth 100000 in
set_option maxHeartbeats 1000000 in
theorem clauses_any (pi pg po : Option Addr) (ni ng no ci cg co : Nat) (N : Nat → ByteArray) (B P Q O : Nat → Int) (w : World) (hc : CirAt w pi pg po ni ng no N B P Q O) (o : Int) (n : Nat) (L : List (List Int)) (err : Nat)
    (hL : ClsIs N B P Q O ni ng no o n L err) :
    Calls Try.prog 16 #[.agg #[.slice pi ni ci, .slice pg ng cg, .slice po no co], .int .i64 o] w (Claimed n L err w) := by
  have hni := hc.hi
  have hng := hc.hg
  have hno := hc.ho
  have HC := Lib.hid hc
  clear hc
  obtain ⟨W1, hW1⟩ : ∃ W1, W1 = w.alloc (.cells #[.slice pi ni ci, .slice pg ng cg, .slice po no co] 26) := ⟨_, rfl⟩
  have hb1 : Below w.heap.size w W1 := by rw [hW1]; exact (Below.refl _ _).alloc (Nat.le_refl _) _
  have c0 : W1.cell? ⟨w.heap.size, 0, none⟩ = some (.slice pi ni ci) := by rw [hW1]; go_simp
  have c1 : W1.cell? ⟨w.heap.size, 1, none⟩ = some (.slice pg ng cg) := by rw [hW1]; go_simp
  have c2 : W1.cell? ⟨w.heap.size, 2, none⟩ = some (.slice po no co) := by rw [hW1]; go_simp
  have hsz : w.heap.size < W1.heap.size := by rw [hW1]; simp
  have HB := Lib.hid hb1
  have HX := Lib.hid (fun (wr : World) (h : Below W1.heap.size W1 wr) => (⟨by rw [h.cell hsz]; exact c0, by rw [h.cell hsz]; exact c1, by rw [h.cell hsz]; exact c2⟩ : wr.cell? ⟨w.heap.size, 0, none⟩ = some (.slice pi ni ci) ∧ wr.cell? ⟨w.heap.size, 1, none⟩ = some (.slice pg ng cg) ∧ wr.cell? ⟨w.heap.size, 2, none⟩ = some (.slice po no co)))
  have HV1 := Lib.hid (check_any pi pg po ni ng no ci cg co N B P Q O W1 (HC.out.below hb1))
  have HB0 := Lib.hid (fun (wr : World) (h : Below W1.heap.size W1 wr) => hb1.trans (h.mono hb1.size))
  have HN := Lib.hid (fun (wr : World) => nodesOf_any pi pg po ni ng no ci cg co wr hni hng)
  have HW := Lib.hid hW1
  clear hb1 hsz
  rw [hW1] at c0 HV1
  clear c1 c2 hW1
  rcases hL with ⟨h1, rfl, rfl, rfl⟩ | ⟨h1, h2, rfl, rfl, rfl⟩ | ⟨h1, ⟨j, rfl, hj⟩, h3, rfl, rfl, rfl⟩ | ⟨j, h1, rfl, hj, h3, rfl, rfl, rfl⟩
  · obtain ⟨r, hr⟩ : ∃ r, chkR N B P Q O ni ng no = r := ⟨_, rfl⟩
    have hr2 := chk_cases (N := N) (B := B) (P := P) (Q := Q) (O := O) (ni := ni) (ng := ng) (no := no)
    rw [hr] at h1 hr2 HV1 ⊢
    clear hr
    have hr3 : r = 4 ∨ r = 8 := by omega
    clear h1 hr2
    rcases hr3 with rfl | rfl
    all_goals
      go_enter Try.func16, Try.ntmps16
      go_wp2_with (go_at_call 12; (with_reducible refine HV1.out.mono ?_); rintro e w2 ⟨rfl, hb2⟩; rw [← HW.out] at hb2; obtain ⟨e0, e1, e2⟩ := HX.out w2 hb2; have HB2 := Lib.hid hb2; clear hb2)
      go_ret3
      exact Claimed.none (HB0.out _ HB2.out)
  · rw [h1] at HV1
    by_cases h3 : o < 0
    · have d0 : decide (o < 0) = true := decide_eq_true h3
      clear h2 h3
      go_enter Try.func16, Try.ntmps16
      go_wp2_with (go_at_call 12; (with_reducible refine HV1.out.mono ?_); rintro e w2 ⟨rfl, hb2⟩; rw [← HW.out] at hb2; obtain ⟨e0, e1, e2⟩ := HX.out w2 hb2; have HB2 := Lib.hid hb2; clear hb2)
      go_ret3
      exact Claimed.none (HB0.out _ HB2.out)
    · have d0 : decide (o < 0) = false := decide_eq_false h3
      have h4 : (no : Int) ≤ o := by omega
      have d1 : decide ((no : Int) ≤ o) = true := decide_eq_true h4
      clear h2 h3
      go_enter Try.func16, Try.ntmps16
      go_wp2_with (go_at_call 12; (with_reducible refine HV1.out.mono ?_); rintro e w2 ⟨rfl, hb2⟩; rw [← HW.out] at hb2; obtain ⟨e0, e1, e2⟩ := HX.out w2 hb2; have HB2 := Lib.hid hb2; clear hb2)
      go_ret3
      exact Claimed.none (HB0.out _ HB2.out)
  · rw [h1] at HV1
    have d0 : decide ((j : Int) < 0) = false := decide_eq_false (by omega)
    have d1 : decide ((no : Int) ≤ (j : Int)) = false := decide_eq_false (by omega)
    have d1n : decide (no ≤ j) = false := decide_eq_false (by omega)
    obtain ⟨m, hm⟩ : ∃ m, 1 + ni + ng = m := ⟨_, rfl⟩
    rw [hm] at h3 HN
    have d2 : decide ((5000 : Int) < (m : Int)) = true := decide_eq_true (by omega)
    go_enter Try.func16, Try.ntmps16
    go_wp2_with (first
      | (go_at_call 12; (with_reducible refine HV1.out.mono ?_); rintro e w2 ⟨rfl, hb2⟩; rw [← HW.out] at hb2; obtain ⟨e0, e1, e2⟩ := HX.out w2 hb2; have HB2 := Lib.hid hb2; clear hb2)
      | (go_at_call 19; (with_reducible refine (HN.out _).mono ?_); rintro e w3 ⟨rfl, hb3⟩))
    go_ret3
    exact Claimed.none (HB0.out _ (HB2.out.trans (hb3.mono HB2.out.size)))
  · rw [h1] at HV1
    have hv := chk_valid h1
    have HG := Lib.hid hv.2.2.1
    have HO := Lib.hid hv.2.2.2
    clear hv
    have d0 : decide ((j : Int) < 0) = false := decide_eq_false (by omega)
    have d1 : decide ((no : Int) ≤ (j : Int)) = false := decide_eq_false (by omega)
    have d1n : decide (no ≤ j) = false := decide_eq_false (by omega)
    obtain ⟨m, hm⟩ : ∃ m, 1 + ni + ng = m := ⟨_, rfl⟩
    have HM := Lib.hid hm
    rw [hm] at h3 HN ⊢
    have d2 : decide ((5000 : Int) < (m : Int)) = false := decide_eq_false (by omega)
    clear hm
    have HA1 : Hid (∀ wr : World, Calls Try.prog 33 #[.int .i64 1] wr fun e w' => e = .returned (.int .i64 (-1)) ∧ wr = w') := Lib.hid (fun wr => by
      have h := atomOf_any 1 wr (by omega)
      rw [show atomR ((1 : Nat) : Int) = -1 by decide] at h
      exact h)
    go_enter Try.func16, Try.ntmps16
    go_wp2_with (first
      | (go_at_call 12; (with_reducible refine HV1.out.mono ?_); rintro e w2 ⟨rfl, hb2⟩; rw [← HW.out] at hb2; obtain ⟨e0, e1, e2⟩ := HX.out w2 hb2; have HB2 := Lib.hid hb2; clear hb2)
      | (go_at_call 19; (with_reducible refine (HN.out _).mono ?_); rintro e w3 ⟨rfl, hb3⟩; clear e0 e1 e2; have HB3 := Lib.hid (HB2.out.trans (hb3.mono HB2.out.size)); obtain ⟨e0, e1, e2⟩ := HX.out w3 HB3.out; have e1b : ∀ A B, ((w3.alloc A).alloc B).cell? ⟨w.heap.size, 1, none⟩ = some (.slice pg ng cg) := fun A B => (HX.out _ ((HB3.out.alloc HB3.out.size A).alloc (by have := HB3.out.size; simp; omega) B)).2.1; clear hb3)
      | (go_at_call 33; (with_reducible refine (HA1.out _).mono ?_); rintro e w4 ⟨rfl, rfl⟩))
    clear e0 e1 e2 e1b c0
    obtain ⟨i0, hi, hz0, hz1, hz2⟩ := info_parts list_info
    have HL0 := Lib.hid (ListsAt.first w3 W1.heap.size HB3.out.size (-1))
    have HB00 := Lib.hid (show Below W1.heap.size W1 ((w3.alloc (.cells #[.int .i64 (-1)] 3)).alloc (.cells #[.slice (some ⟨w3.heap.size, 0, none⟩) 1 1] 24)) from (HB3.out.alloc HB3.out.size _).alloc (by have := HB3.out.size; simp; omega) _)
    go_loopw [5, 36] (fun vo vi wr => ∃ (k : Nat) (us : List Value), vi = .int .i64 k ∧ k ≤ ng ∧ ListsAt wr W1.heap.size vo us (clausesTo P Q ni k) ∧ Below W1.heap.size W1 wr) (fun _ vi _ => ng - (intOf vi).toNat)
    case atStart => exact ⟨0, _, rfl, by omega, HL0.out, HB00.out⟩
    case round =>
      obtain ⟨k, us, rfl, hk, hl, hb⟩ := hrel
      have HL := Lib.hid hl
      have HB4 := Lib.hid hb
      clear hl hb
      by_cases hlt : k < ng
      · obtain ⟨b, og, hpg, hbn, a0, a1⟩ := ((HC.out.gates.below HB.out).below HB4.out) k hlt
        subst hpg
        obtain ⟨p, q, hp, hq, hp2, hq2⟩ := gate_nat HG.out hlt (by have := HM.out; omega)
        rw [hp] at a0
        rw [hq] at a1
        obtain ⟨x1, x2⟩ := atom_bounds p (by omega)
        obtain ⟨y1, y2⟩ := atom_bounds q (by omega)
        obtain ⟨W2, hW2⟩ : ∃ W2, W2 = wr.alloc (.cells #[.int .i64 (p : Int), .int .i64 (q : Int)] 59) := ⟨_, rfl⟩
        have hb2 : Below wr.heap.size wr W2 := by rw [hW2]; exact (Below.refl _ _).alloc (Nat.le_refl _) _
        have C0 : W2.cell? ⟨wr.heap.size, 0, none⟩ = some (.int .i64 (p : Int)) := by rw [hW2]; go_simp
        have C1 : W2.cell? ⟨wr.heap.size, 1, none⟩ = some (.int .i64 (q : Int)) := by rw [hW2]; go_simp
        obtain ⟨e0, _, _⟩ := HX.out W2 (HB4.out.trans (hb2.mono HB4.out.size))
        have K0 := fun d os => cell_regrown e0 d os
        have K1 := fun d os => cell_regrown C0 d os
        have K2 := fun d os => cell_regrown C1 d os
        obtain ⟨m1, hm1⟩ : ∃ m1 : Nat, 1 + ni + k = m1 := ⟨_, rfl⟩
        have hm2 := HM.out
        have w1 : IntKind.i64.wrap (1 + (ni : Int)) = ((1 + ni : Nat) : Int) := by rw [IntWalk.i64_in _ (by omega)]; omega
        have w2' : IntKind.i64.wrap (((1 + ni : Nat) : Int) + (k : Int)) = (m1 : Int) := by rw [IntWalk.i64_in _ (by omega)]; omega
        have w3' : IntKind.i64.wrap (2 * (m1 : Int)) = ((2 * m1 : Nat) : Int) := by rw [IntWalk.i64_in _ (by omega)]; omega
        obtain ⟨n1, hn1⟩ : ∃ n1 : Nat, 1 + ni = n1 := ⟨_, rfl⟩
        obtain ⟨n2, hn2⟩ : ∃ n2 : Nat, 2 * m1 = n2 := ⟨_, rfl⟩
        have hg0 : atomR ((2 * m1 : Nat) : Int) = 2 + (ni : Int) + (k : Int) := by rw [atom_even (by omega)]; omega
        rw [hn1] at w1 w2'
        rw [hn2] at w3' hg0
        have HA0 := Lib.hid (fun d os => Calls.regrown_of (d := d) (os := os) (w := W2) (Calls.below_of (atomOf_any n2 (grow (redrawn W2 d) os) (by omega))))
        have HA1 := Lib.hid (fun d os => Calls.regrown_of (d := d) (os := os) (w := W2) (Calls.below_of (atomOf_any p (grow (redrawn W2 d) os) (by omega))))
        have HA2 := Lib.hid (fun d os => Calls.regrown_of (d := d) (os := os) (w := W2) (Calls.below_of (atomOf_any q (grow (redrawn W2 d) os) (by omega))))
        obtain ⟨x, hx⟩ : ∃ x, atomR (p : Int) = x := ⟨_, rfl⟩
        obtain ⟨y, hy⟩ : ∃ y, atomR (q : Int) = y := ⟨_, rfl⟩
        obtain ⟨g, hg⟩ : ∃ g, (2 + (ni : Int) + (k : Int)) = g := ⟨_, rfl⟩
        have HGL := Lib.hid (show clausesTo P Q ni k ++ [[-g, x], [-g, y], [g, -x, -y]] = clausesTo P Q ni (k + 1) by rw [clausesTo, gateL, hp, hq, hx, hy, hg])
        have hlen := clausesTo_length P Q ni k
        have g1 : 0 ≤ g := by omega
        have g2 : g ≤ 10000 := by omega
        rw [hg0, hg] at HA0
        rw [hx] at HA1 x1 x2
        rw [hy] at HA2 y1 y2
        obtain ⟨L0, hL0⟩ : ∃ L0, clausesTo P Q ni k = L0 := ⟨_, rfl⟩
        rw [hL0] at hlen HGL HL
        have HB5 := Lib.hid (HB4.out.trans (hb2.mono HB4.out.size))
        have HL5 := Lib.hid (HL.out.below hb2)
        have HW2 := Lib.hid hW2
        have hj0 : (0 : Int) ≤ (k : Int) := Int.natCast_nonneg _
        have hj1 : (k : Int) < (ng : Int) := by omega
        clear hL0 hx hy hp hq hg hg0 hn1 hn2 hm1 hm2 hb2 hW2 C0 C1 e0
        go_wp2_with fail
        rw [← HW2.out]
        clear a0 a1
        refine wp_region_quiet_below (by kernel_rfl) (by kernel_rfl) ?_
        repeat (first | go_big_quiet_step (first | (with_reducible exact HA0.out _ _) | (with_reducible exact HA1.out _ _) | (with_reducible exact HA2.out _ _)) | quiet_step (first | (with_reducible exact HA0.out _ _) | (with_reducible exact HA1.out _ _) | (with_reducible exact HA2.out _ _)))
        refine wpQuiet_nil ?_
        intro _ hw'
        obtain ⟨⟨dq, osq⟩, hw''⟩ := hw'
        subst hw''
        have HB6 := Lib.hid (HB5.out.trans ((below_regrown W2 dq osq).mono HB5.out.size))
        have HL6 := Lib.hid (HL5.out.below (below_regrown W2 dq osq))
        generalize grow (redrawn W2 dq) osq = w6 at *
        clear K0 K1 K2 HA0 HA1 HA2 HL HL5
        have hs6 := HB6.out.size
        go_wp2_with (at_builtin; refine wpList_append_own_at _ rfl _ _ 44 rfl W1.heap.size 24 i0 (.slice none 0 0) 1 24 Try.underlying44 hi hz0 hz1 hz2 rfl (by decide) _ _ _ rfl (World.ownsRow.alloc (World.ownsRow.alloc (World.ownsRow.alloc (World.ownsRow.alloc HL6.out.1 _) _) _) _) ⟨w6.heap.size + 1 + 1 + 1, 0, none⟩ 3 3 [.slice (some ⟨w6.heap.size, 0, none⟩) 2 2, .slice (some ⟨w6.heap.size + 1, 0, none⟩) 2 2, .slice (some ⟨w6.heap.size + 1 + 1, 0, none⟩) 3 3] rfl rfl (cells_at _ _ _ _ (by simp)) (three_cell1 rfl rfl rfl) (by rw [hlen]; unfold maxLen; omega) (by rw [hlen]; omega) (by simp; omega) ?_)
        intro v7 w7 hown7 hgrow7 _ _
        have H7 := Lib.hid (push_three (l1 := [-g, x]) (l2 := [-g, y]) (l3 := [g, -x, -y]) rfl rfl rfl 2 2 3 rfl rfl rfl hlen HL6.out HB6.out HGL.out hown7 hgrow7)
        clear hown7 hgrow7
        go_wp2
        go_roundw
        case rel => exact ⟨k + 1, _, by first | rfl | go_num | (rw [wrap64_small _ (by omega) (by omega)]; rfl), by omega, H7.out.1, H7.out.2⟩
        case measure => (try rw [wrap64_small _ (by omega) (by omega)]); simp only [intOf]; omega
      · obtain rfl : k = ng := by omega
        obtain ⟨b, oo, hpo, hbn, a0⟩ := (HC.out.outs j hj)
        subst hpo
        obtain ⟨p, hp, hp2⟩ := out_nat HO.out hj (by have := HM.out; omega)
        rw [hp] at a0
        have HA := Lib.hid (fun W => atomOf_any p W (by omega))
        obtain ⟨x1, x2⟩ := atom_bounds p (by omega)
        obtain ⟨x, hx⟩ : ∃ x, atomR (p : Int) = x := ⟨_, rfl⟩
        have HGL := Lib.hid (show clausesTo P Q ni k ++ [[x]] = clausesR P Q ni k (O j) by rw [clausesR, hp, hx])
        have hlen := clausesTo_length P Q ni k
        rw [hx] at HA x1 x2
        have hj0 : (0 : Int) ≤ (j : Int) := Int.natCast_nonneg _
        have hj1 : (j : Int) < (no : Int) := by omega
        have hm2 := HM.out
        clear hx hp
        have HSB := Lib.hid (fun (W : World) (h : Below W1.heap.size W1 W) => (⟨(HX.out W h).1, (HX.out W h).2.1, (HX.out W h).2.2, by rw [(HB0.out W h).cell hbn]; exact a0, h⟩ :
          W.cell? ⟨w.heap.size, 0, none⟩ = some (.slice pi ni ci) ∧ W.cell? ⟨w.heap.size, 1, none⟩ = some (.slice pg k cg) ∧ W.cell? ⟨w.heap.size, 2, none⟩ = some (.slice (some ⟨b, oo, none⟩) no co) ∧ W.cell? ⟨b, oo + j, none⟩ = some (.int .i64 (p : Int)) ∧ Below W1.heap.size W1 W))
        clear a0
        have hB4 := HB4.out
        have hs4 := HB4.out.size
        go_wp2_with fail
        go_region_held3 (fun w' => w'.cell? ⟨w.heap.size, 0, none⟩ = some (.slice pi ni ci) ∧ w'.cell? ⟨w.heap.size, 1, none⟩ = some (.slice pg k cg) ∧ w'.cell? ⟨w.heap.size, 2, none⟩ = some (.slice (some ⟨b, oo, none⟩) no co) ∧ w'.cell? ⟨b, oo + j, none⟩ = some (.int .i64 (p : Int)) ∧ Below W1.heap.size W1 w')
          (first | (refine HSB.out _ ?_; (repeat (first | assumption | exact Below.refl _ _ | refine Below.drew ?_ | (refine Below.alloc ?_ ?_ _; rotate_left; · (first | assumption | exact Nat.le_refl _ | omega | (simp; done) | (simp; omega))))); done))
          (first
            | (go_at_call 19; (with_reducible refine (HN.out _).mono ?_); rintro e w7 ⟨rfl, hb7⟩; have N7 := Lib.hid (Below.trans (by (repeat (first | assumption | exact Below.refl _ _ | refine Below.drew ?_ | (refine Below.alloc ?_ ?_ _; rotate_left; · (first | assumption | exact Nat.le_refl _ | omega | (simp; done) | (simp; omega))))) : Below wr.heap.size wr _) (hb7.mono (by (first | assumption | exact Nat.le_refl _ | omega | (simp; done) | (simp; omega))))); have hB7 : Below W1.heap.size W1 w7 := hB4.trans (N7.out.mono hs4); have HL7 := Lib.hid (HL.out.below N7.out); have hs7 := hB7.size; clear hb7 N7)
            | (go_at_call 33; (with_reducible refine (HA.out _).mono ?_); rintro e w8 ⟨rfl, rfl⟩)
            | (refine step_append_own_at (by rfl) _ _ 44 (by rfl) W1.heap.size 24 i0 (.slice none 0 0) 1 24 Try.underlying44 hi hz0 hz1 hz2 rfl (by decide) _ _ _ (by rfl) (World.ownsRow.alloc (World.ownsRow.alloc HL7.out.1 _) _) ⟨w7.heap.size + 1, 0, none⟩ 1 1 [.slice (some ⟨w7.heap.size, 0, none⟩) 1 1] (by rfl) rfl (cell_one_at _ _ _ _ (by simp)) (one_cell1 rfl) (by rw [hlen]; unfold maxLen; omega) (by rw [hlen]; omega) (by simp; omega) ?_; intro v9 w9 hown9 hgrow9; have H9 := Lib.hid (push_one (l := [x]) rfl 1 rfl rfl HL7.out hB7 HGL.out hown9 hgrow9); have hB9 := H9.out.2; clear hown9 hgrow9))
        all_goals
          go_wp2
          go_ret3
          exact ⟨_, _, rfl, H9.out.1.base HB.out.size, HB0.out _ H9.out.2⟩
end Go.Proofs.Ytjklebfggnllcaa
