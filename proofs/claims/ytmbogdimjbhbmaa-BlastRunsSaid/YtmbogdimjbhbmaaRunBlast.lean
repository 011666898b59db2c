/- Contract of Run of package blast. -/
import Derived.Test.YtmbogdimjbhbmaaRunValue
import Derived.Deep.RegionHeld3
namespace Go.Proofs.Ytmbogdimjbhbmaa
open Go.RowKit Go.Sort
set_option linter.unusedVariables false
set_option linter.unusedSimpArgs false

set_option maxRecDepth 100000 in
set_option maxHeartbeats 4000000 in
set_option warningAsError false in
theorem run_any (pi pg po pv : Option Addr) (ni ng no n ci cg co cv : Nat) (N : Nat → ByteArray) (B P Q O : Nat → Int) (V : Nat → Bool) (w : World) (hc : CirAt w pi pg po ni ng no N B P Q O) (hv : BoolsAt w pv n V) (hn : n ≤ 700) (L : List Bool) (err : Nat)
    (hL : RunIs N B P Q O ni ng no V n L err) :
    Calls Try.prog 7 #[.agg #[.slice pi ni ci, .slice pg ng cg, .slice po no co], .slice pv n cv] w (Ran L err w) := by
  have hni := hc.hi
  have hng := hc.hg
  have hno := hc.ho
  have HC := Lib.hid hc
  have HVS := Lib.hid hv
  clear hc hv
  obtain ⟨W1, hW1⟩ : ∃ W1, W1 = w.alloc (.cells #[.slice pi ni ci, .slice pg ng cg, .slice po no co] 26) := ⟨_, rfl⟩
  have hb1 : Below w.heap.size w W1 := by rw [hW1]; exact (Below.refl _ _).alloc (Nat.le_refl _) _
  have c0 : W1.cell? ⟨w.heap.size, 0, none⟩ = some (.slice pi ni ci) := by rw [hW1]; go_simp
  have c1 : W1.cell? ⟨w.heap.size, 1, none⟩ = some (.slice pg ng cg) := by rw [hW1]; go_simp
  have c2 : W1.cell? ⟨w.heap.size, 2, none⟩ = some (.slice po no co) := by rw [hW1]; go_simp
  have hsz : w.heap.size < W1.heap.size := by rw [hW1]; simp
  have HB := Lib.hid hb1
  have HX := Lib.hid (fun (wr : World) (h : Below W1.heap.size W1 wr) => (⟨by rw [h.cell hsz]; exact c0, by rw [h.cell hsz]; exact c1, by rw [h.cell hsz]; exact c2⟩ : wr.cell? ⟨w.heap.size, 0, none⟩ = some (.slice pi ni ci) ∧ wr.cell? ⟨w.heap.size, 1, none⟩ = some (.slice pg ng cg) ∧ wr.cell? ⟨w.heap.size, 2, none⟩ = some (.slice po no co)))
  have HV1 := Lib.hid (check_any pi pg po ni ng no ci cg co N B P Q O W1 (HC.out.below hb1))
  have HB0 := Lib.hid (fun (wr : World) (h : Below W1.heap.size W1 wr) => hb1.trans (h.mono hb1.size))
  have HN := Lib.hid (fun (wr : World) => nodesOf_any pi pg po ni ng no ci cg co wr hni hng)
  have HW := Lib.hid hW1
  clear hb1 hsz
  rw [hW1] at c0 HV1
  clear c1 c2 hW1
  rcases hL with ⟨h1, rfl, rfl⟩ | ⟨h1, h2, rfl, rfl⟩ | ⟨h1, rfl, rfl, rfl⟩
  · obtain ⟨r, hr⟩ : ∃ r, chkR N B P Q O ni ng no = r := ⟨_, rfl⟩
    have hr2 := chk_cases (N := N) (B := B) (P := P) (Q := Q) (O := O) (ni := ni) (ng := ng) (no := no)
    rw [hr] at h1 hr2 HV1 ⊢
    clear hr
    have hr3 : r = 4 ∨ r = 8 := by omega
    clear h1 hr2
    rcases hr3 with rfl | rfl
    all_goals
      go_enter Try.func7, Try.ntmps7
      go_wp2_with (go_at_call 11; (with_reducible refine HV1.out.mono ?_); rintro e w2 ⟨rfl, hb2⟩; rw [← HW.out] at hb2; obtain ⟨e0, e1, e2⟩ := HX.out w2 hb2; have HB2 := Lib.hid hb2; clear hb2)
      go_ret2
      exact Ran.none (HB0.out _ HB2.out)
  · rw [h1] at HV1
    have d0 : ((n : Int) != (ni : Int)) = true := by simp; omega
    clear h2
    go_enter Try.func7, Try.ntmps7
    go_wp2_with (go_at_call 11; (with_reducible refine HV1.out.mono ?_); rintro e w2 ⟨rfl, hb2⟩; rw [← HW.out] at hb2; obtain ⟨e0, e1, e2⟩ := HX.out w2 hb2; have HB2 := Lib.hid hb2; clear hb2)
    go_ret2
    exact Ran.none (HB0.out _ HB2.out)
  · rw [h1] at HV1
    have hv := chk_valid h1
    have HG := Lib.hid hv.2.2.1
    have HO := Lib.hid hv.2.2.2
    clear hv h1
    obtain ⟨m, hm⟩ : ∃ m, 1 + n + ng = m := ⟨_, rfl⟩
    have HM := Lib.hid hm
    rw [hm] at HN
    have d0 : ((n : Int) != (n : Int)) = false := by simp
    clear hm
    obtain ⟨i0, hi, hz0, hz1, hz2⟩ := info_parts bool_info
    go_enter Try.func7, Try.ntmps7
    go_wp2_with (first
      | (go_at_call 11; (with_reducible refine HV1.out.mono ?_); rintro e w2 ⟨rfl, hb2⟩; rw [← HW.out] at hb2; obtain ⟨e0, e1, e2⟩ := HX.out w2 hb2; have HB2 := Lib.hid hb2; clear hb2)
      | (go_at_call 15; (with_reducible refine (HN.out _).mono ?_); rintro e w3 ⟨rfl, hb3⟩; have HB3 := Lib.hid (HB2.out.trans (hb3.mono HB2.out.size)); clear hb3)
      | (refine wpList_make_one _ rfl _ _ rfl m rfl rfl (by have := HM.out; omega) (by have := HM.out; omega) ?_; intro v4 w4 hr4 hb4 hs4; have HR4 := Lib.hid hr4; have HB4 := Lib.hid (HB3.out.trans (hb4.mono HB3.out.size)); have hsz4 := HB4.out.size; have hone4 := hr4.single; have k4 : ∀ u, ((w4.alloc (.cells #[u] 27)).setCell ⟨w3.heap.size + 1, 0, none⟩ v4).cell? ⟨w3.heap.size + 1, 0, none⟩ = some v4 := (by intro u; rw [← hs4]; exact ((Boxed.new w4 _ u).set v4).cell); clear hr4 hb4)
      | (refine wpList_store_box rfl 27 _ _ rfl 27 (w3.heap.size + 1) _ v4 rfl rfl (by rw [← hs4]; exact Boxed.new w4 _ _) (by kernel_rfl) hone4 ?_)
      | (refine wpList_store_box rfl 27 _ _ rfl 27 (w3.heap.size + 1) _ v5 rfl rfl hbx5 (by kernel_rfl) hone5 ?_; generalize w5.setCell ⟨w3.heap.size + 1, 0, none⟩ v5 = w6 at HN5 ⊢; clear e0 e1 e2 hone5 hbx5 hone4 k4; obtain ⟨e0, e1, e2⟩ := HX.out w6 HN5.out.below)
      | (at_builtin; refine wpList_append_src rfl _ _ 27 rfl W1.heap.size 4 i0 (.bool false) 1 1 Try.underlying27 hi hz0 hz1 hz2 rfl (by decide) _ 1 (bls [false]) rfl (World.ownsRow.alloc (HR4.out.base HB3.out.size) _) pv n cv (boolC V) rfl (HVS.out.src.below ((HB0.out _ HB4.out).alloc (HB0.out _ HB4.out).size _)) (fun _ => rfl) (by unfold maxLen; omega) (by omega) (by simp; omega) ?_
         intro v5 w5 hown5 hg5
         have hb5 : Boxed (w4.alloc (.cells #[v4] 27)) (w3.heap.size + 1) 27 v4 := by rw [← hs4]; exact Boxed.new _ _ _
         have hr5 : RowB (w4.alloc (.cells #[v4] 27)) W1.heap.size v4 [false] := World.ownsRow.alloc (HR4.out.base HB3.out.size) _
         have ho5 : RowB w5 W1.heap.size v5 (nodesL V P Q n 0) := by rw [show nodesL V P Q n 0 = [false] ++ (List.range n).map V from rfl]; unfold RowB; rw [bls_append, bls_range]; simpa [Nat.add_comm] using hown5
         have HN5 := Lib.hid (NodesAt.pushed hb5 hr5 (HB4.out.alloc HB4.out.size _) (by have := HB3.out.size; omega) ho5 hg5)
         have hbx5 := hb5.kept hg5 (fun e => RowB.apart hb5 hr5 e.symm)
         have hone5 := ho5.single
         clear hown5 hg5 hb5 hr5 ho5))
    clear c0 hsz4
    generalize w3.heap.size + 1 = bx at *
    go_loopw [35] (fun vi wr => ∃ k : Nat, vi = .int .i64 k ∧ k ≤ ng ∧ NodesAt W1 wr bx (nodesL V P Q n k)) (fun vi _ => ng - (intOf vi).toNat)
    case atStart => exact ⟨0, rfl, by omega, HN5.out⟩
    case round =>
      obtain ⟨k, rfl, hk, hl⟩ := hrel
      by_cases hlt : k < ng
      · obtain ⟨b, og, hpg, hbn, a0, a1⟩ := (HC.out.gates.below (HB0.out _ hl.below)) k hlt
        subst hpg
        have hg := allTo_at _ ng HG.out k hlt
        unfold gateOk at hg
        rw [Bool.and_eq_true] at hg
        obtain ⟨p, hp, hp2⟩ := litOk_nat hg.1
        obtain ⟨q, hq, hq2⟩ := litOk_nat hg.2
        rw [hp] at a0
        rw [hq] at a1
        obtain ⟨NL, hNL⟩ : ∃ NL, nodesL V P Q n k = NL := ⟨_, rfl⟩
        have hlen := nodesL_length V P Q n k
        have hNS : nodesL V P Q n (k + 1) = NL ++ [litL NL (p : Int) && litL NL (q : Int)] := by rw [nodesL_succ, hNL, hp, hq]
        rw [hNL] at hl hlen
        obtain ⟨v, hbox, hrow, hB, hge⟩ := hl
        obtain ⟨g, cap, rfl, hg1, hg2, hc1, hc2, hcell⟩ := hrow.one (by omega)
        have HBX := Lib.hid hbox
        have HRW := Lib.hid hrow
        have HBW := Lib.hid hB
        have hone : (Value.slice (some ⟨g, 0, none⟩) NL.length cap).oneCell' = true := rfl
        obtain ⟨x, hx⟩ : ∃ x, litL NL (p : Int) = x := ⟨_, rfl⟩
        obtain ⟨y, hy⟩ : ∃ y, litL NL (q : Int) = y := ⟨_, rfl⟩
        rw [hx, hy] at hNS
        have HNS := Lib.hid hNS
        clear hNS
        have hcp := hcell (p / 2) (by omega)
        have hcq := hcell (q / 2) (by omega)
        have hVP := Lib.hid (fun (W : World) (h : Below wr.heap.size wr W) => by
          have h3 := value_any bx g cap NL.length p _ W (by rw [h.cell hbox.lt]; exact hbox.cell) (by omega) (by omega) (by rw [h.cell hg2]; exact hcp)
          rw [← litL_nat, hx] at h3; exact h3)
        have hVQ := Lib.hid (fun (W : World) (h : Below wr.heap.size wr W) => by
          have h3 := value_any bx g cap NL.length q _ W (by rw [h.cell hbox.lt]; exact hbox.cell) (by omega) (by omega) (by rw [h.cell hg2]; exact hcq)
          rw [← litL_nat, hy] at h3; exact h3)
        obtain ⟨W2, hW2⟩ : ∃ W2, W2 = wr.alloc (.cells #[.int .i64 (p : Int), .int .i64 (q : Int)] 52) := ⟨_, rfl⟩
        have hb2 : Below wr.heap.size wr W2 := by rw [hW2]; exact (Below.refl _ _).alloc (Nat.le_refl _) _
        have C0 : W2.cell? ⟨wr.heap.size, 0, none⟩ = some (.int .i64 (p : Int)) := by rw [hW2]; go_simp
        have C1 : W2.cell? ⟨wr.heap.size, 1, none⟩ = some (.int .i64 (q : Int)) := by rw [hW2]; go_simp
        have hbx2 : bx < wr.heap.size := hbox.lt
        have hsz2 : wr.heap.size < W2.heap.size := by rw [hW2]; simp
        have HSB := Lib.hid (fun (W : World) (h : Below W2.heap.size W2 W) => (⟨by rw [(hb2.trans (h.mono hb2.size)).cell hbox.lt]; exact hbox.cell, by rw [h.cell hsz2]; exact C0, by rw [h.cell hsz2]; exact C1⟩ :
          W.cell? ⟨bx, 0, none⟩ = some (.slice (some ⟨g, 0, none⟩) NL.length cap) ∧ W.cell? ⟨wr.heap.size, 0, none⟩ = some (.int .i64 (p : Int)) ∧ W.cell? ⟨wr.heap.size, 1, none⟩ = some (.int .i64 (q : Int))))
        have HOW := Lib.hid (fun (W : World) (h : Below W2.heap.size W2 W) => (⟨hrow.kept (hb2.trans (h.mono hb2.size)), by rw [Boxed, (hb2.trans (h.mono hb2.size)).block bx hbox.lt]; exact hbox, (hB.trans (hb2.mono hB.size)).trans (h.mono (Nat.le_trans hB.size hb2.size))⟩ : RowB W W1.heap.size (.slice (some ⟨g, 0, none⟩) NL.length cap) NL ∧ Boxed W bx 27 (.slice (some ⟨g, 0, none⟩) NL.length cap) ∧ Below W1.heap.size W1 W))
        have hne : g ≠ bx := fun e => RowB.apart hbox hrow (by rw [← e]; rfl)
        have HA9 := Lib.hid (fun (z : Bool) (W w9 : World) (v9 : Value) (hg9 : W.grownBy w9 (some g)) (hown9 : w9.ownsRow W1.heap.size 4 1 v9 (NL.length + 1) (bls NL ++ [.bool z])) (h : Below W2.heap.size W2 W) => by
          obtain ⟨s0, s1, s2⟩ := HSB.out W h
          obtain ⟨r1, r2, r3⟩ := HOW.out W h
          have ho : RowB w9 W1.heap.size v9 (NL ++ [z]) := by unfold RowB; rw [bls_append, List.length_append]; exact hown9
          have n0 : some bx ≠ some g := fun e => hne (by injection e with e; exact e.symm)
          have n1 : some wr.heap.size ≠ some g := fun e => by injection e with e; omega
          exact (⟨ho.form, ⟨hg9.cell s0 n0, hg9.cell s1 n1, hg9.cell s2 n1⟩, (r2.kept hg9 n0).frozen, NodesAt.pushed r2 r1 r3 hge ho hg9⟩ :
            (∃ p c, v9 = .slice p (NL ++ [z]).length c) ∧ (w9.cell? ⟨bx, 0, none⟩ = some (.slice (some ⟨g, 0, none⟩) NL.length cap) ∧ w9.cell? ⟨wr.heap.size, 0, none⟩ = some (.int .i64 (p : Int)) ∧ w9.cell? ⟨wr.heap.size, 1, none⟩ = some (.int .i64 (q : Int))) ∧ w9.frozen? ⟨bx, 0, none⟩ = false ∧ NodesAt W1 (w9.setCell ⟨bx, 0, none⟩ v9) bx (NL ++ [z])))
        have HW2 := Lib.hid hW2
        have HLN := Lib.hid hlen
        clear hlen hcell hcp hcq hx hy hbox hrow C0 C1 hW2 hg
        go_wp2_with fail
        rw [← HW2.out]
        clear a0 a1
        cases x
        all_goals
          have s0 := (HSB.out W2.drew (Below.refl _ _).drew).1
          first
          | (
              go_region_held3 (fun w' => w'.cell? ⟨wr.heap.size, 0, none⟩ = some (.int .i64 (p : Int)) ∧ w'.cell? ⟨wr.heap.size, 1, none⟩ = some (.int .i64 (q : Int)))
                (first | exact hS9 | exact hSz | (refine (HSB.out _ ?_).2; (repeat (first | assumption | exact Below.refl _ _ | refine Below.drew ?_ | (refine Below.alloc ?_ ?_ _; rotate_left; · (first | assumption | exact Nat.le_refl _ | omega | (simp; done) | (simp; omega))))); done))
                (first
                  | (go_at_call 16; (with_reducible refine (hVP.out _ (hb2.trans (Below.mono (B := W2.heap.size) (by (repeat (first | assumption | exact Below.refl _ _ | refine Below.drew ?_ | (refine Below.alloc ?_ ?_ _; rotate_left; · (first | assumption | exact Nat.le_refl _ | omega | (simp; done) | (simp; omega)))))) hb2.size))).mono ?_); rintro e w7 ⟨rfl, hb7⟩; have hB7 : Below W2.heap.size W2 w7 := Below.trans (by (repeat (first | assumption | exact Below.refl _ _ | refine Below.drew ?_ | (refine Below.alloc ?_ ?_ _; rotate_left; · (first | assumption | exact Nat.le_refl _ | omega | (simp; done) | (simp; omega)))))) (hb7.mono (by (first | assumption | exact Nat.le_refl _ | omega | (simp; done) | (simp; omega)))); clear hb7; have hs7 := hB7.size; have t7 := (HSB.out w7 hB7).1; have t7a := fun o => (HSB.out (w7.alloc o) (hB7.alloc hs7 o)).1)
                  | (go_at_call 16; (with_reducible refine (hVQ.out _ (hb2.trans (Below.mono (B := W2.heap.size) (by (repeat (first | assumption | exact Below.refl _ _ | refine Below.drew ?_ | (refine Below.alloc ?_ ?_ _; rotate_left; · (first | assumption | exact Nat.le_refl _ | omega | (simp; done) | (simp; omega)))))) hb2.size))).mono ?_); rintro e w8 ⟨rfl, hb8⟩; have hB8 : Below W2.heap.size W2 w8 := Below.trans (by (repeat (first | assumption | exact Below.refl _ _ | refine Below.drew ?_ | (refine Below.alloc ?_ ?_ _; rotate_left; · (first | assumption | exact Nat.le_refl _ | omega | (simp; done) | (simp; omega)))))) (hb8.mono (by (first | assumption | exact Nat.le_refl _ | omega | (simp; done) | (simp; omega)))); clear hb8; have hs8 := hB8.size; have t8 := (HSB.out w8 hB8).1; have t8a := fun o => (HSB.out (w8.alloc o) (hB8.alloc hs8 o)).1)
                  | (refine step_append_own_at (by rfl) _ _ 27 (by rfl) W1.heap.size 4 i0 (.bool false) 1 1 Try.underlying27 hi hz0 hz1 hz2 rfl (by decide) (.slice (some ⟨g, 0, none⟩) NL.length cap) NL.length (bls NL) (by rfl) (HOW.out _ (by (repeat (first | assumption | exact Below.refl _ _ | refine Below.drew ?_ | (refine Below.alloc ?_ ?_ _; rotate_left; · (first | assumption | exact Nat.le_refl _ | omega | (simp; done) | (simp; omega))))))).1 ⟨_, 0, none⟩ 1 1 [_] (by rfl) rfl (cell_one_new _ _ _) (one_cell1 rfl) (by have := HLN.out; unfold maxLen; omega) (by have := HLN.out; omega) (by have := HBW.out.size; simp; omega) ?_; intro v9 w9 hown9 hg9; obtain ⟨⟨p9, c9, rfl⟩, ⟨t9, hS9⟩, hfz9, hn9⟩ := HA9.out _ _ _ _ hg9 hown9 (by (repeat (first | assumption | exact Below.refl _ _ | refine Below.drew ?_ | (refine Below.alloc ?_ ?_ _; rotate_left; · (first | assumption | exact Nat.le_refl _ | omega | (simp; done) | (simp; omega)))))); have HN9 := Lib.hid hn9; have hSz : (w9.setCell ⟨bx, 0, none⟩ (.slice p9 (NL.length + 1) c9)).cell? ⟨wr.heap.size, 0, none⟩ = some (.int .i64 (p : Int)) ∧ (w9.setCell ⟨bx, 0, none⟩ (.slice p9 (NL.length + 1) c9)).cell? ⟨wr.heap.size, 1, none⟩ = some (.int .i64 (q : Int)) := (And.intro (by rw [World.cell?_setCell_other _ _ _ _ (fun e => by injection e with e; omega)]; exact hS9.1) (by rw [World.cell?_setCell_other _ _ _ _ (fun e => by injection e with e; omega)]; exact hS9.2)); clear hown9 hg9 hn9)))
          | fail "stood"
        all_goals
          have HFIN := Lib.hid (show NodesAt W1 (w9.setCell ⟨bx, 0, none⟩ (.slice p9 (NL.length + 1) c9)) bx (nodesL V P Q n (k + 1)) from by rw [HNS.out]; have h := HN9.out; simp only [List.length_append, List.length_cons, List.length_nil, Bool.false_and, Bool.true_and, Nat.zero_add] at h ⊢; exact h)
          generalize w9.setCell ⟨bx, 0, none⟩ (.slice p9 (NL.length + 1) c9) = wz at HFIN ⊢
          clear hSz hS9 HN9
          go_wp2
          go_roundw
          case rel => exact ⟨k + 1, by first | rfl | (rw [wrap64_small _ (by omega) (by omega)]; rfl), by omega, HFIN.out⟩
          case measure => (try rw [wrap64_small _ (by omega) (by omega)]); simp only [intOf]; omega
      · obtain rfl : k = ng := by omega
        obtain ⟨NL, hNL⟩ : ∃ NL, nodesL V P Q n k = NL := ⟨_, rfl⟩
        have hlen := nodesL_length V P Q n k
        rw [hNL] at hl hlen ⊢
        obtain ⟨v, hbox, hrow, hB, hge⟩ := hl
        obtain ⟨g, cap, rfl, hg1, hg2, hc1, hc2, hcell⟩ := hrow.one (by omega)
        have HVO := Lib.hid (fun (W : World) (h : Below wr.heap.size wr W) (l : Nat) (hl : l / 2 < NL.length) => by
          have h3 := value_any bx g cap NL.length l _ W (by rw [h.cell hbox.lt]; exact hbox.cell) hl (by omega) (by rw [h.cell hg2]; exact hcell (l / 2) hl)
          rw [← litL_nat] at h3; exact h3)
        obtain ⟨e0, e1, e2⟩ := HX.out wr hB
        have HBR := Lib.hid hB
        have hsr := hB.size
        have HNL := Lib.hid hNL
        clear hcell hbox hrow hB hNL
        obtain ⟨wq, rfl⟩ : ∃ wq, wq = wr := ⟨_, rfl⟩
        go_wp2_with fail
        clear e0 e1 e2
        go_loopw [11, 56] (fun vo vi wr' => ∃ j : Nat, vi = .int .i64 j ∧ j ≤ no ∧ RowB wr' wq.heap.size vo (outsL NL O j) ∧ Below wq.heap.size wq wr') (fun _ vi _ => no - (intOf vi).toNat)
        case atStart => exact ⟨0, rfl, by omega, World.ownsRow_nil _ _ _ _, Below.refl _ _⟩
        case round =>
          obtain ⟨j, rfl, hj, hr, hb⟩ := hrel
          by_cases hlt2 : j < no
          · obtain ⟨b, oo, hpo, hbn, a0⟩ := ((HC.out.outs.below (HB0.out _ HBR.out)).below hb) j hlt2
            subst hpo
            obtain ⟨p, hp, hp2⟩ := litOk_nat (allTo_at _ no HO.out j hlt2)
            rw [hp] at a0
            obtain ⟨x, hx⟩ : ∃ x, litL NL (p : Int) = x := ⟨_, rfl⟩
            have hVO := Lib.hid (fun (W : World) (h : Below wq.heap.size wq W) => by
              have h3 := HVO.out W h p (by omega)
              rw [hx] at h3; exact h3)
            have HNS := Lib.hid (show outsL NL O (j + 1) = outsL NL O j ++ [x] by rw [outsL_succ, hp, hx])
            have HOL := Lib.hid (outsL_length NL O j)
            have HR := Lib.hid hr
            have HBJ := Lib.hid hb
            clear hr hb hx hp
            go_wp2_with (first
              | (go_at_call 16; (with_reducible refine (hVO.out _ HBJ.out).mono ?_); rintro e w7 ⟨rfl, hb7⟩; have HB7 := Lib.hid (HBJ.out.trans (hb7.mono HBJ.out.size)); have HR7 := Lib.hid (HR.out.kept hb7); clear hb7)
              | (at_builtin; refine wpList_append_own_at _ rfl _ _ 27 rfl wq.heap.size 4 i0 (.bool false) 1 1 Try.underlying27 hi hz0 hz1 hz2 rfl (by decide) _ _ _ rfl (World.ownsRow.alloc HR7.out _) ⟨_, 0, none⟩ 1 1 [.bool x] rfl rfl (cell_one_new _ _ _) (one_cell1 rfl) (by rw [HOL.out]; unfold maxLen; omega) (by rw [HOL.out]; omega) (by have := HB7.out.size; simp; omega) ?_; intro v9 w9 hown9 hg9 _ _; have HR9 := Lib.hid (show RowB w9 wq.heap.size v9 (outsL NL O j ++ [x]) by (unfold RowB; rw [bls_append, List.length_append]; exact hown9)); have HB9 := Lib.hid ((HB7.out.alloc HB7.out.size _).grown hg9 (by have := HB7.out.size; simp; omega) (fun r hr => (World.ownsRow.lt HR7.out r hr).1)); clear hown9 hg9))
            go_roundw
            case rel => exact ⟨j + 1, by first | rfl | (rw [wrap64_small _ (by omega) (by omega)]; rfl), by omega, by rw [HNS.out]; exact HR9.out, HB9.out⟩
            case measure => (try rw [wrap64_small _ (by omega) (by omega)]); simp only [intOf]; omega
          · obtain rfl : j = no := by omega
            have HR := Lib.hid hr
            have HBJ := Lib.hid hb
            clear hr hb
            go_wp2
            go_ret2
            exact ⟨u11, rfl, by rw [HNL.out]; exact HR.out.base (Nat.le_trans HB.out.size hsr), (HB0.out _ HBR.out).trans (HBJ.out.mono (Nat.le_trans HB.out.size hsr))⟩
end Go.Proofs.Ytmbogdimjbhbmaa
