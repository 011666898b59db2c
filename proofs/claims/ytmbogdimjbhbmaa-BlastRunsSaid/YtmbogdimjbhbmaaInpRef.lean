/- Contract of the reference's Inputs. -/
import Derived.Test.YtmbogdimjbhbmaaInpMath
import Derived.Test.YtmbogdimjbhbmaaBlastRefCheck
namespace Go.Proofs.Ytmbogdimjbhbmaa
open Go.RowKit Go.Sort
set_option linter.unusedVariables false
set_option linter.unusedSimpArgs false

set_option maxRecDepth 100000 in
set_option maxHeartbeats 4000000 in
theorem refInputs_any (pi pg po pv : Option Addr) (ni ng no n ci cg co cv : Nat) (M : Nat → ByteArray) (B P Q O : Nat → Int) (N : Nat → ByteArray) (D : Nat → Int) (X : Nat → Nat) (w : World) (hc : CirAt w pi pg po ni ng no M B P Q O) (hv : EnvAt w pv n N D X) (hn : n ≤ 1100) (hN : ∀ i, i < n → (N i).size ≤ 200) (hXX : ∀ i, i < n → X i < 18446744073709551616) (L : List Bool) (err : Nat)
    (hL : InpIs M B P Q O ni ng no N D X n L err) :
    Calls Try.prog 10 #[.agg #[.slice pi ni ci, .slice pg ng cg, .slice po no co], .slice pv n cv] w (Ran L err w) := by
  have hni := hc.hi
  have hng := hc.hg
  have hno := hc.ho
  have HC := Lib.hid hc
  have HVS := Lib.hid hv
  have HXX := Lib.hid hXX
  clear hc hv hXX
  obtain ⟨i0, hi, hz0, hz1, hz2⟩ := info_parts bool_info
  obtain ⟨W1, hW1⟩ : ∃ W1, W1 = w.alloc (.cells #[.slice pi ni ci, .slice pg ng cg, .slice po no co] 26) := ⟨_, rfl⟩
  have hb1 : Below w.heap.size w W1 := by rw [hW1]; exact (Below.refl _ _).alloc (Nat.le_refl _) _
  have c0 : W1.cell? ⟨w.heap.size, 0, none⟩ = some (.slice pi ni ci) := by rw [hW1]; go_simp
  have c1 : W1.cell? ⟨w.heap.size, 1, none⟩ = some (.slice pg ng cg) := by rw [hW1]; go_simp
  have c2 : W1.cell? ⟨w.heap.size, 2, none⟩ = some (.slice po no co) := by rw [hW1]; go_simp
  have hsz : w.heap.size < W1.heap.size := by rw [hW1]; simp
  have HB := Lib.hid hb1
  have HX := Lib.hid (fun (wr : World) (h : Below W1.heap.size W1 wr) => (⟨by rw [h.cell hsz]; exact c0, by rw [h.cell hsz]; exact c1, by rw [h.cell hsz]; exact c2⟩ : wr.cell? ⟨w.heap.size, 0, none⟩ = some (.slice pi ni ci) ∧ wr.cell? ⟨w.heap.size, 1, none⟩ = some (.slice pg ng cg) ∧ wr.cell? ⟨w.heap.size, 2, none⟩ = some (.slice po no co)))
  have HV := Lib.hid (fun (wr : World) (h : Below W1.heap.size W1 wr) => refCheck_any pi pg po ni ng no ci cg co M B P Q O wr (HC.out.below (hb1.trans (h.mono hb1.size))))
  have HB0 := Lib.hid (fun (wr : World) (h : Below W1.heap.size W1 wr) => hb1.trans (h.mono hb1.size))
  have HR0 := Lib.hid (Below.refl W1.heap.size W1)
  have HE := Lib.hid (fun (wr : World) (h : Below W1.heap.size W1 wr) => refCheckBound_any pv n cv N D X wr hn (HVS.out.below (hb1.trans (h.mono hb1.size))) hN HXX.out)
  have HW := Lib.hid hW1
  clear hb1 hsz
  rw [hW1] at c0
  clear c1 c2 hW1
  clear hN
  rcases hL with ⟨h1, rfl, rfl⟩ | ⟨h1, h2, rfl, rfl⟩ | ⟨h1, h2, kf, hkf, hok, hend⟩
  · obtain ⟨r, hr⟩ : ∃ r, chkR M B P Q O ni ng no = r := ⟨_, rfl⟩
    have hr2 := chk_cases (N := M) (B := B) (P := P) (Q := Q) (O := O) (ni := ni) (ng := ng) (no := no)
    rw [hr] at h1 hr2 HV ⊢
    clear hr
    have hr3 : r = 4 ∨ r = 8 := by omega
    clear h1 hr2
    have HV1 := Lib.hid (HV.out W1 HR0.out)
    rw [HW.out] at HV1
    rcases hr3 with rfl | rfl
    all_goals
      go_enter Try.func10, Try.ntmps10
      go_wp2_with (go_at_call 12; first
        | ((with_reducible refine HV1.out.mono ?_); rintro e w2 ⟨rfl, hb2⟩; rw [← HW.out] at hb2; obtain ⟨e0, e1, e2⟩ := HX.out w2 hb2; have HB2 := Lib.hid hb2; clear hb2)
        | ((with_reducible refine (HV.out _ HB2.out).mono ?_); rintro e w3 ⟨rfl, hb3⟩))
      go_ret2
      exact Ran.none (HB0.out _ (HB2.out.trans (hb3.mono HB2.out.size)))
  · rw [h1] at HV
    have HV1 := Lib.hid (HV.out W1 HR0.out)
    rw [HW.out] at HV1
    rw [(envR_cases N D X n).resolve_left h2] at HE
    clear h2
    go_enter Try.func10, Try.ntmps10
    go_wp2_with (first
      | (go_at_call 12; ((with_reducible refine HV1.out.mono ?_); rintro e w2 ⟨rfl, hb2⟩; rw [← HW.out] at hb2; obtain ⟨e0, e1, e2⟩ := HX.out w2 hb2; have HB2 := Lib.hid hb2; clear hb2))
      | (go_at_call 24; (with_reducible refine (HE.out _ HB2.out).mono ?_); rintro e w3 ⟨rfl, hb3⟩; have HB3 := Lib.hid (HB2.out.trans (hb3.mono HB2.out.size)); clear hb3))
    go_ret2
    exact Ran.none (HB0.out _ HB3.out)
  · rw [h1] at HV
    have HV1 := Lib.hid (HV.out W1 HR0.out)
    rw [HW.out] at HV1
    rw [h2] at HE
    obtain ⟨hn2, hall⟩ := envR_zero h2
    have HI := Lib.hid (chk_valid h1).2.1
    have HA := Lib.hid hall
    have HOK := Lib.hid hok
    have HEND := Lib.hid hend
    clear h1 h2 hall hok hend
    obtain ⟨i0, hi, hz0, hz1, hz2⟩ := info_parts bool_info
    go_enter Try.func10, Try.ntmps10
    go_wp2_with (first
      | (go_at_call 12; ((with_reducible refine HV1.out.mono ?_); rintro e w2 ⟨rfl, hb2⟩; rw [← HW.out] at hb2; obtain ⟨e0, e1, e2⟩ := HX.out w2 hb2; have HB2 := Lib.hid hb2; clear hb2))
      | (go_at_call 24; (with_reducible refine (HE.out _ HB2.out).mono ?_); rintro e w3 ⟨rfl, hb3⟩; have HB3 := Lib.hid (HB2.out.trans (hb3.mono HB2.out.size)); clear hb3; clear e0 e1 e2; obtain ⟨e0, e1, e2⟩ := HX.out w3 HB3.out))
    clear e0 e1 e2 c0
    have hs3 := HB3.out.size
    go_loopw [6, 7] (fun vo vi wr => ∃ k : Nat, vi = .int .i64 k ∧ k ≤ kf ∧ RowB wr W1.heap.size vo (bitsR M B N X n k) ∧ Below W1.heap.size W1 wr) (fun _ vi _ => ni - (intOf vi).toNat)
    case atStart => exact ⟨0, rfl, by omega, World.ownsRow_nil _ _ _ _, HB3.out⟩
    case round =>
      obtain ⟨k, rfl, hk, hr, hb⟩ := hrel
      have HR := Lib.hid hr
      have HBJ := Lib.hid hb
      have hsJ := hb.size
      obtain ⟨e0, e1, e2⟩ := HX.out wr hb
      by_cases hlt : k < ni
      · obtain ⟨b, oi, hpi, hbn, a0, a1⟩ := (HC.out.ins.below (HB0.out _ hb)) k hlt
        subst hpi
        have hbit := in_bit HI.out hlt
        obtain ⟨β, hβ⟩ : ∃ β : Nat, B k = β := ⟨(B k).toNat, by omega⟩
        rw [hβ] at a1 hbit
        have hj0 : (0 : Int) ≤ (k : Int) := Int.natCast_nonneg _
        have hj1 : (k : Int) < (ni : Int) := by omega
        have hsw : W1.heap.size = w.heap.size + 1 := by have h2 := HW.out; rw [h2]; simp
        have hsl : w.heap.size < wr.heap.size := by omega
        clear hsw
        have HC2 := Lib.hid (fun (W : World) (h : Below wr.heap.size wr W) => (⟨by rw [h.cell hsl]; exact e0, by rw [h.cell hbn]; exact a0, by rw [h.cell hbn]; exact a1⟩ : W.cell? ⟨w.heap.size, 0, none⟩ = some (.slice (some ⟨b, oi, none⟩) ni ci) ∧ W.cell? ⟨b, oi + k * 2, none⟩ = some (.string (M k)) ∧ W.cell? ⟨b, oi + k * 2 + 1, none⟩ = some (.int .i64 (β : Int))))
        have HEV := Lib.hid (HVS.out.below (HB0.out _ hb))
        clear hr hb
        rcases step_ways M B N D X n k HA.out with ⟨hnot, hst⟩ | ⟨e, he, hne, hidx, ⟨hd, hst⟩ | ⟨hd, hst⟩⟩
        · obtain ⟨rfl, rfl⟩ : L = [] ∧ err = 16 := by
            have hkk : ¬ k < kf := fun h => by rw [HOK.out k h] at hst; cases hst
            have e : k = kf := by omega
            subst e
            rcases HEND.out with ⟨_, h2, _, h4⟩ | ⟨h2, _⟩
            · exact ⟨h4, by rw [← h2, hst]⟩
            · omega
          have HS := Lib.hid (bound_no pv n cv N D X (M k) wr (by omega) HEV.out hnot)
          clear hst hnot
          go_wp2_with (go_at_call 25; (with_reducible refine HS.out.mono ?_); rintro e w7 ⟨rfl, hb7⟩; have HB7 := Lib.hid hb7; clear hb7)
          go_ret2
          exact Ran.none ((HB0.out _ HBJ.out).trans ((HB7.out.alloc HB7.out.size _).mono (HB0.out _ HBJ.out).size))
        · obtain ⟨rfl, rfl⟩ : L = [] ∧ err = 2 := by
            have hkk : ¬ k < kf := fun h => by rw [HOK.out k h] at hst; cases hst
            have e : k = kf := by omega
            subst e
            rcases HEND.out with ⟨_, h2, _, h4⟩ | ⟨h2, _⟩
            · exact ⟨h4, by rw [← h2, hst]⟩
            · omega
          have HS := Lib.hid (by
            have h := bound_yes pv n cv N D X wr (by omega) HEV.out e he (env_notIn HA.out e he)
            rw [hne] at h; exact h)
          have d2 : decide (D e ≤ (β : Int)) = true := decide_eq_true (by rw [← hβ]; exact hd)
          clear hst hidx
          go_wp2_with (go_at_call 25; (with_reducible refine HS.out.mono ?_); rintro e w7 ⟨rfl, hb7⟩; have HB7 := Lib.hid hb7; obtain ⟨f0, f1, f2⟩ := HC2.out w7 hb7; clear hb7)
          obtain ⟨W9, hW9⟩ : ∃ W9, W9 = w7.alloc (.cells #[.string (M k), .int .i64 (D e), .int .u64 (X e : Nat)] 49) := ⟨_, rfl⟩
          have hb9 : Below wr.heap.size wr W9 := by rw [hW9]; exact HB7.out.alloc HB7.out.size _
          have g1 : W9.cell? ⟨w7.heap.size, 1, none⟩ = some (.int .i64 (D e)) := by rw [hW9]; clear hW9; go_simp
          have g2 : W9.cell? ⟨w7.heap.size, 2, none⟩ = some (.int .u64 (X e : Nat)) := by rw [hW9]; clear hW9; go_simp
          have hs9 : w7.heap.size < W9.heap.size := by rw [hW9]; simp
          obtain ⟨q0, q1, q2⟩ := HC2.out W9 hb9
          have K0 := fun d os => cell_regrown q0 d os
          have K1 := fun d os => cell_regrown q2 d os
          have K2 := fun d os => cell_regrown g1 d os
          have HB9 := Lib.hid hb9
          rw [← hW9]
          clear f0 f1 f2 q0 q1 q2 hb9 hW9 e0 e1 e2 a0 a1
          refine wp_region_quiet_below (by kernel_rfl) (by kernel_rfl) ?_
          repeat (first | go_big_quiet_step (fail) | quiet_step (fail))
          refine wpQuiet_nil ?_
          intro _ hw'
          obtain ⟨⟨dq, osq⟩, hw''⟩ := hw'
          subst hw''
          have HB8 := Lib.hid (HB9.out.trans ((below_regrown W9 dq osq).mono HB9.out.size))
          generalize grow (redrawn W9 dq) osq = w8 at *
          clear K0 K1 K2
          go_wp2
          go_ret2
          exact Ran.none ((HB0.out _ HBJ.out).trans (HB8.out.mono (HB0.out _ HBJ.out).size))
        · have hkk : k < kf := by
            rcases Nat.lt_or_ge k kf with h | h
            · exact h
            · have e2 : k = kf := by omega
              subst e2
              rcases HEND.out with ⟨_, h2, h3, _⟩ | ⟨h2, _⟩
              · exact absurd (h2.symm.trans hst) h3
              · omega
          have HS := Lib.hid (by
            have h := bound_yes pv n cv N D X wr (by omega) HEV.out e he (env_notIn HA.out e he)
            rw [hne] at h; exact h)
          have HNS := Lib.hid (show bitsR M B N X n (k + 1) = bitsR M B N X n k ++ [decide (X e / 2 ^ β % 2 = 1)] by rw [bitsR_succ]; unfold bitR; rw [hidx, hβ]; rfl)
          have HOL := Lib.hid (bitsR_length M B N X n k)
          have d2 : decide (D e ≤ (β : Int)) = false := decide_eq_false (by rw [hβ] at hd; omega)
          clear hst hidx
          go_wp2_with (go_at_call 25; (with_reducible refine HS.out.mono ?_); rintro e w7 ⟨rfl, hb7⟩; have HB7 := Lib.hid hb7; obtain ⟨f0, f1, f2⟩ := HC2.out w7 hb7; clear hb7)
          obtain ⟨W9, hW9⟩ : ∃ W9, W9 = w7.alloc (.cells #[.string (M k), .int .i64 (D e), .int .u64 (X e : Nat)] 49) := ⟨_, rfl⟩
          have hb9 : Below wr.heap.size wr W9 := by rw [hW9]; exact HB7.out.alloc HB7.out.size _
          have g1 : W9.cell? ⟨w7.heap.size, 1, none⟩ = some (.int .i64 (D e)) := by rw [hW9]; clear hW9; go_simp
          have g2 : W9.cell? ⟨w7.heap.size, 2, none⟩ = some (.int .u64 (X e : Nat)) := by rw [hW9]; clear hW9; go_simp
          have hs9 : w7.heap.size < W9.heap.size := by rw [hW9]; simp
          obtain ⟨q0, q1, q2⟩ := HC2.out W9 hb9
          have K0 := fun d os => cell_regrown q0 d os
          have K1 := fun d os => cell_regrown q2 d os
          have K2 := fun d os => cell_regrown g1 d os
          have HB9 := Lib.hid hb9
          rw [← hW9]
          clear f0 f1 f2 q0 q1 q2 hb9 hW9 e0 e1 e2 a0 a1
          refine wp_region_quiet_below (by kernel_rfl) (by kernel_rfl) ?_
          repeat (first | go_big_quiet_step (fail) | quiet_step (fail))
          refine wpQuiet_nil ?_
          intro _ hw'
          obtain ⟨⟨dq, osq⟩, hw''⟩ := hw'
          subst hw''
          have HB8 := Lib.hid (HB9.out.trans ((below_regrown W9 dq osq).mono HB9.out.size))
          have g28 : (grow (redrawn W9 dq) osq).cell? ⟨w7.heap.size, 2, none⟩ = some (.int .u64 (X e : Nat)) := by rw [(below_regrown W9 dq osq).cell hs9]; exact g2
          generalize grow (redrawn W9 dq) osq = w8 at *
          clear K0 K1 K2 g1 g2
          have hb0 : (0 : Int) ≤ (β : Int) := Int.natCast_nonneg _
          obtain ⟨q0, q1, q2⟩ := HC2.out w8 HB8.out
          have hxe := HXX.out e he
          have hs8 := HB8.out.size
          have HR8 := Lib.hid (HR.out.kept HB8.out)
          have HB18 := Lib.hid (HBJ.out.trans (HB8.out.mono HBJ.out.size))
          go_wp2
          go_loop [10, 11] (fun vx vk => ∃ j y : Nat, vk = .int .i64 j ∧ j ≤ β ∧ y = X e / 2 ^ j ∧ vx = .int .u64 (y : Nat)) (fun _ vk => β - (intOf vk).toNat)
          case atStart => exact ⟨0, X e, rfl, by omega, by simp, rfl⟩
          case round =>
            obtain ⟨j, y, rfl, hj, hy, rfl⟩ := hrel
            have hyx : y < 18446744073709551616 := by
              have := Nat.div_le_self (X e) (2 ^ j)
              omega
            by_cases hjl : j < β
            · have HY := Lib.hid (show y / 2 = X e / 2 ^ (j + 1) by rw [hy, Nat.pow_succ, Nat.div_div_eq_div_mul])
              clear hy
              go_wp2
              go_round
              case rel => exact ⟨j + 1, y / 2, by first | rfl | go_num | (rw [wrap64_small _ (by omega) (by omega)]; rfl), by omega, HY.out, by first | rfl | go_num | (congr 1)⟩
              case measure => (try rw [wrap64_small _ (by omega) (by omega)]); simp only [intOf]; omega
            · obtain rfl : j = β := by omega
              have HY := Lib.hid hy
              obtain ⟨z, hz⟩ : ∃ z, ((y : Int) % 2 == 1) = z := ⟨_, rfl⟩
              have HZ := Lib.hid (show z = decide (X e / 2 ^ j % 2 = 1) by rw [← hz, ← hy, Bool.eq_iff_iff]; simp only [beq_iff_eq, decide_eq_true_eq]; omega)
              clear hy
              go_wp2_with (at_builtin; refine wpList_append_own_at _ rfl _ _ 27 rfl W1.heap.size 4 i0 (.bool false) 1 1 Try.underlying27 hi hz0 hz1 hz2 rfl (by decide) _ _ _ rfl (World.ownsRow.alloc HR8.out _) ⟨_, 0, none⟩ 1 1 [.bool z] rfl (by rfl) (cell_one_new _ _ _) (one_cell1 rfl) (by rw [HOL.out]; unfold maxLen; omega) (by rw [HOL.out]; omega) (by simp; omega) ?_; intro v9 w9 hown9 hg9 _ _; have HR9 := Lib.hid (show RowB w9 W1.heap.size v9 (bitsR M B N X n k ++ [z]) by (unfold RowB; rw [bls_append, List.length_append]; exact hown9)); have HB99 := Lib.hid ((HB18.out.alloc HB18.out.size _).grown hg9 (by have := HB18.out.size; simp; omega) (fun r hr => (World.ownsRow.lt HR8.out r hr).1)); clear hown9 hg9)
              go_roundw
              case rel => exact ⟨k + 1, by first | rfl | go_num | (rw [wrap64_small _ (by omega) (by omega)]; rfl), by omega, by rw [HNS.out, ← HZ.out]; exact HR9.out, HB99.out⟩
              case measure => (try rw [wrap64_small _ (by omega) (by omega)]); simp only [intOf]; omega
      · obtain rfl : k = ni := by omega
        obtain ⟨rfl, rfl⟩ : L = bitsR M B N X n k ∧ err = 0 := by
          rcases HEND.out with ⟨h1, _⟩ | ⟨_, h2, h3⟩
          · omega
          · exact ⟨h2, h3⟩
        clear hr hb
        go_wp2
        go_ret2
        exact ⟨u6, rfl, HR.out.base HB.out.size, HB0.out _ HBJ.out⟩
end Go.Proofs.Ytmbogdimjbhbmaa
