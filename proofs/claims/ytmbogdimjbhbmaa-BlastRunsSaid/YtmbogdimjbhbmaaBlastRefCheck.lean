/- Contract of the reference's Check of circuits. -/
import Derived.Test.YtmbogdimjbhbmaaBlastRefMath
namespace Go.Proofs.Ytmbogdimjbhbmaa
open Go.RowKit Go.Sort
set_option linter.unusedVariables false

set_option maxRecDepth 100000 in
set_option maxHeartbeats 1000000 in
theorem refCheck_any (pi pg po : Option Addr) (ni ng no ci cg co : Nat) (N : Nat → ByteArray) (B P Q O : Nat → Int) (w : World) (hc : CirAt w pi pg po ni ng no N B P Q O) :
    Calls Try.prog 12 #[.agg #[.slice pi ni ci, .slice pg ng cg, .slice po no co]] w fun e w' => e = .returned (.int .i64 (chkR N B P Q O ni ng no : Nat)) ∧ Below w.heap.size w w' := by
  obtain ⟨r, hr⟩ : ∃ r, r = chkR N B P Q O ni ng no := ⟨_, rfl⟩
  rw [← hr]
  have HR := Lib.hid hr
  have hni := hc.hi
  have hng := hc.hg
  have hno := hc.ho
  have HC := Lib.hid hc
  clear hc hr
  by_cases hm : manyR ni ng no = true
  · obtain rfl : r = 4 := by rw [HR.out, chk_many hm]
    have hm' : 512 < ni ∨ (¬ 512 < ni ∧ 100000 < ng) ∨ (¬ 512 < ni ∧ ¬ 100000 < ng ∧ 64 < no) := by
      unfold manyR at hm; simp only [Bool.or_eq_true, decide_eq_true_eq] at hm; omega
    clear hm HR
    rcases hm' with h | ⟨h, h2⟩ | ⟨h, h2, h3⟩
    all_goals
      go_enter Try.func12, Try.ntmps12
      go_wp2
      go_ret
      exact ⟨rfl, (Below.refl _ _).alloc (Nat.le_refl _) _⟩
  have hm0 : manyR ni ng no = false := by simpa using hm
  obtain ⟨m1, m2, m3⟩ : ni ≤ 512 ∧ ng ≤ 100000 ∧ no ≤ 64 := by
    unfold manyR at hm0; simp only [Bool.or_eq_false_iff, decide_eq_false_iff_not] at hm0; omega
  have HM := Lib.hid hm0
  clear hm hm0 hni hng hno
  obtain ⟨W1, hW1⟩ : ∃ W1, W1 = w.alloc (.cells #[.slice pi ni ci, .slice pg ng cg, .slice po no co] 26) := ⟨_, rfl⟩
  have hb1 : Below w.heap.size w W1 := by rw [hW1]; exact (Below.refl _ _).alloc (Nat.le_refl _) _
  have c0 : W1.cell? ⟨w.heap.size, 0, none⟩ = some (.slice pi ni ci) := by rw [hW1]; go_simp
  have c1 : W1.cell? ⟨w.heap.size, 1, none⟩ = some (.slice pg ng cg) := by rw [hW1]; go_simp
  have c2 : W1.cell? ⟨w.heap.size, 2, none⟩ = some (.slice po no co) := by rw [hW1]; go_simp
  have hsz : w.heap.size < W1.heap.size := by rw [hW1]; simp
  have HB := Lib.hid hb1
  have H0 := Lib.hid (And.intro hsz (And.intro c0 (And.intro c1 c2)))
  have HX := Lib.hid (fun (wr : World) (h : Below W1.heap.size W1 wr) => (⟨by rw [h.cell hsz]; exact c0, by rw [h.cell hsz]; exact c1, by rw [h.cell hsz]; exact c2⟩ : wr.cell? ⟨w.heap.size, 0, none⟩ = some (.slice pi ni ci) ∧ wr.cell? ⟨w.heap.size, 1, none⟩ = some (.slice pg ng cg) ∧ wr.cell? ⟨w.heap.size, 2, none⟩ = some (.slice po no co)))
  have HW := Lib.hid hW1
  clear hb1 c0 c1 c2 hsz hW1
  have d1 : decide ((512 : Int) < (ni : Int)) = false := by simp; omega
  have d2 : decide ((100000 : Int) < (ng : Int)) = false := by simp; omega
  have d3 : decide ((64 : Int) < (no : Int)) = false := by simp; omega
  go_enter Try.func12, Try.ntmps12
  go_wp2
  rw [← HW.out]
  clear HW d1 d2 d3
  go_loopw [3] (fun vi wr => ∃ k : Nat, vi = .int .i64 k ∧ k ≤ ni ∧ inputsR N B k = true ∧ Below W1.heap.size W1 wr) (fun vi _ => ni - (intOf vi).toNat)
  case atStart => exact ⟨0, rfl, by omega, rfl, Below.refl _ _⟩
  case round =>
    obtain ⟨k, rfl, hk, hl, hb⟩ := hrel
    have HL := Lib.hid hl
    have HB3 := Lib.hid hb
    clear hl hb
    obtain ⟨e0, e1, e2⟩ := HX.out wr HB3.out
    by_cases hlt : k < ni
    · obtain ⟨b, o, hp, hbn, a0, a1⟩ := ((HC.out.ins.below HB.out).below HB3.out) k hlt
      subst hp
      obtain ⟨q1, h1⟩ : ∃ q, varR (N k) = q := ⟨_, rfl⟩
      obtain ⟨q2, h2⟩ : ∃ q, decide (B k < 0) = q := ⟨_, rfl⟩
      obtain ⟨q3, h3⟩ : ∃ q, decide (64 ≤ B k) = q := ⟨_, rfl⟩
      have h3' : decide (63 < B k) = q3 := by rw [← h3, Bool.eq_iff_iff]; simp; omega
      obtain ⟨q4, h4⟩ : ∃ q, (k == 0 || befR (N (k - 1)) (B (k - 1)) (N k) (B k)) = q := ⟨_, rfl⟩
      have HQ := Lib.hid (show inOk N B k = (q1 && !q2 && !q3 && q4) by unfold inOk; rw [h1, h2, h3, h4])
      obtain ⟨W2, hW2⟩ : ∃ W2, W2 = wr.alloc (.cells #[.string (N k), .int .i64 (B k)] 45) := ⟨_, rfl⟩
      have hb2 : Below wr.heap.size wr W2 := by rw [hW2]; exact (Below.refl _ _).alloc (Nat.le_refl _) _
      have C0 : W2.cell? ⟨wr.heap.size, 0, none⟩ = some (.string (N k)) := by rw [hW2]; go_simp
      have C1 : W2.cell? ⟨wr.heap.size, 1, none⟩ = some (.int .i64 (B k)) := by rw [hW2]; go_simp
      have hs2 : wr.heap.size < W2.heap.size := by rw [hW2]; simp
      have HC0 := Lib.hid (And.intro hs2 (And.intro C0 (And.intro C1 hb2)))
      have HV := Lib.hid (refVar_any (N k) W2 (by have := HC.out.hN k hlt; omega))
      rw [h1] at HV
      have HW2 := Lib.hid hW2
      have HS := Lib.hid (fun d os (w3 : World) (hb3 : Below W2.heap.size W2 w3) => HB.out.trans ((HB3.out.trans ((hb2.trans ((hb3.mono hb2.size).trans ((below_regrown w3 d os).mono (Nat.le_trans hb2.size hb3.size)))).mono HB3.out.size)).mono HB.out.size))
      have HS1 := Lib.hid (fun d os (w3 : World) (hb3 : Below W2.heap.size W2 w3) => HB3.out.trans ((hb2.trans ((hb3.mono hb2.size).trans ((below_regrown w3 d os).mono (Nat.le_trans hb2.size hb3.size)))).mono HB3.out.size))
      have HS2 := Lib.hid (fun (w3 : World) (hb3 : Below W2.heap.size W2 w3) => HB.out.trans ((HB3.out.trans ((hb2.trans (hb3.mono hb2.size)).mono HB3.out.size)).mono HB.out.size))
      have HP := Lib.hid (fun (w3 : World) (hb3 : Below W2.heap.size W2 w3) => HX.out w3 (HB3.out.trans ((hb2.trans (hb3.mono hb2.size)).mono HB3.out.size)))
      clear hb2 C0 C1 hs2 hW2 h1
      go_wp2_with fail
      rw [← HW2.out]
      clear a0 a1 e0 e1 e2
      cases q1 with
      | false =>
        go_wp2_with (go_at_call 28; (with_reducible refine HV.out.mono ?_); rintro e w3 ⟨rfl, hb3⟩)
        go_ret
        refine ⟨?_, HS2.out w3 hb3⟩
        rw [HR.out, chk_in HM.out (allTo_no (inOk N B) k (by rw [HQ.out]; rfl) ni hlt)]
        rfl
      | true =>
        cases q2 with
        | true =>
          go_wp2_with (go_at_call 28; (with_reducible refine HV.out.mono ?_); rintro e w3 ⟨rfl, hb3⟩; obtain ⟨f0, f1⟩ : w3.cell? ⟨wr.heap.size, 0, none⟩ = some (.string (N k)) ∧ w3.cell? ⟨wr.heap.size, 1, none⟩ = some (.int .i64 (B k)) := ⟨by rw [hb3.cell HC0.out.1]; exact HC0.out.2.1, by rw [hb3.cell HC0.out.1]; exact HC0.out.2.2.1⟩; obtain ⟨e0, e1, e2⟩ := HP.out w3 hb3; have HB4 := Lib.hid hb3; clear hb3)
          go_ret
          refine ⟨?_, HS2.out w3 HB4.out⟩
          rw [HR.out, chk_in HM.out (allTo_no (inOk N B) k (by rw [HQ.out]; rfl) ni hlt)]
          rfl
        | false =>
          cases q3 with
          | true =>
            go_wp2_with (go_at_call 28; (with_reducible refine HV.out.mono ?_); rintro e w3 ⟨rfl, hb3⟩; obtain ⟨f0, f1⟩ : w3.cell? ⟨wr.heap.size, 0, none⟩ = some (.string (N k)) ∧ w3.cell? ⟨wr.heap.size, 1, none⟩ = some (.int .i64 (B k)) := ⟨by rw [hb3.cell HC0.out.1]; exact HC0.out.2.1, by rw [hb3.cell HC0.out.1]; exact HC0.out.2.2.1⟩; obtain ⟨e0, e1, e2⟩ := HP.out w3 hb3; have HB4 := Lib.hid hb3; clear hb3)
            go_ret
            refine ⟨?_, HS2.out w3 HB4.out⟩
            rw [HR.out, chk_in HM.out (allTo_no (inOk N B) k (by rw [HQ.out]; rfl) ni hlt)]
            rfl
          | false =>
            by_cases hk0 : k = 0
            · have hkd : decide ((0 : Int) < (k : Int)) = false := by simp; omega
              have hkn : decide (0 < k) = false := by simp; omega
              obtain rfl : q4 = true := by rw [← h4, hk0]; rfl
              clear h4 hk0
              go_wp2_with (go_at_call 28; (with_reducible refine HV.out.mono ?_); rintro e w3 ⟨rfl, hb3⟩; obtain ⟨f0, f1⟩ : w3.cell? ⟨wr.heap.size, 0, none⟩ = some (.string (N k)) ∧ w3.cell? ⟨wr.heap.size, 1, none⟩ = some (.int .i64 (B k)) := ⟨by rw [hb3.cell HC0.out.1]; exact HC0.out.2.1, by rw [hb3.cell HC0.out.1]; exact HC0.out.2.2.1⟩; obtain ⟨e0, e1, e2⟩ := HP.out w3 hb3; have K0 := fun d os => cell_regrown f0 d os; have K1 := fun d os => cell_regrown f1 d os; have K2 := fun d os => cell_regrown e0 d os; have HB4 := Lib.hid hb3; clear hb3)
              refine wp_region_quiet_below (by kernel_rfl) (by kernel_rfl) ?_
              repeat (first | go_big_quiet_step (fail) | quiet_step (fail))
              refine wpQuiet_nil ?_
              intro _ hw'
              obtain ⟨⟨dq, osq⟩, hw''⟩ := hw'
              subst hw''
              go_wp2
              go_roundw
              case rel => exact ⟨k + 1, by first | rfl | go_num | (rw [wrap64_small _ (by omega) (by omega)]; rfl), by omega, by rw [show inputsR N B (k + 1) = (inputsR N B k && inOk N B k) from rfl, HL.out, HQ.out]; rfl, HS1.out dq osq _ HB4.out⟩
              case measure => (try rw [wrap64_small _ (by omega) (by omega)]); simp only [intOf]; omega
            · obtain ⟨j, hj⟩ : ∃ j, j = k - 1 := ⟨_, rfl⟩
              obtain ⟨b', o', hp', hbn', a0', a1'⟩ := ((HC.out.ins.below HB.out).below HB3.out) j (by omega)
              obtain ⟨rfl, rfl⟩ : b' = b ∧ o' = o := by injection hp' with h; injection h with h5 h6; exact ⟨h5.symm, h6.symm⟩
              have HJ := Lib.hid (fun (w3 : World) (hb3 : Below W2.heap.size W2 w3) => (⟨by rw [(HC0.out.2.2.2.trans (hb3.mono HC0.out.2.2.2.size)).cell hbn']; exact a0', by rw [(HC0.out.2.2.2.trans (hb3.mono HC0.out.2.2.2.size)).cell hbn']; exact a1'⟩ : w3.cell? ⟨b', o' + j * 2, none⟩ = some (.string (N j)) ∧ w3.cell? ⟨b', o' + j * 2 + 1, none⟩ = some (.int .i64 (B j))))
              obtain ⟨s5, h5⟩ : ∃ s, Op.bytesLess (N j).toList (N k).toList = s := ⟨_, rfl⟩
              obtain ⟨s2, h2'⟩ : ∃ s, ((N j).toList == (N k).toList) = s := ⟨_, rfl⟩
              obtain ⟨s3, h3''⟩ : ∃ s, decide (B k ≤ B j) = s := ⟨_, rfl⟩
              have hex : s5 = true → s2 = false := fun h => by rw [← h2']; exact less_ne (by rw [h5, h])
              have h4' : q4 = (s5 || (s2 && !s3)) := by
                rw [← h4, show (k == 0) = false by simpa using hk0, ← hj, Bool.false_or, befR_tests, h5, h2', ← h3'']
                congr 2
                rw [Bool.eq_iff_iff]; simp
              have hj0 : (0 : Int) ≤ (j : Int) := Int.natCast_nonneg _
              have hj1 : (j : Int) < (ni : Int) := by omega
              have hj2 : (0 : Int) < (k : Int) := by omega
              have hj4 : 0 < k := by omega
              have hj3 : IntKind.i64.wrap ((k : Int) - 1) = (j : Int) := by rw [show (k : Int) - 1 = j by omega]; exact IntWalk.i64_in _ (by omega)
              clear h4 a0' a1' hbn' hp' hk0 hj
              cases s5 with
              | true =>
                obtain rfl : s2 = false := hex rfl
                obtain rfl : q4 = true := h4'
                clear hex
                go_wp2_with (go_at_call 28; (with_reducible refine HV.out.mono ?_); rintro e w3 ⟨rfl, hb3⟩; obtain ⟨f0, f1⟩ : w3.cell? ⟨wr.heap.size, 0, none⟩ = some (.string (N k)) ∧ w3.cell? ⟨wr.heap.size, 1, none⟩ = some (.int .i64 (B k)) := ⟨by rw [hb3.cell HC0.out.1]; exact HC0.out.2.1, by rw [hb3.cell HC0.out.1]; exact HC0.out.2.2.1⟩; obtain ⟨e0, e1, e2⟩ := HP.out w3 hb3; have K0 := fun d os => cell_regrown f0 d os; have K1 := fun d os => cell_regrown f1 d os; have K2 := fun d os => cell_regrown e0 d os; have K3 := fun d os => cell_regrown (HJ.out w3 hb3).1 d os; have K4 := fun d os => cell_regrown (HJ.out w3 hb3).2 d os; have HB4 := Lib.hid hb3; clear hb3)
                refine wp_region_quiet_below (by kernel_rfl) (by kernel_rfl) ?_
                repeat (first | go_big_quiet_step (fail) | quiet_step (fail))
                refine wpQuiet_nil ?_
                intro _ hw'
                obtain ⟨⟨dq, osq⟩, hw''⟩ := hw'
                subst hw''
                go_wp2
                go_roundw
                case rel => exact ⟨k + 1, by first | rfl | go_num | (rw [wrap64_small _ (by omega) (by omega)]; rfl), by omega, by rw [show inputsR N B (k + 1) = (inputsR N B k && inOk N B k) from rfl, HL.out, HQ.out]; rfl, HS1.out dq osq _ HB4.out⟩
                case measure => (try rw [wrap64_small _ (by omega) (by omega)]); simp only [intOf]; omega
              | false =>
                clear hex
                cases s2 with
                | false =>
                  obtain rfl : q4 = false := h4'
                  go_wp2_with (go_at_call 28; (with_reducible refine HV.out.mono ?_); rintro e w3 ⟨rfl, hb3⟩; obtain ⟨f0, f1⟩ : w3.cell? ⟨wr.heap.size, 0, none⟩ = some (.string (N k)) ∧ w3.cell? ⟨wr.heap.size, 1, none⟩ = some (.int .i64 (B k)) := ⟨by rw [hb3.cell HC0.out.1]; exact HC0.out.2.1, by rw [hb3.cell HC0.out.1]; exact HC0.out.2.2.1⟩; obtain ⟨e0, e1, e2⟩ := HP.out w3 hb3; have K0 := fun d os => cell_regrown f0 d os; have K1 := fun d os => cell_regrown f1 d os; have K2 := fun d os => cell_regrown e0 d os; have K3 := fun d os => cell_regrown (HJ.out w3 hb3).1 d os; have K4 := fun d os => cell_regrown (HJ.out w3 hb3).2 d os; have HB4 := Lib.hid hb3; clear hb3)
                  refine wp_region_quiet_below (by kernel_rfl) (by kernel_rfl) ?_
                  repeat (first | go_big_quiet_step (fail) | quiet_step (fail))
                  refine wpQuiet_nil ?_
                  intro _ hw'
                  obtain ⟨⟨dq, osq⟩, hw''⟩ := hw'
                  subst hw''
                  go_wp2
                  go_ret
                  refine ⟨?_, HS.out dq osq _ HB4.out⟩
                  rw [HR.out, chk_in HM.out (allTo_no (inOk N B) k (by rw [HQ.out]; rfl) ni hlt)]
                  rfl
                | true =>
                  cases s3 with
                  | true =>
                    obtain rfl : q4 = false := h4'
                    go_wp2_with (go_at_call 28; (with_reducible refine HV.out.mono ?_); rintro e w3 ⟨rfl, hb3⟩; obtain ⟨f0, f1⟩ : w3.cell? ⟨wr.heap.size, 0, none⟩ = some (.string (N k)) ∧ w3.cell? ⟨wr.heap.size, 1, none⟩ = some (.int .i64 (B k)) := ⟨by rw [hb3.cell HC0.out.1]; exact HC0.out.2.1, by rw [hb3.cell HC0.out.1]; exact HC0.out.2.2.1⟩; obtain ⟨e0, e1, e2⟩ := HP.out w3 hb3; have K0 := fun d os => cell_regrown f0 d os; have K1 := fun d os => cell_regrown f1 d os; have K2 := fun d os => cell_regrown e0 d os; have K3 := fun d os => cell_regrown (HJ.out w3 hb3).1 d os; have K4 := fun d os => cell_regrown (HJ.out w3 hb3).2 d os; have HB4 := Lib.hid hb3; clear hb3)
                    refine wp_region_quiet_below (by kernel_rfl) (by kernel_rfl) ?_
                    repeat (first | go_big_quiet_step (fail) | quiet_step (fail))
                    refine wpQuiet_nil ?_
                    intro _ hw'
                    obtain ⟨⟨dq, osq⟩, hw''⟩ := hw'
                    subst hw''
                    go_wp2
                    go_ret
                    refine ⟨?_, HS.out dq osq _ HB4.out⟩
                    rw [HR.out, chk_in HM.out (allTo_no (inOk N B) k (by rw [HQ.out]; rfl) ni hlt)]
                    rfl
                  | false =>
                    obtain rfl : q4 = true := h4'
                    go_wp2_with (go_at_call 28; (with_reducible refine HV.out.mono ?_); rintro e w3 ⟨rfl, hb3⟩; obtain ⟨f0, f1⟩ : w3.cell? ⟨wr.heap.size, 0, none⟩ = some (.string (N k)) ∧ w3.cell? ⟨wr.heap.size, 1, none⟩ = some (.int .i64 (B k)) := ⟨by rw [hb3.cell HC0.out.1]; exact HC0.out.2.1, by rw [hb3.cell HC0.out.1]; exact HC0.out.2.2.1⟩; obtain ⟨e0, e1, e2⟩ := HP.out w3 hb3; have K0 := fun d os => cell_regrown f0 d os; have K1 := fun d os => cell_regrown f1 d os; have K2 := fun d os => cell_regrown e0 d os; have K3 := fun d os => cell_regrown (HJ.out w3 hb3).1 d os; have K4 := fun d os => cell_regrown (HJ.out w3 hb3).2 d os; have HB4 := Lib.hid hb3; clear hb3)
                    refine wp_region_quiet_below (by kernel_rfl) (by kernel_rfl) ?_
                    repeat (first | go_big_quiet_step (fail) | quiet_step (fail))
                    refine wpQuiet_nil ?_
                    intro _ hw'
                    obtain ⟨⟨dq, osq⟩, hw''⟩ := hw'
                    subst hw''
                    go_wp2
                    go_roundw
                    case rel => exact ⟨k + 1, by first | rfl | go_num | (rw [wrap64_small _ (by omega) (by omega)]; rfl), by omega, by rw [show inputsR N B (k + 1) = (inputsR N B k && inOk N B k) from rfl, HL.out, HQ.out]; rfl, HS1.out dq osq _ HB4.out⟩
                    case measure => (try rw [wrap64_small _ (by omega) (by omega)]); simp only [intOf]; omega
    · obtain ⟨ki, hki⟩ : ∃ ki, ki = ni := ⟨_, rfl⟩
      obtain rfl : k = ni := by omega
      subst hki
      have HIN := Lib.hid HL.out
      clear HL
      go_wp2
      clear e0 e1 e2
      go_loopw [5] (fun vi wr' => ∃ k : Nat, vi = .int .i64 k ∧ k ≤ ng ∧ allTo (gateOk P Q ki) k = true ∧ Below W1.heap.size W1 wr') (fun vi _ => ng - (intOf vi).toNat)
      case atStart => exact ⟨0, rfl, by omega, rfl, HB3.out⟩
      case round =>
        obtain ⟨k, rfl, hk, hl, hb⟩ := hrel
        have HL2 := Lib.hid hl
        have HB5 := Lib.hid hb
        clear hl hb
        rename_i wr2 _ _
        obtain ⟨e0, e1, e2⟩ := HX.out _ HB5.out
        by_cases hlt : k < ng
        · obtain ⟨b, o, hp, hbn, a0, a1⟩ := ((HC.out.gates.below HB.out).below HB5.out) k hlt
          subst hp
          obtain ⟨m, hm⟩ : ∃ m, m = 2 * (1 + ki + k) := ⟨_, rfl⟩
          obtain ⟨s1, h1⟩ : ∃ q, decide (P k < 0) = q := ⟨_, rfl⟩
          obtain ⟨s2, h2⟩ : ∃ q, decide ((m : Int) ≤ P k) = q := ⟨_, rfl⟩
          obtain ⟨s3, h3⟩ : ∃ q, decide (Q k < 0) = q := ⟨_, rfl⟩
          obtain ⟨s4, h4⟩ : ∃ q, decide ((m : Int) ≤ Q k) = q := ⟨_, rfl⟩
          have HQ0 := Lib.hid (show gateOk P Q ki k = ((!s1 && !s2) && (!s3 && !s4)) by unfold gateOk; rw [litOk_tests _ _ m hm, litOk_tests _ _ m hm, h1, h2, h3, h4])
          have hM : 2 * (1 + (ki : Int) + (k : Int)) = (m : Int) := by omega
          have HWr := Lib.hid (HB.out.trans (HB5.out.mono HB.out.size))
          clear hm
          cases s1 with
          | true =>
            have HQ1 := Lib.hid (HQ0.out.trans rfl)
            go_wp2
            go_ret
            refine ⟨?_, HWr.out.alloc HWr.out.size _⟩
            rw [HR.out, chk_gate (N := N) (B := B) (O := O) (no := no) HM.out (allTo_no (gateOk P Q ki) k HQ1.out ng hlt)]
            rfl
          | false =>
            cases s2 with
            | true =>
              have HQ1 := Lib.hid (HQ0.out.trans rfl)
              go_wp2
              go_ret
              refine ⟨?_, HWr.out.alloc HWr.out.size _⟩
              rw [HR.out, chk_gate (N := N) (B := B) (O := O) (no := no) HM.out (allTo_no (gateOk P Q ki) k HQ1.out ng hlt)]
              rfl
            | false =>
              cases s3 with
              | true =>
                have HQ1 := Lib.hid (HQ0.out.trans rfl)
                go_wp2
                go_ret
                refine ⟨?_, HWr.out.alloc HWr.out.size _⟩
                rw [HR.out, chk_gate (N := N) (B := B) (O := O) (no := no) HM.out (allTo_no (gateOk P Q ki) k HQ1.out ng hlt)]
                rfl
              | false =>
                cases s4 with
                | true =>
                  have HQ1 := Lib.hid (HQ0.out.trans rfl)
                  go_wp2
                  go_ret
                  refine ⟨?_, HWr.out.alloc HWr.out.size _⟩
                  rw [HR.out, chk_gate (N := N) (B := B) (O := O) (no := no) HM.out (allTo_no (gateOk P Q ki) k HQ1.out ng hlt)]
                  rfl
                | false =>
                  have HQ1 := Lib.hid (HQ0.out.trans rfl)
                  go_wp2
                  go_roundw
                  case rel => exact ⟨k + 1, by first | rfl | go_num | (rw [wrap64_small _ (by omega) (by omega)]; rfl), by omega, by rw [allTo_succ, HL2.out, HQ1.out]; rfl, HB5.out.alloc HB5.out.size _⟩
                  case measure => (try rw [wrap64_small _ (by omega) (by omega)]); simp only [intOf]; omega
        · obtain ⟨kg, hkg⟩ : ∃ kg, kg = ng := ⟨_, rfl⟩
          obtain rfl : k = ng := by omega
          subst hkg
          have HGA := Lib.hid (show gatesR P Q ki kg = true from HL2.out)
          clear HL2
          go_wp2
          clear e0 e1 e2
          go_loopw [8] (fun vi wr' => ∃ k : Nat, vi = .int .i64 k ∧ k ≤ no ∧ allTo (fun i => litOk (O i) (1 + ki + kg)) k = true ∧ Below W1.heap.size W1 wr') (fun vi _ => no - (intOf vi).toNat)
          case atStart => exact ⟨0, rfl, by omega, rfl, HB5.out⟩
          case round =>
            obtain ⟨k, rfl, hk, hl, hb⟩ := hrel
            have HL3 := Lib.hid hl
            have HB6 := Lib.hid hb
            clear hl hb
            obtain ⟨e0, e1, e2⟩ := HX.out _ HB6.out
            have HWr := Lib.hid (HB.out.trans (HB6.out.mono HB.out.size))
            by_cases hlt : k < no
            · obtain ⟨b, o, hp, hbn, a0⟩ := ((HC.out.outs.below HB.out).below HB6.out) k hlt
              subst hp
              obtain ⟨m, hm⟩ : ∃ m, m = 2 * (1 + ki + kg) := ⟨_, rfl⟩
              obtain ⟨s1, h1⟩ : ∃ q, decide (O k < 0) = q := ⟨_, rfl⟩
              obtain ⟨s2, h2⟩ : ∃ q, decide ((m : Int) ≤ O k) = q := ⟨_, rfl⟩
              have HQ0 := Lib.hid (show (fun i => litOk (O i) (1 + ki + kg)) k = (!s1 && !s2) by show litOk (O k) (1 + ki + kg) = _; rw [litOk_tests _ _ m hm, h1, h2])
              have hj0 : (0 : Int) ≤ (k : Int) := Int.natCast_nonneg _
              have hj1 : (k : Int) < (no : Int) := by omega
              have w1 : IntKind.i64.wrap (1 + (ki : Int)) = 1 + (ki : Int) := IntWalk.i64_in _ (by omega)
              have w2 : IntKind.i64.wrap (1 + (ki : Int) + (kg : Int)) = 1 + (ki : Int) + (kg : Int) := IntWalk.i64_in _ (by omega)
              have w3 : IntKind.i64.wrap (2 * (1 + (ki : Int) + (kg : Int))) = (m : Int) := by rw [show 2 * (1 + (ki : Int) + (kg : Int)) = (m : Int) by omega]; exact IntWalk.i64_in _ (by omega)
              have K0 := fun d os => cell_regrown e0 d os
              have K1 := fun d os => cell_regrown e1 d os
              have K2 := fun d os => cell_regrown e2 d os
              have K3 := fun d os => cell_regrown a0 d os
              clear hm
              cases s1 with
              | true =>
                have HQ1 := Lib.hid (HQ0.out.trans rfl)
                go_wp2_with fail
                refine wp_region_quiet_below (by kernel_rfl) (by kernel_rfl) ?_
                repeat (first | go_big_quiet_step (fail) | quiet_step (fail))
                refine wpQuiet_nil ?_
                intro _ hw'
                obtain ⟨⟨dq, osq⟩, hw''⟩ := hw'
                subst hw''
                go_wp2
                go_ret
                refine ⟨?_, HWr.out.trans ((below_regrown _ dq osq).mono HWr.out.size)⟩
                rw [HR.out, chk_out (N := N) (B := B) (P := P) (Q := Q) (ng := kg) HM.out (allTo_no (fun i => litOk (O i) (1 + ki + kg)) k HQ1.out no hlt)]
                rfl
              | false =>
                cases s2 with
                | true =>
                  have HQ1 := Lib.hid (HQ0.out.trans rfl)
                  go_wp2_with fail
                  refine wp_region_quiet_below (by kernel_rfl) (by kernel_rfl) ?_
                  repeat (first | go_big_quiet_step (fail) | quiet_step (fail))
                  refine wpQuiet_nil ?_
                  intro _ hw'
                  obtain ⟨⟨dq, osq⟩, hw''⟩ := hw'
                  subst hw''
                  go_wp2
                  go_ret
                  refine ⟨?_, HWr.out.trans ((below_regrown _ dq osq).mono HWr.out.size)⟩
                  rw [HR.out, chk_out (N := N) (B := B) (P := P) (Q := Q) (ng := kg) HM.out (allTo_no (fun i => litOk (O i) (1 + ki + kg)) k HQ1.out no hlt)]
                  rfl
                | false =>
                  have HQ1 := Lib.hid (HQ0.out.trans rfl)
                  go_wp2_with fail
                  refine wp_region_quiet_below (by kernel_rfl) (by kernel_rfl) ?_
                  repeat (first | go_big_quiet_step (fail) | quiet_step (fail))
                  refine wpQuiet_nil ?_
                  intro _ hw'
                  obtain ⟨⟨dq, osq⟩, hw''⟩ := hw'
                  subst hw''
                  go_wp2
                  go_roundw
                  case rel => exact ⟨k + 1, by first | rfl | go_num | (rw [wrap64_small _ (by omega) (by omega)]; rfl), by omega, by rw [allTo_succ, HL3.out, HQ1.out]; rfl, HB6.out.trans ((below_regrown _ dq osq).mono HB6.out.size)⟩
                  case measure => (try rw [wrap64_small _ (by omega) (by omega)]); simp only [intOf]; omega
            · obtain rfl : k = no := by omega
              have HF := Lib.hid (chk_ok (N := N) (B := B) (P := P) (Q := Q) (O := O) HM.out HIN.out HGA.out HL3.out)
              obtain rfl : r = 0 := by rw [HR.out, HF.out]
              go_wp2
              go_ret
              exact ⟨rfl, HWr.out⟩
end Go.Proofs.Ytmbogdimjbhbmaa
