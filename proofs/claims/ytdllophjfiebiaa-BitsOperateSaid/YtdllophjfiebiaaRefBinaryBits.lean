/- The reference's Binary on good arguments: and, or, xor. Written by wip/gen/binary.py. -/
import Derived.Test.YtdllophjfiebiaaRefBinary
namespace Go.Proofs.Ytdllophjfiebiaa
open Go.RowKit Go.Sort
set_option linter.unusedVariables false
set_option linter.unusedSimpArgs false
set_option maxRecDepth 8000

set_option maxHeartbeats 1000000 in
theorem refBinary_8 (n x y : Nat) (w : World) (h0 : 1 ≤ n) (h1 : n ≤ 64) (hx : x < 2 ^ n) (hy : y < 2 ^ n) :
    Calls Try.prog 8 #[.int .u8 8, .int .i64 n, .int .u64 x, .int .u64 y] w fun e w' => e = .returned (.tuple #[.int .u64 (opv 8 n x y : Nat), .int .i64 0]) ∧ Below w.heap.size w w' := by
  have px := pow_le n (by omega)
  have V1 := fun W => Lib.hid (wide_yes n W (by omega) (by omega))
  have O1 := fun W => refOk_yes n x W h0 h1 (by omega)
  rw [(okB_iff _ _).2 hx] at O1
  have O1 := fun W => Lib.hid (O1 W)
  have O2 := fun W => refOk_yes n y W h0 h1 (by omega)
  rw [(okB_iff _ _).2 hy] at O2
  have O2 := fun W => Lib.hid (O2 W)
  have B1 := fun W => Lib.hid (bits_any n x W h0 h1 (by omega))
  have B2 := fun W => Lib.hid (bits_any n y W h0 h1 (by omega))
  have HS1 := Lib.hid (fun (W : World) (g : Nat) (h : Cells W g n x) => top_cell W g n x h0 h)
  have HS2 := Lib.hid (fun (W : World) (g : Nat) (h : Cells W g n y) => top_cell W g n y h0 h)
  have HZ0 := Lib.hid (fun k => bt_and x y k)
  have hval := and_val n x y hx
  have HN := Lib.hid (fun (g cap : Nat) (W : World) (hw : Cells W g n (x &&& y)) => number_any n (x &&& y) g 0 cap W h1 (fun j hj => by rw [Nat.zero_add]; exact hw j hj))
  rw [show md (x &&& y) n = opv 8 n x y by rw [← hval, opv_md]] at HN
  obtain ⟨i0, hi, hz0, hz1, hz2⟩ := info_parts int_info
  generalize x &&& y = Z at *
  clear hval
  generalize opv 8 n x y = X at *
  generalize bt x (n - 1) = s at *
  generalize bt y (n - 1) = t at *
  clear hx hy px
  go_enter Try.func8, Try.ntmps8
  go_wp2_with (first
    | (go_at_call 24; (with_reducible refine ((V1 _).out).mono ?_); rintro e w' ⟨rfl, rfl⟩)
    | (go_at_call 14; (with_reducible refine ((O1 _).out).mono ?_); rintro e w' ⟨rfl, rfl⟩)
    | (go_at_call 14; (with_reducible refine ((O2 _).out).mono ?_); rintro e w' ⟨rfl, rfl⟩)
    | (go_at_call 26; (with_reducible refine ((B1 _).out).mono ?_); rintro e w1 ⟨g1, cap1, rfl, hat, hb1⟩; have HA1 := Lib.hid hat; have HB1 := Lib.hid hb1; clear hat hb1)
    | (go_at_call 26; (with_reducible refine ((B2 _).out).mono ?_); rintro e w2 ⟨g2, cap2, rfl, hat, hb2⟩; have HA2 := Lib.hid hat; have HB2 := Lib.hid hb2; have HC1 := Lib.hid (HA1.out.cells.kept hb2); have HC2 := Lib.hid hat.cells; have hs1 := HS1.out _ _ HC1.out; have hs2 := HS2.out _ _ HC2.out; clear hat hb2))
  clear hs1 hs2
  go_loopw [13, 14] (fun v i wr => ∃ k : Nat, k ≤ n ∧ i = .int .i64 k ∧ wr.ownsRow w2.heap.size 3 1 v k (bitCells Z k) ∧ Below w2.heap.size w2 wr)
    (fun _ i _ => n - (intOf i).toNat)
  case atStart => exact ⟨0, Nat.zero_le _, rfl, World.ownsRow_nil _ _ _ _, Below.refl _ _⟩
  case round =>
    obtain ⟨k, hk, rfl, hown, hb⟩ := hrel
    by_cases hlt : k < n
    · have hx1 := fun d os => cell_regrown (cell_later hb (HC1.out k hlt)) d os
      have hy1 := fun d os => cell_regrown (cell_later hb (HC2.out k hlt)) d os
      have hs := HZ0.out k
      have tk : (k : Int) < (n : Int) := by omega
      have HB := Lib.hid hb
      have HO := Lib.hid hown
      clear hb hown
      rcases bt_cases x k with ha | ha <;> rcases bt_cases y k with hbb | hbb <;> rw [ha, hbb] at hs
      · have e1 : ((bt x k : Nat) : Int) = 0 := by rw [ha]; rfl
        have e2 : ((bt y k : Nat) : Int) = 0 := by rw [hbb]; rfl
        have HZ := Lib.hid (show bt Z k = 0 by rw [hs]; rfl)
        simp only [e1] at hx1
        simp only [e2] at hy1
        clear hs ha hbb e1 e2
        go_wp2
        refine wp_region_quiet_below (by kernel_rfl) (by kernel_rfl) ?_
        repeat (first | go_big_quiet_step (fail) | quiet_step (fail))
        refine wpQuiet_nil ?_
        intro _ hw'
        obtain ⟨⟨dq, osq⟩, hw''⟩ := hw'
        subst hw''
        have HBq := Lib.hid (thenBel HB.out (below_regrown _ dq osq))
        have HOq := Lib.hid (ownsRow_kept HO.out (below_regrown wr dq osq) (Nat.le_refl _))
        clear hx1 hy1
        generalize grow (redrawn wr dq) osq = w5 at *
        go_wp2_with (at_builtin; refine wpList_append_own _ rfl _ _ 48 rfl w2.heap.size 3 i0 (.int .i64 0) 1 8 Try.underlying48 hi hz0 hz1 hz2 rfl (by decide) _ _ _ rfl (World.ownsRow.alloc HOq.out _) ⟨_, 0, none⟩ 1 1 [.int .i64 0] rfl rfl (cell_one_new _ _ _) (by intro u hu; simp at hu; subst hu; rfl) (by unfold maxLen; omega) (by omega) (by have := HBq.out.size; simp; omega) ?_; intro v' w6 hown' hgrow _; have HR := Lib.hid (step_own HOq.out HBq.out (by rw [HZ.out]; rfl) hown' hgrow); clear hown' hgrow)
        go_roundw
        case rel => exact ⟨k + 1, by omega, by go_num, HR.out.1, HR.out.2⟩
        case measure => simp [intOf]; omega
      · have e1 : ((bt x k : Nat) : Int) = 0 := by rw [ha]; rfl
        have e2 : ((bt y k : Nat) : Int) = 1 := by rw [hbb]; rfl
        have HZ := Lib.hid (show bt Z k = 0 by rw [hs]; rfl)
        simp only [e1] at hx1
        simp only [e2] at hy1
        clear hs ha hbb e1 e2
        go_wp2
        refine wp_region_quiet_below (by kernel_rfl) (by kernel_rfl) ?_
        repeat (first | go_big_quiet_step (fail) | quiet_step (fail))
        refine wpQuiet_nil ?_
        intro _ hw'
        obtain ⟨⟨dq, osq⟩, hw''⟩ := hw'
        subst hw''
        have HBq := Lib.hid (thenBel HB.out (below_regrown _ dq osq))
        have HOq := Lib.hid (ownsRow_kept HO.out (below_regrown wr dq osq) (Nat.le_refl _))
        clear hx1 hy1
        generalize grow (redrawn wr dq) osq = w5 at *
        go_wp2_with (at_builtin; refine wpList_append_own _ rfl _ _ 48 rfl w2.heap.size 3 i0 (.int .i64 0) 1 8 Try.underlying48 hi hz0 hz1 hz2 rfl (by decide) _ _ _ rfl (World.ownsRow.alloc HOq.out _) ⟨_, 0, none⟩ 1 1 [.int .i64 0] rfl rfl (cell_one_new _ _ _) (by intro u hu; simp at hu; subst hu; rfl) (by unfold maxLen; omega) (by omega) (by have := HBq.out.size; simp; omega) ?_; intro v' w6 hown' hgrow _; have HR := Lib.hid (step_own HOq.out HBq.out (by rw [HZ.out]; rfl) hown' hgrow); clear hown' hgrow)
        go_roundw
        case rel => exact ⟨k + 1, by omega, by go_num, HR.out.1, HR.out.2⟩
        case measure => simp [intOf]; omega
      · have e1 : ((bt x k : Nat) : Int) = 1 := by rw [ha]; rfl
        have e2 : ((bt y k : Nat) : Int) = 0 := by rw [hbb]; rfl
        have HZ := Lib.hid (show bt Z k = 0 by rw [hs]; rfl)
        simp only [e1] at hx1
        simp only [e2] at hy1
        clear hs ha hbb e1 e2
        go_wp2
        refine wp_region_quiet_below (by kernel_rfl) (by kernel_rfl) ?_
        repeat (first | go_big_quiet_step (fail) | quiet_step (fail))
        refine wpQuiet_nil ?_
        intro _ hw'
        obtain ⟨⟨dq, osq⟩, hw''⟩ := hw'
        subst hw''
        have HBq := Lib.hid (thenBel HB.out (below_regrown _ dq osq))
        have HOq := Lib.hid (ownsRow_kept HO.out (below_regrown wr dq osq) (Nat.le_refl _))
        clear hx1 hy1
        generalize grow (redrawn wr dq) osq = w5 at *
        go_wp2_with (at_builtin; refine wpList_append_own _ rfl _ _ 48 rfl w2.heap.size 3 i0 (.int .i64 0) 1 8 Try.underlying48 hi hz0 hz1 hz2 rfl (by decide) _ _ _ rfl (World.ownsRow.alloc HOq.out _) ⟨_, 0, none⟩ 1 1 [.int .i64 0] rfl rfl (cell_one_new _ _ _) (by intro u hu; simp at hu; subst hu; rfl) (by unfold maxLen; omega) (by omega) (by have := HBq.out.size; simp; omega) ?_; intro v' w6 hown' hgrow _; have HR := Lib.hid (step_own HOq.out HBq.out (by rw [HZ.out]; rfl) hown' hgrow); clear hown' hgrow)
        go_roundw
        case rel => exact ⟨k + 1, by omega, by go_num, HR.out.1, HR.out.2⟩
        case measure => simp [intOf]; omega
      · have e1 : ((bt x k : Nat) : Int) = 1 := by rw [ha]; rfl
        have e2 : ((bt y k : Nat) : Int) = 1 := by rw [hbb]; rfl
        have HZ := Lib.hid (show bt Z k = 1 by rw [hs]; rfl)
        simp only [e1] at hx1
        simp only [e2] at hy1
        clear hs ha hbb e1 e2
        go_wp2
        refine wp_region_quiet_below (by kernel_rfl) (by kernel_rfl) ?_
        repeat (first | go_big_quiet_step (fail) | quiet_step (fail))
        refine wpQuiet_nil ?_
        intro _ hw'
        obtain ⟨⟨dq, osq⟩, hw''⟩ := hw'
        subst hw''
        have HBq := Lib.hid (thenBel HB.out (below_regrown _ dq osq))
        have HOq := Lib.hid (ownsRow_kept HO.out (below_regrown wr dq osq) (Nat.le_refl _))
        clear hx1 hy1
        generalize grow (redrawn wr dq) osq = w5 at *
        go_wp2_with (at_builtin; refine wpList_append_own _ rfl _ _ 48 rfl w2.heap.size 3 i0 (.int .i64 0) 1 8 Try.underlying48 hi hz0 hz1 hz2 rfl (by decide) _ _ _ rfl (World.ownsRow.alloc HOq.out _) ⟨_, 0, none⟩ 1 1 [.int .i64 1] rfl rfl (cell_one_new _ _ _) (by intro u hu; simp at hu; subst hu; rfl) (by unfold maxLen; omega) (by omega) (by have := HBq.out.size; simp; omega) ?_; intro v' w6 hown' hgrow _; have HR := Lib.hid (step_own HOq.out HBq.out (by rw [HZ.out]; rfl) hown' hgrow); clear hown' hgrow)
        go_roundw
        case rel => exact ⟨k + 1, by omega, by go_num, HR.out.1, HR.out.2⟩
        case measure => simp [intOf]; omega
    · obtain rfl : k = n := by omega
      have HB := Lib.hid hb
      obtain ⟨g3, cap3, hv⟩ := ownsRow_head hown h0
      subst hv
      have HO := Lib.hid (BitsAt.cells hown)
      clear hb hown
      go_wp2_with (go_at_call 29; (with_reducible refine (HN.out _ _ _ HO.out).mono ?_); rintro e w' ⟨rfl, rfl⟩)
      go_ret2
      exact ⟨rfl, thenBel (thenBel HB1.out HB2.out) HB.out⟩

set_option maxHeartbeats 1000000 in
theorem refBinary_9 (n x y : Nat) (w : World) (h0 : 1 ≤ n) (h1 : n ≤ 64) (hx : x < 2 ^ n) (hy : y < 2 ^ n) :
    Calls Try.prog 8 #[.int .u8 9, .int .i64 n, .int .u64 x, .int .u64 y] w fun e w' => e = .returned (.tuple #[.int .u64 (opv 9 n x y : Nat), .int .i64 0]) ∧ Below w.heap.size w w' := by
  have px := pow_le n (by omega)
  have V1 := fun W => Lib.hid (wide_yes n W (by omega) (by omega))
  have O1 := fun W => refOk_yes n x W h0 h1 (by omega)
  rw [(okB_iff _ _).2 hx] at O1
  have O1 := fun W => Lib.hid (O1 W)
  have O2 := fun W => refOk_yes n y W h0 h1 (by omega)
  rw [(okB_iff _ _).2 hy] at O2
  have O2 := fun W => Lib.hid (O2 W)
  have B1 := fun W => Lib.hid (bits_any n x W h0 h1 (by omega))
  have B2 := fun W => Lib.hid (bits_any n y W h0 h1 (by omega))
  have HS1 := Lib.hid (fun (W : World) (g : Nat) (h : Cells W g n x) => top_cell W g n x h0 h)
  have HS2 := Lib.hid (fun (W : World) (g : Nat) (h : Cells W g n y) => top_cell W g n y h0 h)
  have HZ0 := Lib.hid (fun k => bt_or x y k)
  have hval := or_val n x y hx hy
  have HN := Lib.hid (fun (g cap : Nat) (W : World) (hw : Cells W g n (x ||| y)) => number_any n (x ||| y) g 0 cap W h1 (fun j hj => by rw [Nat.zero_add]; exact hw j hj))
  rw [show md (x ||| y) n = opv 9 n x y by rw [← hval, opv_md]] at HN
  obtain ⟨i0, hi, hz0, hz1, hz2⟩ := info_parts int_info
  generalize x ||| y = Z at *
  clear hval
  generalize opv 9 n x y = X at *
  generalize bt x (n - 1) = s at *
  generalize bt y (n - 1) = t at *
  clear hx hy px
  go_enter Try.func8, Try.ntmps8
  go_wp2_with (first
    | (go_at_call 24; (with_reducible refine ((V1 _).out).mono ?_); rintro e w' ⟨rfl, rfl⟩)
    | (go_at_call 14; (with_reducible refine ((O1 _).out).mono ?_); rintro e w' ⟨rfl, rfl⟩)
    | (go_at_call 14; (with_reducible refine ((O2 _).out).mono ?_); rintro e w' ⟨rfl, rfl⟩)
    | (go_at_call 26; (with_reducible refine ((B1 _).out).mono ?_); rintro e w1 ⟨g1, cap1, rfl, hat, hb1⟩; have HA1 := Lib.hid hat; have HB1 := Lib.hid hb1; clear hat hb1)
    | (go_at_call 26; (with_reducible refine ((B2 _).out).mono ?_); rintro e w2 ⟨g2, cap2, rfl, hat, hb2⟩; have HA2 := Lib.hid hat; have HB2 := Lib.hid hb2; have HC1 := Lib.hid (HA1.out.cells.kept hb2); have HC2 := Lib.hid hat.cells; have hs1 := HS1.out _ _ HC1.out; have hs2 := HS2.out _ _ HC2.out; clear hat hb2))
  clear hs1 hs2
  go_loopw [13, 14] (fun v i wr => ∃ k : Nat, k ≤ n ∧ i = .int .i64 k ∧ wr.ownsRow w2.heap.size 3 1 v k (bitCells Z k) ∧ Below w2.heap.size w2 wr)
    (fun _ i _ => n - (intOf i).toNat)
  case atStart => exact ⟨0, Nat.zero_le _, rfl, World.ownsRow_nil _ _ _ _, Below.refl _ _⟩
  case round =>
    obtain ⟨k, hk, rfl, hown, hb⟩ := hrel
    by_cases hlt : k < n
    · have hx1 := fun d os => cell_regrown (cell_later hb (HC1.out k hlt)) d os
      have hy1 := fun d os => cell_regrown (cell_later hb (HC2.out k hlt)) d os
      have hs := HZ0.out k
      have tk : (k : Int) < (n : Int) := by omega
      have HB := Lib.hid hb
      have HO := Lib.hid hown
      clear hb hown
      rcases bt_cases x k with ha | ha <;> rcases bt_cases y k with hbb | hbb <;> rw [ha, hbb] at hs
      · have e1 : ((bt x k : Nat) : Int) = 0 := by rw [ha]; rfl
        have e2 : ((bt y k : Nat) : Int) = 0 := by rw [hbb]; rfl
        have HZ := Lib.hid (show bt Z k = 0 by rw [hs]; rfl)
        simp only [e1] at hx1
        simp only [e2] at hy1
        clear hs ha hbb e1 e2
        go_wp2
        refine wp_region_quiet_below (by kernel_rfl) (by kernel_rfl) ?_
        repeat (first | go_big_quiet_step (fail) | quiet_step (fail))
        refine wpQuiet_nil ?_
        intro _ hw'
        obtain ⟨⟨dq, osq⟩, hw''⟩ := hw'
        subst hw''
        have HBq := Lib.hid (thenBel HB.out (below_regrown _ dq osq))
        have HOq := Lib.hid (ownsRow_kept HO.out (below_regrown wr dq osq) (Nat.le_refl _))
        clear hx1 hy1
        generalize grow (redrawn wr dq) osq = w5 at *
        go_wp2_with (at_builtin; refine wpList_append_own _ rfl _ _ 48 rfl w2.heap.size 3 i0 (.int .i64 0) 1 8 Try.underlying48 hi hz0 hz1 hz2 rfl (by decide) _ _ _ rfl (World.ownsRow.alloc HOq.out _) ⟨_, 0, none⟩ 1 1 [.int .i64 0] rfl rfl (cell_one_new _ _ _) (by intro u hu; simp at hu; subst hu; rfl) (by unfold maxLen; omega) (by omega) (by have := HBq.out.size; simp; omega) ?_; intro v' w6 hown' hgrow _; have HR := Lib.hid (step_own HOq.out HBq.out (by rw [HZ.out]; rfl) hown' hgrow); clear hown' hgrow)
        go_roundw
        case rel => exact ⟨k + 1, by omega, by go_num, HR.out.1, HR.out.2⟩
        case measure => simp [intOf]; omega
      · have e1 : ((bt x k : Nat) : Int) = 0 := by rw [ha]; rfl
        have e2 : ((bt y k : Nat) : Int) = 1 := by rw [hbb]; rfl
        have HZ := Lib.hid (show bt Z k = 1 by rw [hs]; rfl)
        simp only [e1] at hx1
        simp only [e2] at hy1
        clear hs ha hbb e1 e2
        go_wp2
        refine wp_region_quiet_below (by kernel_rfl) (by kernel_rfl) ?_
        repeat (first | go_big_quiet_step (fail) | quiet_step (fail))
        refine wpQuiet_nil ?_
        intro _ hw'
        obtain ⟨⟨dq, osq⟩, hw''⟩ := hw'
        subst hw''
        have HBq := Lib.hid (thenBel HB.out (below_regrown _ dq osq))
        have HOq := Lib.hid (ownsRow_kept HO.out (below_regrown wr dq osq) (Nat.le_refl _))
        clear hx1 hy1
        generalize grow (redrawn wr dq) osq = w5 at *
        go_wp2_with (at_builtin; refine wpList_append_own _ rfl _ _ 48 rfl w2.heap.size 3 i0 (.int .i64 0) 1 8 Try.underlying48 hi hz0 hz1 hz2 rfl (by decide) _ _ _ rfl (World.ownsRow.alloc HOq.out _) ⟨_, 0, none⟩ 1 1 [.int .i64 1] rfl rfl (cell_one_new _ _ _) (by intro u hu; simp at hu; subst hu; rfl) (by unfold maxLen; omega) (by omega) (by have := HBq.out.size; simp; omega) ?_; intro v' w6 hown' hgrow _; have HR := Lib.hid (step_own HOq.out HBq.out (by rw [HZ.out]; rfl) hown' hgrow); clear hown' hgrow)
        go_roundw
        case rel => exact ⟨k + 1, by omega, by go_num, HR.out.1, HR.out.2⟩
        case measure => simp [intOf]; omega
      · have e1 : ((bt x k : Nat) : Int) = 1 := by rw [ha]; rfl
        have e2 : ((bt y k : Nat) : Int) = 0 := by rw [hbb]; rfl
        have HZ := Lib.hid (show bt Z k = 1 by rw [hs]; rfl)
        simp only [e1] at hx1
        simp only [e2] at hy1
        clear hs ha hbb e1 e2
        go_wp2
        refine wp_region_quiet_below (by kernel_rfl) (by kernel_rfl) ?_
        repeat (first | go_big_quiet_step (fail) | quiet_step (fail))
        refine wpQuiet_nil ?_
        intro _ hw'
        obtain ⟨⟨dq, osq⟩, hw''⟩ := hw'
        subst hw''
        have HBq := Lib.hid (thenBel HB.out (below_regrown _ dq osq))
        have HOq := Lib.hid (ownsRow_kept HO.out (below_regrown wr dq osq) (Nat.le_refl _))
        clear hx1 hy1
        generalize grow (redrawn wr dq) osq = w5 at *
        go_wp2_with (at_builtin; refine wpList_append_own _ rfl _ _ 48 rfl w2.heap.size 3 i0 (.int .i64 0) 1 8 Try.underlying48 hi hz0 hz1 hz2 rfl (by decide) _ _ _ rfl (World.ownsRow.alloc HOq.out _) ⟨_, 0, none⟩ 1 1 [.int .i64 1] rfl rfl (cell_one_new _ _ _) (by intro u hu; simp at hu; subst hu; rfl) (by unfold maxLen; omega) (by omega) (by have := HBq.out.size; simp; omega) ?_; intro v' w6 hown' hgrow _; have HR := Lib.hid (step_own HOq.out HBq.out (by rw [HZ.out]; rfl) hown' hgrow); clear hown' hgrow)
        go_roundw
        case rel => exact ⟨k + 1, by omega, by go_num, HR.out.1, HR.out.2⟩
        case measure => simp [intOf]; omega
      · have e1 : ((bt x k : Nat) : Int) = 1 := by rw [ha]; rfl
        have e2 : ((bt y k : Nat) : Int) = 1 := by rw [hbb]; rfl
        have HZ := Lib.hid (show bt Z k = 1 by rw [hs]; rfl)
        simp only [e1] at hx1
        simp only [e2] at hy1
        clear hs ha hbb e1 e2
        go_wp2
        refine wp_region_quiet_below (by kernel_rfl) (by kernel_rfl) ?_
        repeat (first | go_big_quiet_step (fail) | quiet_step (fail))
        refine wpQuiet_nil ?_
        intro _ hw'
        obtain ⟨⟨dq, osq⟩, hw''⟩ := hw'
        subst hw''
        have HBq := Lib.hid (thenBel HB.out (below_regrown _ dq osq))
        have HOq := Lib.hid (ownsRow_kept HO.out (below_regrown wr dq osq) (Nat.le_refl _))
        clear hx1 hy1
        generalize grow (redrawn wr dq) osq = w5 at *
        go_wp2_with (at_builtin; refine wpList_append_own _ rfl _ _ 48 rfl w2.heap.size 3 i0 (.int .i64 0) 1 8 Try.underlying48 hi hz0 hz1 hz2 rfl (by decide) _ _ _ rfl (World.ownsRow.alloc HOq.out _) ⟨_, 0, none⟩ 1 1 [.int .i64 1] rfl rfl (cell_one_new _ _ _) (by intro u hu; simp at hu; subst hu; rfl) (by unfold maxLen; omega) (by omega) (by have := HBq.out.size; simp; omega) ?_; intro v' w6 hown' hgrow _; have HR := Lib.hid (step_own HOq.out HBq.out (by rw [HZ.out]; rfl) hown' hgrow); clear hown' hgrow)
        go_roundw
        case rel => exact ⟨k + 1, by omega, by go_num, HR.out.1, HR.out.2⟩
        case measure => simp [intOf]; omega
    · obtain rfl : k = n := by omega
      have HB := Lib.hid hb
      obtain ⟨g3, cap3, hv⟩ := ownsRow_head hown h0
      subst hv
      have HO := Lib.hid (BitsAt.cells hown)
      clear hb hown
      go_wp2_with (go_at_call 29; (with_reducible refine (HN.out _ _ _ HO.out).mono ?_); rintro e w' ⟨rfl, rfl⟩)
      go_ret2
      exact ⟨rfl, thenBel (thenBel HB1.out HB2.out) HB.out⟩

set_option maxHeartbeats 1000000 in
theorem refBinary_10 (n x y : Nat) (w : World) (h0 : 1 ≤ n) (h1 : n ≤ 64) (hx : x < 2 ^ n) (hy : y < 2 ^ n) :
    Calls Try.prog 8 #[.int .u8 10, .int .i64 n, .int .u64 x, .int .u64 y] w fun e w' => e = .returned (.tuple #[.int .u64 (opv 10 n x y : Nat), .int .i64 0]) ∧ Below w.heap.size w w' := by
  have px := pow_le n (by omega)
  have V1 := fun W => Lib.hid (wide_yes n W (by omega) (by omega))
  have O1 := fun W => refOk_yes n x W h0 h1 (by omega)
  rw [(okB_iff _ _).2 hx] at O1
  have O1 := fun W => Lib.hid (O1 W)
  have O2 := fun W => refOk_yes n y W h0 h1 (by omega)
  rw [(okB_iff _ _).2 hy] at O2
  have O2 := fun W => Lib.hid (O2 W)
  have B1 := fun W => Lib.hid (bits_any n x W h0 h1 (by omega))
  have B2 := fun W => Lib.hid (bits_any n y W h0 h1 (by omega))
  have HS1 := Lib.hid (fun (W : World) (g : Nat) (h : Cells W g n x) => top_cell W g n x h0 h)
  have HS2 := Lib.hid (fun (W : World) (g : Nat) (h : Cells W g n y) => top_cell W g n y h0 h)
  have HZ0 := Lib.hid (fun k => bt_xor x y k)
  have hval := xor_val n x y hx hy
  have HN := Lib.hid (fun (g cap : Nat) (W : World) (hw : Cells W g n (x ^^^ y)) => number_any n (x ^^^ y) g 0 cap W h1 (fun j hj => by rw [Nat.zero_add]; exact hw j hj))
  rw [show md (x ^^^ y) n = opv 10 n x y by rw [← hval, opv_md]] at HN
  obtain ⟨i0, hi, hz0, hz1, hz2⟩ := info_parts int_info
  generalize x ^^^ y = Z at *
  clear hval
  generalize opv 10 n x y = X at *
  generalize bt x (n - 1) = s at *
  generalize bt y (n - 1) = t at *
  clear hx hy px
  go_enter Try.func8, Try.ntmps8
  go_wp2_with (first
    | (go_at_call 24; (with_reducible refine ((V1 _).out).mono ?_); rintro e w' ⟨rfl, rfl⟩)
    | (go_at_call 14; (with_reducible refine ((O1 _).out).mono ?_); rintro e w' ⟨rfl, rfl⟩)
    | (go_at_call 14; (with_reducible refine ((O2 _).out).mono ?_); rintro e w' ⟨rfl, rfl⟩)
    | (go_at_call 26; (with_reducible refine ((B1 _).out).mono ?_); rintro e w1 ⟨g1, cap1, rfl, hat, hb1⟩; have HA1 := Lib.hid hat; have HB1 := Lib.hid hb1; clear hat hb1)
    | (go_at_call 26; (with_reducible refine ((B2 _).out).mono ?_); rintro e w2 ⟨g2, cap2, rfl, hat, hb2⟩; have HA2 := Lib.hid hat; have HB2 := Lib.hid hb2; have HC1 := Lib.hid (HA1.out.cells.kept hb2); have HC2 := Lib.hid hat.cells; have hs1 := HS1.out _ _ HC1.out; have hs2 := HS2.out _ _ HC2.out; clear hat hb2))
  clear hs1 hs2
  go_loopw [13, 14] (fun v i wr => ∃ k : Nat, k ≤ n ∧ i = .int .i64 k ∧ wr.ownsRow w2.heap.size 3 1 v k (bitCells Z k) ∧ Below w2.heap.size w2 wr)
    (fun _ i _ => n - (intOf i).toNat)
  case atStart => exact ⟨0, Nat.zero_le _, rfl, World.ownsRow_nil _ _ _ _, Below.refl _ _⟩
  case round =>
    obtain ⟨k, hk, rfl, hown, hb⟩ := hrel
    by_cases hlt : k < n
    · have hx1 := fun d os => cell_regrown (cell_later hb (HC1.out k hlt)) d os
      have hy1 := fun d os => cell_regrown (cell_later hb (HC2.out k hlt)) d os
      have hs := HZ0.out k
      have tk : (k : Int) < (n : Int) := by omega
      have HB := Lib.hid hb
      have HO := Lib.hid hown
      clear hb hown
      rcases bt_cases x k with ha | ha <;> rcases bt_cases y k with hbb | hbb <;> rw [ha, hbb] at hs
      · have e1 : ((bt x k : Nat) : Int) = 0 := by rw [ha]; rfl
        have e2 : ((bt y k : Nat) : Int) = 0 := by rw [hbb]; rfl
        have HZ := Lib.hid (show bt Z k = 0 by rw [hs]; rfl)
        simp only [e1] at hx1
        simp only [e2] at hy1
        clear hs ha hbb e1 e2
        go_wp2
        refine wp_region_quiet_below (by kernel_rfl) (by kernel_rfl) ?_
        repeat (first | go_big_quiet_step (fail) | quiet_step (fail))
        refine wpQuiet_nil ?_
        intro _ hw'
        obtain ⟨⟨dq, osq⟩, hw''⟩ := hw'
        subst hw''
        have HBq := Lib.hid (thenBel HB.out (below_regrown _ dq osq))
        have HOq := Lib.hid (ownsRow_kept HO.out (below_regrown wr dq osq) (Nat.le_refl _))
        clear hx1 hy1
        generalize grow (redrawn wr dq) osq = w5 at *
        go_wp2_with (at_builtin; refine wpList_append_own _ rfl _ _ 48 rfl w2.heap.size 3 i0 (.int .i64 0) 1 8 Try.underlying48 hi hz0 hz1 hz2 rfl (by decide) _ _ _ rfl (World.ownsRow.alloc HOq.out _) ⟨_, 0, none⟩ 1 1 [.int .i64 0] rfl rfl (cell_one_new _ _ _) (by intro u hu; simp at hu; subst hu; rfl) (by unfold maxLen; omega) (by omega) (by have := HBq.out.size; simp; omega) ?_; intro v' w6 hown' hgrow _; have HR := Lib.hid (step_own HOq.out HBq.out (by rw [HZ.out]; rfl) hown' hgrow); clear hown' hgrow)
        go_roundw
        case rel => exact ⟨k + 1, by omega, by go_num, HR.out.1, HR.out.2⟩
        case measure => simp [intOf]; omega
      · have e1 : ((bt x k : Nat) : Int) = 0 := by rw [ha]; rfl
        have e2 : ((bt y k : Nat) : Int) = 1 := by rw [hbb]; rfl
        have HZ := Lib.hid (show bt Z k = 1 by rw [hs]; rfl)
        simp only [e1] at hx1
        simp only [e2] at hy1
        clear hs ha hbb e1 e2
        go_wp2
        refine wp_region_quiet_below (by kernel_rfl) (by kernel_rfl) ?_
        repeat (first | go_big_quiet_step (fail) | quiet_step (fail))
        refine wpQuiet_nil ?_
        intro _ hw'
        obtain ⟨⟨dq, osq⟩, hw''⟩ := hw'
        subst hw''
        have HBq := Lib.hid (thenBel HB.out (below_regrown _ dq osq))
        have HOq := Lib.hid (ownsRow_kept HO.out (below_regrown wr dq osq) (Nat.le_refl _))
        clear hx1 hy1
        generalize grow (redrawn wr dq) osq = w5 at *
        go_wp2_with (at_builtin; refine wpList_append_own _ rfl _ _ 48 rfl w2.heap.size 3 i0 (.int .i64 0) 1 8 Try.underlying48 hi hz0 hz1 hz2 rfl (by decide) _ _ _ rfl (World.ownsRow.alloc HOq.out _) ⟨_, 0, none⟩ 1 1 [.int .i64 1] rfl rfl (cell_one_new _ _ _) (by intro u hu; simp at hu; subst hu; rfl) (by unfold maxLen; omega) (by omega) (by have := HBq.out.size; simp; omega) ?_; intro v' w6 hown' hgrow _; have HR := Lib.hid (step_own HOq.out HBq.out (by rw [HZ.out]; rfl) hown' hgrow); clear hown' hgrow)
        go_roundw
        case rel => exact ⟨k + 1, by omega, by go_num, HR.out.1, HR.out.2⟩
        case measure => simp [intOf]; omega
      · have e1 : ((bt x k : Nat) : Int) = 1 := by rw [ha]; rfl
        have e2 : ((bt y k : Nat) : Int) = 0 := by rw [hbb]; rfl
        have HZ := Lib.hid (show bt Z k = 1 by rw [hs]; rfl)
        simp only [e1] at hx1
        simp only [e2] at hy1
        clear hs ha hbb e1 e2
        go_wp2
        refine wp_region_quiet_below (by kernel_rfl) (by kernel_rfl) ?_
        repeat (first | go_big_quiet_step (fail) | quiet_step (fail))
        refine wpQuiet_nil ?_
        intro _ hw'
        obtain ⟨⟨dq, osq⟩, hw''⟩ := hw'
        subst hw''
        have HBq := Lib.hid (thenBel HB.out (below_regrown _ dq osq))
        have HOq := Lib.hid (ownsRow_kept HO.out (below_regrown wr dq osq) (Nat.le_refl _))
        clear hx1 hy1
        generalize grow (redrawn wr dq) osq = w5 at *
        go_wp2_with (at_builtin; refine wpList_append_own _ rfl _ _ 48 rfl w2.heap.size 3 i0 (.int .i64 0) 1 8 Try.underlying48 hi hz0 hz1 hz2 rfl (by decide) _ _ _ rfl (World.ownsRow.alloc HOq.out _) ⟨_, 0, none⟩ 1 1 [.int .i64 1] rfl rfl (cell_one_new _ _ _) (by intro u hu; simp at hu; subst hu; rfl) (by unfold maxLen; omega) (by omega) (by have := HBq.out.size; simp; omega) ?_; intro v' w6 hown' hgrow _; have HR := Lib.hid (step_own HOq.out HBq.out (by rw [HZ.out]; rfl) hown' hgrow); clear hown' hgrow)
        go_roundw
        case rel => exact ⟨k + 1, by omega, by go_num, HR.out.1, HR.out.2⟩
        case measure => simp [intOf]; omega
      · have e1 : ((bt x k : Nat) : Int) = 1 := by rw [ha]; rfl
        have e2 : ((bt y k : Nat) : Int) = 1 := by rw [hbb]; rfl
        have HZ := Lib.hid (show bt Z k = 0 by rw [hs]; rfl)
        simp only [e1] at hx1
        simp only [e2] at hy1
        clear hs ha hbb e1 e2
        go_wp2
        refine wp_region_quiet_below (by kernel_rfl) (by kernel_rfl) ?_
        repeat (first | go_big_quiet_step (fail) | quiet_step (fail))
        refine wpQuiet_nil ?_
        intro _ hw'
        obtain ⟨⟨dq, osq⟩, hw''⟩ := hw'
        subst hw''
        have HBq := Lib.hid (thenBel HB.out (below_regrown _ dq osq))
        have HOq := Lib.hid (ownsRow_kept HO.out (below_regrown wr dq osq) (Nat.le_refl _))
        clear hx1 hy1
        generalize grow (redrawn wr dq) osq = w5 at *
        go_wp2_with (at_builtin; refine wpList_append_own _ rfl _ _ 48 rfl w2.heap.size 3 i0 (.int .i64 0) 1 8 Try.underlying48 hi hz0 hz1 hz2 rfl (by decide) _ _ _ rfl (World.ownsRow.alloc HOq.out _) ⟨_, 0, none⟩ 1 1 [.int .i64 0] rfl rfl (cell_one_new _ _ _) (by intro u hu; simp at hu; subst hu; rfl) (by unfold maxLen; omega) (by omega) (by have := HBq.out.size; simp; omega) ?_; intro v' w6 hown' hgrow _; have HR := Lib.hid (step_own HOq.out HBq.out (by rw [HZ.out]; rfl) hown' hgrow); clear hown' hgrow)
        go_roundw
        case rel => exact ⟨k + 1, by omega, by go_num, HR.out.1, HR.out.2⟩
        case measure => simp [intOf]; omega
    · obtain rfl : k = n := by omega
      have HB := Lib.hid hb
      obtain ⟨g3, cap3, hv⟩ := ownsRow_head hown h0
      subst hv
      have HO := Lib.hid (BitsAt.cells hown)
      clear hb hown
      go_wp2_with (go_at_call 29; (with_reducible refine (HN.out _ _ _ HO.out).mono ?_); rintro e w' ⟨rfl, rfl⟩)
      go_ret2
      exact ⟨rfl, thenBel (thenBel HB1.out HB2.out) HB.out⟩
end Go.Proofs.Ytdllophjfiebiaa
