/- The walk of BitsShifts. -/
import Derived.Test.YtdllophjfiebiaaDoorBitsShiftMath
namespace Go.Proofs.YtdllophjfiebiaaDoor.bitsShifts
open Go.RowKit Go.Sort
set_option linter.unusedVariables false

/-- The width or more: nothing is left but sign bits. -/
theorem over_width (wd x y n a b : Nat) (w : World) (hx : x < 18446744073709551616) (hy : y < 18446744073709551616) (hn : n = wd % 64 + 1) (ha : a = x % 2 ^ n) (hb : b = y % 2 ^ n) (hnb : n ≤ b) :
    Calls Tryd.prog 7 #[.int .u8 wd, .int .u64 x, .int .u64 y] w fun e w' => e = .returned (.bool true) ∧ Below w.heap.size w w' := by
  have C1 := fun W => Lib.hid (cut_at wd x hx n a hn ha W)
  have C2 := fun W => Lib.hid (cut_at wd y hy n b hn hb W)
  have h0 : 1 ≤ n := by omega
  have h1 : n ≤ 64 := by omega
  have ha' : a < 2 ^ n := by rw [ha]; exact Nat.mod_lt _ (pow_pos' n)
  have hb' : b < 2 ^ n := by rw [hb]; exact Nat.mod_lt _ (pow_pos' n)
  have hz' := pow_pos' n
  have P1 := fun W => Lib.hid (op_as2 18 n a 0 _ 18 0 W rfl rfl h0 h1 (by decide) (by decide) ha' hz' (slt_zero n a h0))
  have P2 := fun W => Lib.hid (op_as2 11 n a b 0 11 b W rfl rfl h0 h1 (by decide) (by decide) ha' hb' (shl_over n a b h1 hnb))
  have P3 := fun W => Lib.hid (op_as2 12 n a b 0 12 b W rfl rfl h0 h1 (by decide) (by decide) ha' hb' (shr_over n a b h1 ha' hnb))
  have P4 := fun W => op_as2 13 n a b _ 13 b W rfl rfl h0 h1 (by decide) (by decide) ha' hb' (sar_over n a b h0 h1 ha' hnb)
  have M := fun W => Lib.hid (mask_yes n W h0 h1)
  by_cases hneg : sg n a < 0
  · rw [if_pos hneg] at P4
    have P4 := fun W => Lib.hid (P4 W)
    rw [decide_eq_true hneg, show bitN true = 1 from rfl] at P1
    generalize mk n = m at *
    clear ha hb hn hx hy ha' hb' hz' hneg
    go_enter Tryd.func7, Tryd.ntmps7
    go_wp2_with (first
      | (go_at_call 25; (with_reducible refine (C1 _).out.mono ?_); rintro e w' ⟨rfl, rfl⟩)
      | (go_at_call 25; (with_reducible refine (C2 _).out.mono ?_); rintro e w' ⟨rfl, rfl⟩)
      | (go_at_call 18; (with_reducible refine (alive_any _).mono ?_); rintro e w1 ⟨rfl, hb1⟩)
      | (go_at_call 19; (with_reducible refine (M _).out.mono ?_); rintro e w' ⟨rfl, rfl⟩)
      | (go_at_call 27; (with_reducible refine (P1 _).out.mono ?_); rintro e w2 ⟨rfl, hb2⟩)
      | (go_at_call 27; (with_reducible refine (P2 _).out.mono ?_); rintro e w3 ⟨rfl, hb3⟩)
      | (go_at_call 27; (with_reducible refine (P3 _).out.mono ?_); rintro e w4 ⟨rfl, hb4⟩)
      | (go_at_call 27; (with_reducible refine (P4 _).out.mono ?_); rintro e w5 ⟨rfl, hb5⟩))
    go_ret
    exact ⟨rfl, thenB (thenB (thenB (thenB hb1 hb2) hb3) hb4) hb5⟩
  · rw [if_neg hneg] at P4
    have P4 := fun W => Lib.hid (P4 W)
    rw [decide_eq_false hneg, show bitN false = 0 from rfl] at P1
    clear ha hb hn hx hy ha' hb' hz' hneg
    go_enter Tryd.func7, Tryd.ntmps7
    go_wp2_with (first
      | (go_at_call 25; (with_reducible refine (C1 _).out.mono ?_); rintro e w' ⟨rfl, rfl⟩)
      | (go_at_call 25; (with_reducible refine (C2 _).out.mono ?_); rintro e w' ⟨rfl, rfl⟩)
      | (go_at_call 18; (with_reducible refine (alive_any _).mono ?_); rintro e w1 ⟨rfl, hb1⟩)
      | (go_at_call 27; (with_reducible refine (P1 _).out.mono ?_); rintro e w2 ⟨rfl, hb2⟩)
      | (go_at_call 27; (with_reducible refine (P2 _).out.mono ?_); rintro e w3 ⟨rfl, hb3⟩)
      | (go_at_call 27; (with_reducible refine (P3 _).out.mono ?_); rintro e w4 ⟨rfl, hb4⟩)
      | (go_at_call 27; (with_reducible refine (P4 _).out.mono ?_); rintro e w5 ⟨rfl, hb5⟩))
    go_ret
    exact ⟨rfl, thenB (thenB (thenB (thenB hb1 hb2) hb3) hb4) hb5⟩

set_option maxHeartbeats 4000000 in
/-- Less than the width: shifting by one place more is shifting once more by one place. -/
theorem under_width (wd x y n a b c11 c12 c13 d11 d12 d13 s1 m : Nat) (w : World) (hx : x < 18446744073709551616) (hy : y < 18446744073709551616) (hn : n = wd % 64 + 1) (ha : a = x % 2 ^ n) (hb : b = y % 2 ^ n) (hnb : b < n)
    (e1 : c11 = opv 11 n a b) (e2 : c12 = opv 12 n a b) (e3 : c13 = opv 13 n a b) (f1 : d11 = opv 11 n a (b + 1)) (f2 : d12 = opv 12 n a (b + 1)) (f3 : d13 = opv 13 n a (b + 1)) (g1 : s1 = opv 11 n a 1) (hm : m = mk n) :
    Calls Tryd.prog 7 #[.int .u8 wd, .int .u64 x, .int .u64 y] w fun e w' => e = .returned (.bool true) ∧ Below w.heap.size w w' := by
  have C1 := fun W => Lib.hid (cut_at wd x hx n a hn ha W)
  have C2 := fun W => Lib.hid (cut_at wd y hy n b hn hb W)
  have h0 : 1 ≤ n := by omega
  have h1 : n ≤ 64 := by omega
  have ha' : a < 2 ^ n := by rw [ha]; exact Nat.mod_lt _ (pow_pos' n)
  have hb' : b < 2 ^ n := by rw [hb]; exact Nat.mod_lt _ (pow_pos' n)
  have hz' := pow_pos' n
  have ho := one_lt n h0
  have hbm := lt_mk n b hnb
  have P1 := fun W => Lib.hid (op_as2 18 n a 0 _ 18 0 W rfl rfl h0 h1 (by decide) (by decide) ha' hz' (slt_zero n a h0))
  have P2 := fun W => Lib.hid (op_as2 11 n a 0 a 11 0 W rfl rfl h0 h1 (by decide) (by decide) ha' hz' (shl_zero n a h1 ha'))
  have P3 := fun W => Lib.hid (op_as2 12 n a 0 a 12 0 W rfl rfl h0 h1 (by decide) (by decide) ha' hz' (shr_zero n a ha'))
  have P4 := fun W => Lib.hid (op_as2 13 n a 0 a 13 0 W rfl rfl h0 h1 (by decide) (by decide) ha' hz' (sar_zero n a h0 h1 ha'))
  have P5 := fun W => Lib.hid (op_as2 11 n a 1 s1 11 1 W rfl rfl h0 h1 (by decide) (by decide) ha' ho g1.symm)
  have P6 := fun W => Lib.hid (op_as2 5 n a a s1 5 a W rfl rfl h0 h1 (by decide) (by decide) ha' ha' (by rw [g1]; exact shl_double n a h1))
  have A1 := fun W => Lib.hid (op_as2 11 n a b c11 11 b W rfl rfl h0 h1 (by decide) (by decide) ha' hb' e1.symm)
  have A2 := fun W => Lib.hid (op_as2 12 n a b c12 12 b W rfl rfl h0 h1 (by decide) (by decide) ha' hb' e2.symm)
  have A3 := fun W => Lib.hid (op_as2 13 n a b c13 13 b W rfl rfl h0 h1 (by decide) (by decide) ha' hb' e3.symm)
  have B1 := fun W => Lib.hid (op_as2 11 n c11 1 d11 11 1 W rfl rfl h0 h1 (by decide) (by decide) (by rw [e1]; exact opv_lt _ _ _ _) ho (by rw [e1, f1]; exact shl_step n a b h1 (by omega)))
  have B2 := fun W => Lib.hid (op_as2 12 n c12 1 d12 12 1 W rfl rfl h0 h1 (by decide) (by decide) (by rw [e2]; exact opv_lt _ _ _ _) ho (by rw [e2, f2]; exact shr_step n a b ha' (by omega)))
  have B3 := fun W => Lib.hid (op_as2 13 n c13 1 d13 13 1 W rfl rfl h0 h1 (by decide) (by decide) (by rw [e3]; exact opv_lt _ _ _ _) ho (by rw [e3, f3]; exact sar_step n a b h0 h1 ha' (by omega)))
  have D1 := fun W => Lib.hid (op_as2 11 n a (b + 1) d11 11 ((b : Int) + 1) W rfl (by omega) h0 h1 (by decide) (by decide) ha' hbm.2 f1.symm)
  have D2 := fun W => Lib.hid (op_as2 12 n a (b + 1) d12 12 ((b : Int) + 1) W rfl (by omega) h0 h1 (by decide) (by decide) ha' hbm.2 f2.symm)
  have D3 := fun W => Lib.hid (op_as2 13 n a (b + 1) d13 13 ((b : Int) + 1) W rfl (by omega) h0 h1 (by decide) (by decide) ha' hbm.2 f3.symm)
  have M := fun W => Lib.hid (mask_yes n W h0 h1)
  have hca : c12 ≤ a := by rw [e2, shr_val n a b ha']; exact Nat.div_le_self _ _
  have tm : ((b : Int) == (m : Int)) = false := by have := hbm.1; simp; omega
  rw [← hm] at M
  clear ha hb hn hx hy ha' hb' hz' ho hbm e1 e2 e3 f1 f2 f3 g1 hm
  have HU := Lib.hid (And.intro h0 h1)
  cases hneg : decide (sg n a < 0)
  all_goals
    rw [hneg] at P1
    clear hneg
  · rw [show bitN false = 0 from rfl] at P1
    by_cases h2 : 1 < n
    · have h3 : ¬ n ≤ 1 := by omega
      go_enter Tryd.func7, Tryd.ntmps7
      go_wp2_with (first
        | (go_at_call 25; (with_reducible refine (C1 _).out.mono ?_); rintro e w' ⟨rfl, rfl⟩)
        | (go_at_call 25; (with_reducible refine (C2 _).out.mono ?_); rintro e w' ⟨rfl, rfl⟩)
        | (go_at_call 18; (with_reducible refine (alive_any _).mono ?_); rintro e w1 ⟨rfl, hw1⟩)
        | (go_at_call 19; (with_reducible refine (M _).out.mono ?_); rintro e w' ⟨rfl, rfl⟩)
        | (go_at_call 27; (with_reducible refine (P1 _).out.mono ?_); rintro e w2 ⟨rfl, hw2⟩)
        | (go_at_call 27; (with_reducible refine (P2 _).out.mono ?_); rintro e w3 ⟨rfl, hw3⟩)
        | (go_at_call 27; (with_reducible refine (P3 _).out.mono ?_); rintro e w4 ⟨rfl, hw4⟩)
        | (go_at_call 27; (with_reducible refine (P4 _).out.mono ?_); rintro e w5 ⟨rfl, hw5⟩)
        | (go_at_call 27; (with_reducible refine (P5 _).out.mono ?_); rintro e w6 ⟨rfl, hw6⟩)
        | (go_at_call 27; (with_reducible refine (P6 _).out.mono ?_); rintro e w7 ⟨rfl, hw7⟩))
      have k0 : (w7.alloc (.cells #[.int .u8 11, .int .u8 12, .int .u8 13] 5)).cell? ⟨w7.heap.size, 0, none⟩ = some (.int .u8 11) := by go_simp
      have k1 : (w7.alloc (.cells #[.int .u8 11, .int .u8 12, .int .u8 13] 5)).cell? ⟨w7.heap.size, 1, none⟩ = some (.int .u8 12) := by go_simp
      have k2 : (w7.alloc (.cells #[.int .u8 11, .int .u8 12, .int .u8 13] 5)).cell? ⟨w7.heap.size, 2, none⟩ = some (.int .u8 13) := by go_simp
      refine wp_loop_rounds 4 ?_
      rw [rounds_succ]
      go_wp2_with (first
        | (go_at_call 27; (with_reducible refine (A1 _).out.mono ?_); rintro e u00 ⟨rfl, hu00⟩; have k1 := cell_later hu00 k1; have k2 := cell_later hu00 k2)
        | (go_at_call 27; (with_reducible refine (B1 _).out.mono ?_); rintro e u01 ⟨rfl, hu01⟩; have k1 := cell_later hu01 k1; have k2 := cell_later hu01 k2)
        | (go_at_call 27; (with_reducible refine (D1 _).out.mono ?_); rintro e u02 ⟨rfl, hu02⟩; have k1 := cell_later hu02 k1; have k2 := cell_later hu02 k2))
      rw [rounds_succ]
      go_wp2_with (first
        | (go_at_call 27; (with_reducible refine (A2 _).out.mono ?_); rintro e u10 ⟨rfl, hu10⟩; have k1 := cell_later hu10 k1; have k2 := cell_later hu10 k2)
        | (go_at_call 27; (with_reducible refine (B2 _).out.mono ?_); rintro e u11 ⟨rfl, hu11⟩; have k1 := cell_later hu11 k1; have k2 := cell_later hu11 k2)
        | (go_at_call 27; (with_reducible refine (D2 _).out.mono ?_); rintro e u12 ⟨rfl, hu12⟩; have k1 := cell_later hu12 k1; have k2 := cell_later hu12 k2))
      rw [rounds_succ]
      go_wp2_with (first
        | (go_at_call 27; (with_reducible refine (A3 _).out.mono ?_); rintro e u20 ⟨rfl, hu20⟩; have k1 := cell_later hu20 k1; have k2 := cell_later hu20 k2)
        | (go_at_call 27; (with_reducible refine (B3 _).out.mono ?_); rintro e u21 ⟨rfl, hu21⟩; have k1 := cell_later hu21 k1; have k2 := cell_later hu21 k2)
        | (go_at_call 27; (with_reducible refine (D3 _).out.mono ?_); rintro e u22 ⟨rfl, hu22⟩; have k1 := cell_later hu22 k1; have k2 := cell_later hu22 k2))
      rw [rounds_succ]
      go_wp2_with (go_at_call 27; (with_reducible refine (A2 _).out.mono ?_); rintro e w9 ⟨rfl, hw9⟩)
      go_ret
      exact ⟨rfl, thenB (thenB (thenB (thenB (thenB (thenB (thenB (thenB (thenB (thenB (thenB (thenB (thenB (thenB (thenB (thenB (thenB hw1 hw2) hw3) hw4) hw5) hw6) hw7) ((Below.refl _ _).alloc (Nat.le_refl _) _)) hu00) hu01) hu02) hu10) hu11) hu12) hu20) hu21) hu22) hw9⟩
    · have h3 : n ≤ 1 := by omega
      go_enter Tryd.func7, Tryd.ntmps7
      go_wp2_with (first
        | (go_at_call 25; (with_reducible refine (C1 _).out.mono ?_); rintro e w' ⟨rfl, rfl⟩)
        | (go_at_call 25; (with_reducible refine (C2 _).out.mono ?_); rintro e w' ⟨rfl, rfl⟩)
        | (go_at_call 18; (with_reducible refine (alive_any _).mono ?_); rintro e w1 ⟨rfl, hw1⟩)
        | (go_at_call 19; (with_reducible refine (M _).out.mono ?_); rintro e w' ⟨rfl, rfl⟩)
        | (go_at_call 27; (with_reducible refine (P1 _).out.mono ?_); rintro e w2 ⟨rfl, hw2⟩)
        | (go_at_call 27; (with_reducible refine (P2 _).out.mono ?_); rintro e w3 ⟨rfl, hw3⟩)
        | (go_at_call 27; (with_reducible refine (P3 _).out.mono ?_); rintro e w4 ⟨rfl, hw4⟩)
        | (go_at_call 27; (with_reducible refine (P4 _).out.mono ?_); rintro e w5 ⟨rfl, hw5⟩))
      have k0 : (w5.alloc (.cells #[.int .u8 11, .int .u8 12, .int .u8 13] 5)).cell? ⟨w5.heap.size, 0, none⟩ = some (.int .u8 11) := by go_simp
      have k1 : (w5.alloc (.cells #[.int .u8 11, .int .u8 12, .int .u8 13] 5)).cell? ⟨w5.heap.size, 1, none⟩ = some (.int .u8 12) := by go_simp
      have k2 : (w5.alloc (.cells #[.int .u8 11, .int .u8 12, .int .u8 13] 5)).cell? ⟨w5.heap.size, 2, none⟩ = some (.int .u8 13) := by go_simp
      refine wp_loop_rounds 4 ?_
      rw [rounds_succ]
      go_wp2_with (first
        | (go_at_call 27; (with_reducible refine (A1 _).out.mono ?_); rintro e u00 ⟨rfl, hu00⟩; have k1 := cell_later hu00 k1; have k2 := cell_later hu00 k2)
        | (go_at_call 27; (with_reducible refine (B1 _).out.mono ?_); rintro e u01 ⟨rfl, hu01⟩; have k1 := cell_later hu01 k1; have k2 := cell_later hu01 k2)
        | (go_at_call 27; (with_reducible refine (D1 _).out.mono ?_); rintro e u02 ⟨rfl, hu02⟩; have k1 := cell_later hu02 k1; have k2 := cell_later hu02 k2))
      rw [rounds_succ]
      go_wp2_with (first
        | (go_at_call 27; (with_reducible refine (A2 _).out.mono ?_); rintro e u10 ⟨rfl, hu10⟩; have k1 := cell_later hu10 k1; have k2 := cell_later hu10 k2)
        | (go_at_call 27; (with_reducible refine (B2 _).out.mono ?_); rintro e u11 ⟨rfl, hu11⟩; have k1 := cell_later hu11 k1; have k2 := cell_later hu11 k2)
        | (go_at_call 27; (with_reducible refine (D2 _).out.mono ?_); rintro e u12 ⟨rfl, hu12⟩; have k1 := cell_later hu12 k1; have k2 := cell_later hu12 k2))
      rw [rounds_succ]
      go_wp2_with (first
        | (go_at_call 27; (with_reducible refine (A3 _).out.mono ?_); rintro e u20 ⟨rfl, hu20⟩; have k1 := cell_later hu20 k1; have k2 := cell_later hu20 k2)
        | (go_at_call 27; (with_reducible refine (B3 _).out.mono ?_); rintro e u21 ⟨rfl, hu21⟩; have k1 := cell_later hu21 k1; have k2 := cell_later hu21 k2)
        | (go_at_call 27; (with_reducible refine (D3 _).out.mono ?_); rintro e u22 ⟨rfl, hu22⟩; have k1 := cell_later hu22 k1; have k2 := cell_later hu22 k2))
      rw [rounds_succ]
      go_wp2_with (go_at_call 27; (with_reducible refine (A2 _).out.mono ?_); rintro e w9 ⟨rfl, hw9⟩)
      go_ret
      exact ⟨rfl, thenB (thenB (thenB (thenB (thenB (thenB (thenB (thenB (thenB (thenB (thenB (thenB (thenB (thenB (thenB hw1 hw2) hw3) hw4) hw5) ((Below.refl _ _).alloc (Nat.le_refl _) _)) hu00) hu01) hu02) hu10) hu11) hu12) hu20) hu21) hu22) hw9⟩
  · rw [show bitN true = 1 from rfl] at P1
    by_cases h2 : 1 < n
    · have h3 : ¬ n ≤ 1 := by omega
      go_enter Tryd.func7, Tryd.ntmps7
      go_wp2_with (first
        | (go_at_call 25; (with_reducible refine (C1 _).out.mono ?_); rintro e w' ⟨rfl, rfl⟩)
        | (go_at_call 25; (with_reducible refine (C2 _).out.mono ?_); rintro e w' ⟨rfl, rfl⟩)
        | (go_at_call 18; (with_reducible refine (alive_any _).mono ?_); rintro e w1 ⟨rfl, hw1⟩)
        | (go_at_call 19; (with_reducible refine (M _).out.mono ?_); rintro e w' ⟨rfl, rfl⟩)
        | (go_at_call 27; (with_reducible refine (P1 _).out.mono ?_); rintro e w2 ⟨rfl, hw2⟩)
        | (go_at_call 27; (with_reducible refine (P2 _).out.mono ?_); rintro e w3 ⟨rfl, hw3⟩)
        | (go_at_call 27; (with_reducible refine (P3 _).out.mono ?_); rintro e w4 ⟨rfl, hw4⟩)
        | (go_at_call 27; (with_reducible refine (P4 _).out.mono ?_); rintro e w5 ⟨rfl, hw5⟩)
        | (go_at_call 27; (with_reducible refine (P5 _).out.mono ?_); rintro e w6 ⟨rfl, hw6⟩)
        | (go_at_call 27; (with_reducible refine (P6 _).out.mono ?_); rintro e w7 ⟨rfl, hw7⟩))
      have k0 : (w7.alloc (.cells #[.int .u8 11, .int .u8 12, .int .u8 13] 5)).cell? ⟨w7.heap.size, 0, none⟩ = some (.int .u8 11) := by go_simp
      have k1 : (w7.alloc (.cells #[.int .u8 11, .int .u8 12, .int .u8 13] 5)).cell? ⟨w7.heap.size, 1, none⟩ = some (.int .u8 12) := by go_simp
      have k2 : (w7.alloc (.cells #[.int .u8 11, .int .u8 12, .int .u8 13] 5)).cell? ⟨w7.heap.size, 2, none⟩ = some (.int .u8 13) := by go_simp
      refine wp_loop_rounds 4 ?_
      rw [rounds_succ]
      go_wp2_with (first
        | (go_at_call 27; (with_reducible refine (A1 _).out.mono ?_); rintro e u00 ⟨rfl, hu00⟩; have k1 := cell_later hu00 k1; have k2 := cell_later hu00 k2)
        | (go_at_call 27; (with_reducible refine (B1 _).out.mono ?_); rintro e u01 ⟨rfl, hu01⟩; have k1 := cell_later hu01 k1; have k2 := cell_later hu01 k2)
        | (go_at_call 27; (with_reducible refine (D1 _).out.mono ?_); rintro e u02 ⟨rfl, hu02⟩; have k1 := cell_later hu02 k1; have k2 := cell_later hu02 k2))
      rw [rounds_succ]
      go_wp2_with (first
        | (go_at_call 27; (with_reducible refine (A2 _).out.mono ?_); rintro e u10 ⟨rfl, hu10⟩; have k1 := cell_later hu10 k1; have k2 := cell_later hu10 k2)
        | (go_at_call 27; (with_reducible refine (B2 _).out.mono ?_); rintro e u11 ⟨rfl, hu11⟩; have k1 := cell_later hu11 k1; have k2 := cell_later hu11 k2)
        | (go_at_call 27; (with_reducible refine (D2 _).out.mono ?_); rintro e u12 ⟨rfl, hu12⟩; have k1 := cell_later hu12 k1; have k2 := cell_later hu12 k2))
      rw [rounds_succ]
      go_wp2_with (first
        | (go_at_call 27; (with_reducible refine (A3 _).out.mono ?_); rintro e u20 ⟨rfl, hu20⟩; have k1 := cell_later hu20 k1; have k2 := cell_later hu20 k2)
        | (go_at_call 27; (with_reducible refine (B3 _).out.mono ?_); rintro e u21 ⟨rfl, hu21⟩; have k1 := cell_later hu21 k1; have k2 := cell_later hu21 k2)
        | (go_at_call 27; (with_reducible refine (D3 _).out.mono ?_); rintro e u22 ⟨rfl, hu22⟩; have k1 := cell_later hu22 k1; have k2 := cell_later hu22 k2))
      rw [rounds_succ]
      go_wp2_with (go_at_call 27; (with_reducible refine (A2 _).out.mono ?_); rintro e w9 ⟨rfl, hw9⟩)
      go_ret
      exact ⟨rfl, thenB (thenB (thenB (thenB (thenB (thenB (thenB (thenB (thenB (thenB (thenB (thenB (thenB (thenB (thenB (thenB (thenB hw1 hw2) hw3) hw4) hw5) hw6) hw7) ((Below.refl _ _).alloc (Nat.le_refl _) _)) hu00) hu01) hu02) hu10) hu11) hu12) hu20) hu21) hu22) hw9⟩
    · have h3 : n ≤ 1 := by omega
      go_enter Tryd.func7, Tryd.ntmps7
      go_wp2_with (first
        | (go_at_call 25; (with_reducible refine (C1 _).out.mono ?_); rintro e w' ⟨rfl, rfl⟩)
        | (go_at_call 25; (with_reducible refine (C2 _).out.mono ?_); rintro e w' ⟨rfl, rfl⟩)
        | (go_at_call 18; (with_reducible refine (alive_any _).mono ?_); rintro e w1 ⟨rfl, hw1⟩)
        | (go_at_call 19; (with_reducible refine (M _).out.mono ?_); rintro e w' ⟨rfl, rfl⟩)
        | (go_at_call 27; (with_reducible refine (P1 _).out.mono ?_); rintro e w2 ⟨rfl, hw2⟩)
        | (go_at_call 27; (with_reducible refine (P2 _).out.mono ?_); rintro e w3 ⟨rfl, hw3⟩)
        | (go_at_call 27; (with_reducible refine (P3 _).out.mono ?_); rintro e w4 ⟨rfl, hw4⟩)
        | (go_at_call 27; (with_reducible refine (P4 _).out.mono ?_); rintro e w5 ⟨rfl, hw5⟩))
      have k0 : (w5.alloc (.cells #[.int .u8 11, .int .u8 12, .int .u8 13] 5)).cell? ⟨w5.heap.size, 0, none⟩ = some (.int .u8 11) := by go_simp
      have k1 : (w5.alloc (.cells #[.int .u8 11, .int .u8 12, .int .u8 13] 5)).cell? ⟨w5.heap.size, 1, none⟩ = some (.int .u8 12) := by go_simp
      have k2 : (w5.alloc (.cells #[.int .u8 11, .int .u8 12, .int .u8 13] 5)).cell? ⟨w5.heap.size, 2, none⟩ = some (.int .u8 13) := by go_simp
      refine wp_loop_rounds 4 ?_
      rw [rounds_succ]
      go_wp2_with (first
        | (go_at_call 27; (with_reducible refine (A1 _).out.mono ?_); rintro e u00 ⟨rfl, hu00⟩; have k1 := cell_later hu00 k1; have k2 := cell_later hu00 k2)
        | (go_at_call 27; (with_reducible refine (B1 _).out.mono ?_); rintro e u01 ⟨rfl, hu01⟩; have k1 := cell_later hu01 k1; have k2 := cell_later hu01 k2)
        | (go_at_call 27; (with_reducible refine (D1 _).out.mono ?_); rintro e u02 ⟨rfl, hu02⟩; have k1 := cell_later hu02 k1; have k2 := cell_later hu02 k2))
      rw [rounds_succ]
      go_wp2_with (first
        | (go_at_call 27; (with_reducible refine (A2 _).out.mono ?_); rintro e u10 ⟨rfl, hu10⟩; have k1 := cell_later hu10 k1; have k2 := cell_later hu10 k2)
        | (go_at_call 27; (with_reducible refine (B2 _).out.mono ?_); rintro e u11 ⟨rfl, hu11⟩; have k1 := cell_later hu11 k1; have k2 := cell_later hu11 k2)
        | (go_at_call 27; (with_reducible refine (D2 _).out.mono ?_); rintro e u12 ⟨rfl, hu12⟩; have k1 := cell_later hu12 k1; have k2 := cell_later hu12 k2))
      rw [rounds_succ]
      go_wp2_with (first
        | (go_at_call 27; (with_reducible refine (A3 _).out.mono ?_); rintro e u20 ⟨rfl, hu20⟩; have k1 := cell_later hu20 k1; have k2 := cell_later hu20 k2)
        | (go_at_call 27; (with_reducible refine (B3 _).out.mono ?_); rintro e u21 ⟨rfl, hu21⟩; have k1 := cell_later hu21 k1; have k2 := cell_later hu21 k2)
        | (go_at_call 27; (with_reducible refine (D3 _).out.mono ?_); rintro e u22 ⟨rfl, hu22⟩; have k1 := cell_later hu22 k1; have k2 := cell_later hu22 k2))
      rw [rounds_succ]
      go_wp2_with (go_at_call 27; (with_reducible refine (A2 _).out.mono ?_); rintro e w9 ⟨rfl, hw9⟩)
      go_ret
      exact ⟨rfl, thenB (thenB (thenB (thenB (thenB (thenB (thenB (thenB (thenB (thenB (thenB (thenB (thenB (thenB (thenB hw1 hw2) hw3) hw4) hw5) ((Below.refl _ _).alloc (Nat.le_refl _) _)) hu00) hu01) hu02) hu10) hu11) hu12) hu20) hu21) hu22) hw9⟩

theorem walk (a0 : Int) (a1 : Int) (a2 : Int) (w0 : (Lit.int .u8 a0).wf = true) (w1 : (Lit.int .u64 a1).wf = true) (w2 : (Lit.int .u64 a2).wf = true) (w : World) :
    Calls Tryd.prog 7 #[.int .u8 a0, .int .u64 a1, .int .u64 a2] w fun e w' => e = .returned (.bool true) ∧ Below w.heap.size w w' := by
  obtain ⟨wd, rfl, _⟩ := nat_u8 w0
  obtain ⟨x, rfl, hx⟩ := nat_u64 w1
  obtain ⟨y, rfl, hy⟩ := nat_u64 w2
  by_cases h : wd % 64 + 1 ≤ y % 2 ^ (wd % 64 + 1)
  · exact over_width wd x y _ _ _ w hx hy rfl rfl rfl h
  · exact under_width wd x y _ _ _ _ _ _ _ _ _ _ _ w hx hy rfl rfl rfl (by omega) rfl rfl rfl rfl rfl rfl rfl rfl
end Go.Proofs.YtdllophjfiebiaaDoor.bitsShifts
