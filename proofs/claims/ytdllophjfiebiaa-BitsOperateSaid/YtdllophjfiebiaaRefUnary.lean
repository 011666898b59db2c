/- Contract of the reference's Unary, for all arguments. -/
import Derived.Test.YtdllophjfiebiaaRefShiftMath
namespace Go.Proofs.Ytdllophjfiebiaa
open Go.RowKit Go.Sort
set_option linter.unusedVariables false
set_option linter.unusedSimpArgs false

theorem refUnary_not (n a : Nat) (w : World) (h0 : 1 ≤ n) (h1 : n ≤ 64) (ha : a < 2 ^ n) :
    Calls Try.prog 6 #[.int .u8 3, .int .i64 n, .int .u64 a] w fun e w' => e = .returned (.tuple #[.int .u64 (opv 3 n a 0 : Nat), .int .i64 0]) ∧ Below w.heap.size w w' := by
  have pa := pow_le n (by omega)
  have V1 := fun W => Lib.hid (wide_yes n W (by omega) (by omega))
  have O1 := fun W => refOk_yes n a W h0 h1 (by omega)
  rw [(okB_iff _ _).2 ha] at O1
  have O1 := fun W => Lib.hid (O1 W)
  have B1 := fun W => Lib.hid (bits_any n a W h0 h1 (by omega))
  have HNo := Lib.hid (fun (W : World) (g cap : Nat) (h : Cells W g n a) => not_any n a g cap W h0 (by omega) h)
  have HN := Lib.hid (fun (g cap : Nat) (W : World) (hw : Cells W g n (cpl n a)) => number_any n (cpl n a) g 0 cap W h1 (fun j hj => by rw [Nat.zero_add]; exact hw j hj))
  rw [md_not n a h1 ha] at HN
  generalize opv 3 n a 0 = X at *
  clear ha pa
  go_enter Try.func6, Try.ntmps6
  go_wp2_with (first
    | (go_at_call 24; (with_reducible refine (V1 _).out.mono ?_); rintro e w' ⟨rfl, rfl⟩)
    | (go_at_call 14; (with_reducible refine (O1 _).out.mono ?_); rintro e w' ⟨rfl, rfl⟩)
    | (go_at_call 26; (with_reducible refine (B1 _).out.mono ?_); rintro e w1 ⟨g1, cap1, rfl, hat, hb1⟩; have HA1 := Lib.hid hat; have HB1 := Lib.hid hb1; clear hat hb1)
    | (go_at_call 25; (with_reducible refine (HNo.out _ _ _ HA1.out.cells).mono ?_); rintro e w2 ⟨g2, cap2, rfl, hat, hb2⟩; have HA2 := Lib.hid hat; have HB2 := Lib.hid hb2; clear hat hb2)
    | (go_at_call 29; (with_reducible refine (HN.out _ _ _ HA2.out.cells).mono ?_); rintro e w' ⟨rfl, rfl⟩))
  go_ret2
  exact ⟨rfl, thenBel HB1.out HB2.out⟩

theorem refUnary_neg (n a : Nat) (w : World) (h0 : 1 ≤ n) (h1 : n ≤ 64) (ha : a < 2 ^ n) :
    Calls Try.prog 6 #[.int .u8 4, .int .i64 n, .int .u64 a] w fun e w' => e = .returned (.tuple #[.int .u64 (opv 4 n a 0 : Nat), .int .i64 0]) ∧ Below w.heap.size w w' := by
  have pa := pow_le n (by omega)
  have V1 := fun W => Lib.hid (wide_yes n W (by omega) (by omega))
  have O1 := fun W => refOk_yes n a W h0 h1 (by omega)
  rw [(okB_iff _ _).2 ha] at O1
  have O1 := fun W => Lib.hid (O1 W)
  have B1 := fun W => Lib.hid (bits_any n a W h0 h1 (by omega))
  have HZ := fun W => Lib.hid (zeros_any n W h0 (by omega))
  have HNo := Lib.hid (fun (W : World) (g cap : Nat) (h : Cells W g n a) => not_any n a g cap W h0 (by omega) h)
  have HA := Lib.hid (fun (W : World) (g cap g' cap' : Nat) (h : Cells W g n (cpl n a)) (h' : Cells W g' n 0) => add1_any n (cpl n a) 0 g cap g' cap' n W h0 (by omega) (Nat.le_refl _) h h')
  have HN := Lib.hid (fun (g cap : Nat) (W : World) (hw : Cells W g n (cpl n a + 0 + 1)) => number_any n (cpl n a + 0 + 1) g 0 cap W h1 (fun j hj => by rw [Nat.zero_add]; exact hw j hj))
  rw [md_neg n a h1 ha] at HN
  generalize cpl n a + 0 + 1 = Z at *
  generalize opv 4 n a 0 = X at *
  clear ha pa
  go_enter Try.func6, Try.ntmps6
  go_wp2_with (first
    | (go_at_call 24; (with_reducible refine (V1 _).out.mono ?_); rintro e w' ⟨rfl, rfl⟩)
    | (go_at_call 14; (with_reducible refine (O1 _).out.mono ?_); rintro e w' ⟨rfl, rfl⟩)
    | (go_at_call 26; (with_reducible refine (B1 _).out.mono ?_); rintro e w1 ⟨g1, cap1, rfl, hat, hb1⟩; have HA1 := Lib.hid hat; have HB1 := Lib.hid hb1; clear hat hb1)
    | (go_at_call 25; (with_reducible refine (HNo.out _ _ _ HA1.out.cells).mono ?_); rintro e w2 ⟨g2, cap2, rfl, hat, hb2⟩; have HA2 := Lib.hid hat; have HB2 := Lib.hid hb2; clear hat hb2)
    | (go_at_call 28; (with_reducible refine (HZ _).out.mono ?_); rintro e w3 ⟨g3, cap3, rfl, hat, hb3⟩; have HA3 := Lib.hid hat; have HB3 := Lib.hid hb3; clear hat hb3)
    | (go_at_call 27; (with_reducible refine (HA.out _ _ _ _ _ (HA2.out.cells.kept HB3.out) HA3.out.cells).mono ?_); rintro e w4 ⟨g4, cap4, rfl, hat, hb4⟩; have HA4 := Lib.hid hat; have HB4 := Lib.hid hb4; clear hat hb4)
    | (go_at_call 29; (with_reducible refine (HN.out _ _ _ HA4.out.cells).mono ?_); rintro e w' ⟨rfl, rfl⟩))
  go_ret2
  exact ⟨rfl, thenBel (thenBel (thenBel HB1.out HB2.out) HB3.out) HB4.out⟩

theorem refUnary_any (k a : Nat) (n : Int) (w : World) (ha64 : a < 18446744073709551616) :
    Calls Try.prog 6 #[.int .u8 k, .int .i64 n, .int .u64 a] w fun e w' => e = .returned (.tuple #[.int .u64 (opR 3 4 k n a 0).1, .int .i64 (opR 3 4 k n a 0).2]) ∧ Below w.heap.size w w' := by
  by_cases h : n < 1 ∨ 64 < n
  · rw [show opR 3 4 k n a 0 = (0, 14) by unfold opR; rw [if_pos h]]
    have V1 := fun W => Lib.hid (wide_no n W h)
    clear h ha64
    go_enter Try.func6, Try.ntmps6
    go_wp2_with (first
      | (go_at_call 24; (with_reducible refine (V1 _).out.mono ?_); rintro e w' ⟨rfl, rfl⟩))
    go_ret2
    exact ⟨rfl, Below.refl _ _⟩
  · obtain ⟨n, rfl⟩ : ∃ m : Nat, n = m := ⟨n.toNat, by omega⟩
    have h0 : 1 ≤ n := by omega
    have h1 : n ≤ 64 := by omega
    have V1 := fun W => Lib.hid (wide_yes n W (by omega) (by omega))
    by_cases hk : k < 3 ∨ 4 < k
    · rw [show opR 3 4 k n a 0 = (0, 2) by unfold opR; rw [if_neg h, if_pos hk]]
      have t1 : ((k : Int) != 3) = true := by simp; omega
      have t2 : ((k : Int) != 4) = true := by simp; omega
      clear h hk ha64
      go_enter Try.func6, Try.ntmps6
      go_wp2_with (first
        | (go_at_call 24; (with_reducible refine (V1 _).out.mono ?_); rintro e w' ⟨rfl, rfl⟩))
      go_ret2
      exact ⟨rfl, Below.refl _ _⟩
    · have hk2 : k = 3 ∨ k = 4 := by omega
      by_cases ha : a < 2 ^ n
      · rw [show opR 3 4 k n a 0 = (opv k n a 0, 0) by unfold opR; rw [if_neg h, if_neg hk, Int.toNat_natCast, if_neg (chk2_zero n a 0 ha (pow_pos' n))]]
        rcases hk2 with rfl | rfl
        · exact refUnary_not n a w h0 h1 ha
        · exact refUnary_neg n a w h0 h1 ha
      · have k1 : okB n a = false := by simp [okB]; omega
        rw [show opR 3 4 k n a 0 = (0, 8) by unfold opR; rw [if_neg h, if_neg hk, Int.toNat_natCast, if_pos (by unfold chk2; rw [k1]; rfl)]]
        have O1 := fun W => refOk_yes n a W h0 h1 ha64
        rw [k1] at O1
        have O1 := fun W => Lib.hid (O1 W)
        clear h hk ha64 ha k1
        rcases hk2 with rfl | rfl
        · go_enter Try.func6, Try.ntmps6
          go_wp2_with (first
            | (go_at_call 24; (with_reducible refine (V1 _).out.mono ?_); rintro e w' ⟨rfl, rfl⟩)
            | (go_at_call 14; (with_reducible refine (O1 _).out.mono ?_); rintro e w' ⟨rfl, rfl⟩))
          go_ret2
          exact ⟨rfl, Below.refl _ _⟩
        · go_enter Try.func6, Try.ntmps6
          go_wp2_with (first
            | (go_at_call 24; (with_reducible refine (V1 _).out.mono ?_); rintro e w' ⟨rfl, rfl⟩)
            | (go_at_call 14; (with_reducible refine (O1 _).out.mono ?_); rintro e w' ⟨rfl, rfl⟩))
          go_ret2
          exact ⟨rfl, Below.refl _ _⟩
end Go.Proofs.Ytdllophjfiebiaa
