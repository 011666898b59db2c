/- The reference's Binary on good arguments. Written by wip/gen/binary.py. -/
import Derived.Test.YtdllophjfiebiaaRefUnary
namespace Go.Proofs.Ytdllophjfiebiaa
open Go.RowKit Go.Sort
set_option linter.unusedVariables false
set_option linter.unusedSimpArgs false
set_option maxRecDepth 8000

theorem top_cell (W : World) (g n X : Nat) (h0 : 1 ≤ n) (h : Cells W g n X) : W.cell? ⟨g, n - 1, none⟩ = some (.int .i64 (bt X (n - 1) : Nat)) := h (n - 1) (by omega)
theorem divide_any (n x y g1 cap1 g2 cap2 : Nat) (w : World) (h0 : 1 ≤ n) (h1 : n ≤ 64) (hcap : n ≤ cap1) (hx : x < 2 ^ n) (hy : y < 2 ^ n) (hc : Cells w g1 n x) (hb : BitsAt w 0 g2 n cap2 y) :
    Calls Try.prog 33 #[.slice (some ⟨g1, 0, none⟩) n cap1, .slice (some ⟨g2, 0, none⟩) n cap2] w (GivesTwo n (opv 14 n x y) (opv 15 n x y) w) := by
  rw [div_val n x y hx h1, rem_val n x y hx]
  by_cases h : y = 0
  · subst h
    rw [if_pos rfl, if_pos rfl]
    exact divide_zero n x g1 cap1 g2 cap2 w h0 h1 hc hb.cells
  · rw [if_neg h, if_neg h]
    exact divide_pos n x y g1 cap1 g2 cap2 w h0 h1 hcap hx hy (by omega) hc hb

theorem refBinary_5 (n x y : Nat) (w : World) (h0 : 1 ≤ n) (h1 : n ≤ 64) (hx : x < 2 ^ n) (hy : y < 2 ^ n) :
    Calls Try.prog 8 #[.int .u8 5, .int .i64 n, .int .u64 x, .int .u64 y] w fun e w' => e = .returned (.tuple #[.int .u64 (opv 5 n x y : Nat), .int .i64 0]) ∧ Below w.heap.size w w' := by
  have px := pow_le n (by omega)
  have V1 := fun W => Lib.hid (wide_yes n W (by omega) (by omega))
  have O1 := fun W => refOk_yes n x W h0 h1 (by omega)
  rw [(okB_iff _ _).2 hx] at O1
  have O1 := fun W => Lib.hid (O1 W)
  have O2 := fun W => refOk_yes n y W h0 h1 (by omega)
  rw [(okB_iff _ _).2 hy] at O2
  have O2 := fun W => Lib.hid (O2 W)
  have B1 := fun W => Lib.hid (bits_any n x W h0 h1 (by omega))
  have B2 := fun W => Lib.hid (bits_any n y W h0 h1 (by omega))
  have HS1 := Lib.hid (fun (W : World) (g : Nat) (h : Cells W g n x) => top_cell W g n x h0 h)
  have HS2 := Lib.hid (fun (W : World) (g : Nat) (h : Cells W g n y) => top_cell W g n y h0 h)
  have HA := Lib.hid (fun (W : World) (g cap g' cap' : Nat) (h : Cells W g n x) (h' : Cells W g' n y) => add0_any n x y g cap g' cap' n W h0 (by omega) (Nat.le_refl _) h h')
  have HN := Lib.hid (fun (g cap : Nat) (W : World) (hw : Cells W g n (x + y)) => number_any n (x + y) g 0 cap W h1 (fun j hj => by rw [Nat.zero_add]; exact hw j hj))
  rw [md_add n x y h1] at HN
  generalize x + y = Z at *
  generalize opv 5 n x y = X at *
  generalize bt x (n - 1) = s at *
  generalize bt y (n - 1) = t at *
  have HX := Lib.hid hx; have HY := Lib.hid hy
  clear hx hy px
  go_enter Try.func8, Try.ntmps8
  go_wp2_with (first
    | (go_at_call 24; (with_reducible refine ((V1 _).out).mono ?_); rintro e w' ⟨rfl, rfl⟩)
    | (go_at_call 14; (with_reducible refine ((O1 _).out).mono ?_); rintro e w' ⟨rfl, rfl⟩)
    | (go_at_call 14; (with_reducible refine ((O2 _).out).mono ?_); rintro e w' ⟨rfl, rfl⟩)
    | (go_at_call 26; (with_reducible refine ((B1 _).out).mono ?_); rintro e w1 ⟨g1, cap1, rfl, hat, hb1⟩; have HA1 := Lib.hid hat; have HB1 := Lib.hid hb1; clear hat hb1)
    | (go_at_call 26; (with_reducible refine ((B2 _).out).mono ?_); rintro e w2 ⟨g2, cap2, rfl, hat, hb2⟩; have HA2 := Lib.hid hat; have HB2 := Lib.hid hb2; have HC1 := Lib.hid (HA1.out.cells.kept hb2); have HC2 := Lib.hid hat.cells; have hs1 := HS1.out _ _ HC1.out; have hs2 := HS2.out _ _ HC2.out; clear hat hb2)
    | (go_at_call 27; (with_reducible refine (HA.out _ _ _ _ _ HC1.out HC2.out).mono ?_); rintro e w3 ⟨g3, cap3, rfl, hat, hb3⟩; have HA3 := Lib.hid hat; have HB3 := Lib.hid hb3; clear hat hb3)
    | (go_at_call 29; (with_reducible refine (HN.out _ _ _ HA3.out.cells).mono ?_); rintro e w' ⟨rfl, rfl⟩))
  go_ret2
  exact ⟨rfl, thenBel (thenBel (HB1.out) HB2.out) HB3.out⟩

theorem refBinary_6 (n x y : Nat) (w : World) (h0 : 1 ≤ n) (h1 : n ≤ 64) (hx : x < 2 ^ n) (hy : y < 2 ^ n) :
    Calls Try.prog 8 #[.int .u8 6, .int .i64 n, .int .u64 x, .int .u64 y] w fun e w' => e = .returned (.tuple #[.int .u64 (opv 6 n x y : Nat), .int .i64 0]) ∧ Below w.heap.size w w' := by
  have px := pow_le n (by omega)
  have V1 := fun W => Lib.hid (wide_yes n W (by omega) (by omega))
  have O1 := fun W => refOk_yes n x W h0 h1 (by omega)
  rw [(okB_iff _ _).2 hx] at O1
  have O1 := fun W => Lib.hid (O1 W)
  have O2 := fun W => refOk_yes n y W h0 h1 (by omega)
  rw [(okB_iff _ _).2 hy] at O2
  have O2 := fun W => Lib.hid (O2 W)
  have B1 := fun W => Lib.hid (bits_any n x W h0 h1 (by omega))
  have B2 := fun W => Lib.hid (bits_any n y W h0 h1 (by omega))
  have HS1 := Lib.hid (fun (W : World) (g : Nat) (h : Cells W g n x) => top_cell W g n x h0 h)
  have HS2 := Lib.hid (fun (W : World) (g : Nat) (h : Cells W g n y) => top_cell W g n y h0 h)
  have HNo := Lib.hid (fun (W : World) (g cap : Nat) (h : Cells W g n y) => not_any n y g cap W h0 (by omega) h)
  have HA := Lib.hid (fun (W : World) (g cap g' cap' : Nat) (h : Cells W g n x) (h' : Cells W g' n (cpl n y)) => add1_any n x (cpl n y) g cap g' cap' n W h0 (by omega) (Nat.le_refl _) h h')
  have HN := Lib.hid (fun (g cap : Nat) (W : World) (hw : Cells W g n (x + cpl n y + 1)) => number_any n (x + cpl n y + 1) g 0 cap W h1 (fun j hj => by rw [Nat.zero_add]; exact hw j hj))
  rw [md_sub n x y h1 hy] at HN
  generalize x + cpl n y + 1 = Z at *
  generalize opv 6 n x y = X at *
  generalize bt x (n - 1) = s at *
  generalize bt y (n - 1) = t at *
  have HX := Lib.hid hx; have HY := Lib.hid hy
  clear hx hy px
  go_enter Try.func8, Try.ntmps8
  go_wp2_with (first
    | (go_at_call 24; (with_reducible refine ((V1 _).out).mono ?_); rintro e w' ⟨rfl, rfl⟩)
    | (go_at_call 14; (with_reducible refine ((O1 _).out).mono ?_); rintro e w' ⟨rfl, rfl⟩)
    | (go_at_call 14; (with_reducible refine ((O2 _).out).mono ?_); rintro e w' ⟨rfl, rfl⟩)
    | (go_at_call 26; (with_reducible refine ((B1 _).out).mono ?_); rintro e w1 ⟨g1, cap1, rfl, hat, hb1⟩; have HA1 := Lib.hid hat; have HB1 := Lib.hid hb1; clear hat hb1)
    | (go_at_call 26; (with_reducible refine ((B2 _).out).mono ?_); rintro e w2 ⟨g2, cap2, rfl, hat, hb2⟩; have HA2 := Lib.hid hat; have HB2 := Lib.hid hb2; have HC1 := Lib.hid (HA1.out.cells.kept hb2); have HC2 := Lib.hid hat.cells; have hs1 := HS1.out _ _ HC1.out; have hs2 := HS2.out _ _ HC2.out; clear hat hb2)
    | (go_at_call 25; (with_reducible refine (HNo.out _ _ _ HC2.out).mono ?_); rintro e w3 ⟨g3, cap3, rfl, hat, hb3⟩; have HA3 := Lib.hid hat; have HB3 := Lib.hid hb3; clear hat hb3)
    | (go_at_call 27; (with_reducible refine (HA.out _ _ _ _ _ (HC1.out.kept HB3.out) HA3.out.cells).mono ?_); rintro e w4 ⟨g4, cap4, rfl, hat, hb4⟩; have HA4 := Lib.hid hat; have HB4 := Lib.hid hb4; clear hat hb4)
    | (go_at_call 29; (with_reducible refine (HN.out _ _ _ HA4.out.cells).mono ?_); rintro e w' ⟨rfl, rfl⟩))
  go_ret2
  exact ⟨rfl, thenBel (thenBel (thenBel (HB1.out) HB2.out) HB3.out) HB4.out⟩

theorem refBinary_7 (n x y : Nat) (w : World) (h0 : 1 ≤ n) (h1 : n ≤ 64) (hx : x < 2 ^ n) (hy : y < 2 ^ n) :
    Calls Try.prog 8 #[.int .u8 7, .int .i64 n, .int .u64 x, .int .u64 y] w fun e w' => e = .returned (.tuple #[.int .u64 (opv 7 n x y : Nat), .int .i64 0]) ∧ Below w.heap.size w w' := by
  have px := pow_le n (by omega)
  have V1 := fun W => Lib.hid (wide_yes n W (by omega) (by omega))
  have O1 := fun W => refOk_yes n x W h0 h1 (by omega)
  rw [(okB_iff _ _).2 hx] at O1
  have O1 := fun W => Lib.hid (O1 W)
  have O2 := fun W => refOk_yes n y W h0 h1 (by omega)
  rw [(okB_iff _ _).2 hy] at O2
  have O2 := fun W => Lib.hid (O2 W)
  have B1 := fun W => Lib.hid (bits_any n x W h0 h1 (by omega))
  have B2 := fun W => Lib.hid (bits_any n y W h0 h1 (by omega))
  have HS1 := Lib.hid (fun (W : World) (g : Nat) (h : Cells W g n x) => top_cell W g n x h0 h)
  have HS2 := Lib.hid (fun (W : World) (g : Nat) (h : Cells W g n y) => top_cell W g n y h0 h)
  have HA := Lib.hid (fun (W : World) (g cap g' cap' : Nat) (hc : n ≤ cap) (h : Cells W g n x) (h' : Cells W g' n y) => mul_any n x y g cap g' cap' W h0 h1 h hc h')
  have HN := Lib.hid (fun (g cap : Nat) (W : World) (hw : Cells W g n (x * (y % 2 ^ n))) => number_any n (x * (y % 2 ^ n)) g 0 cap W h1 (fun j hj => by rw [Nat.zero_add]; exact hw j hj))
  rw [md_mul n x y h1 hy] at HN
  generalize x * (y % 2 ^ n) = Z at *
  generalize opv 7 n x y = X at *
  generalize bt x (n - 1) = s at *
  generalize bt y (n - 1) = t at *
  have HX := Lib.hid hx; have HY := Lib.hid hy
  clear hx hy px
  go_enter Try.func8, Try.ntmps8
  go_wp2_with (first
    | (go_at_call 24; (with_reducible refine ((V1 _).out).mono ?_); rintro e w' ⟨rfl, rfl⟩)
    | (go_at_call 14; (with_reducible refine ((O1 _).out).mono ?_); rintro e w' ⟨rfl, rfl⟩)
    | (go_at_call 14; (with_reducible refine ((O2 _).out).mono ?_); rintro e w' ⟨rfl, rfl⟩)
    | (go_at_call 26; (with_reducible refine ((B1 _).out).mono ?_); rintro e w1 ⟨g1, cap1, rfl, hat, hb1⟩; have HA1 := Lib.hid hat; have HB1 := Lib.hid hb1; clear hat hb1)
    | (go_at_call 26; (with_reducible refine ((B2 _).out).mono ?_); rintro e w2 ⟨g2, cap2, rfl, hat, hb2⟩; have HA2 := Lib.hid hat; have HB2 := Lib.hid hb2; have HC1 := Lib.hid (HA1.out.cells.kept hb2); have HC2 := Lib.hid hat.cells; have hs1 := HS1.out _ _ HC1.out; have hs2 := HS2.out _ _ HC2.out; clear hat hb2)
    | (go_at_call 30; (with_reducible refine (HA.out _ _ _ _ _ HA1.out.cap.1 HC1.out HC2.out).mono ?_); rintro e w3 ⟨g3, cap3, rfl, hat, hb3⟩; have HA3 := Lib.hid hat; have HB3 := Lib.hid hb3; clear hat hb3)
    | (go_at_call 29; (with_reducible refine (HN.out _ _ _ HA3.out.cells).mono ?_); rintro e w' ⟨rfl, rfl⟩))
  go_ret2
  exact ⟨rfl, thenBel (thenBel (HB1.out) HB2.out) HB3.out⟩

theorem refBinary_11 (n x y : Nat) (w : World) (h0 : 1 ≤ n) (h1 : n ≤ 64) (hx : x < 2 ^ n) (hy : y < 2 ^ n) :
    Calls Try.prog 8 #[.int .u8 11, .int .i64 n, .int .u64 x, .int .u64 y] w fun e w' => e = .returned (.tuple #[.int .u64 (opv 11 n x y : Nat), .int .i64 0]) ∧ Below w.heap.size w w' := by
  have px := pow_le n (by omega)
  have V1 := fun W => Lib.hid (wide_yes n W (by omega) (by omega))
  have O1 := fun W => refOk_yes n x W h0 h1 (by omega)
  rw [(okB_iff _ _).2 hx] at O1
  have O1 := fun W => Lib.hid (O1 W)
  have O2 := fun W => refOk_yes n y W h0 h1 (by omega)
  rw [(okB_iff _ _).2 hy] at O2
  have O2 := fun W => Lib.hid (O2 W)
  have B1 := fun W => Lib.hid (bits_any n x W h0 h1 (by omega))
  have B2 := fun W => Lib.hid (bits_any n y W h0 h1 (by omega))
  have HS1 := Lib.hid (fun (W : World) (g : Nat) (h : Cells W g n x) => top_cell W g n x h0 h)
  have HS2 := Lib.hid (fun (W : World) (g : Nat) (h : Cells W g n y) => top_cell W g n y h0 h)
  have PL := fun W => Lib.hid (places_any y W)
  have hz := shl_is n x y h1
  have hm : min y 64 ≤ 64 := Nat.min_le_right _ _
  have HN := Lib.hid (fun (g cap : Nat) (W : World) (hw : Cells W g n (opv 11 n x y)) => number_any n (opv 11 n x y) g 0 cap W h1 (fun j hj => by rw [Nat.zero_add]; exact hw j hj))
  rw [opv_md 11 n x y] at HN
  generalize min y 64 = m at *
  have SH := Lib.hid (show ∀ (W : World) (g cap : Nat), Cells W g n x → Calls Try.prog 31 #[.slice (some ⟨g, 0, none⟩) n cap, .int .i64 (-(m : Int)), .int .i64 0] W (Gives n (opv 11 n x y) W) from fun W g cap h => shift_any n x (opv 11 n x y) 0 g cap (-(m : Int)) W h0 h1 (by omega) (by omega) h hz)
  clear hz
  generalize opv 11 n x y = X at *
  generalize bt x (n - 1) = s at *
  generalize bt y (n - 1) = t at *
  clear hx hy px
  go_enter Try.func8, Try.ntmps8
  go_wp2_with (first
    | (go_at_call 24; (with_reducible refine ((V1 _).out).mono ?_); rintro e w' ⟨rfl, rfl⟩)
    | (go_at_call 14; (with_reducible refine ((O1 _).out).mono ?_); rintro e w' ⟨rfl, rfl⟩)
    | (go_at_call 14; (with_reducible refine ((O2 _).out).mono ?_); rintro e w' ⟨rfl, rfl⟩)
    | (go_at_call 26; (with_reducible refine ((B1 _).out).mono ?_); rintro e w1 ⟨g1, cap1, rfl, hat, hb1⟩; have HA1 := Lib.hid hat; have HB1 := Lib.hid hb1; clear hat hb1)
    | (go_at_call 26; (with_reducible refine ((B2 _).out).mono ?_); rintro e w2 ⟨g2, cap2, rfl, hat, hb2⟩; have HA2 := Lib.hid hat; have HB2 := Lib.hid hb2; have HC1 := Lib.hid (HA1.out.cells.kept hb2); have HC2 := Lib.hid hat.cells; have hs1 := HS1.out _ _ HC1.out; have hs2 := HS2.out _ _ HC2.out; clear hat hb2)
    | (go_at_call 32; (with_reducible refine ((PL _).out).mono ?_); rintro e w' ⟨rfl, rfl⟩)
    | (go_at_call 31; (with_reducible refine (SH.out _ _ _ HC1.out).mono ?_); rintro e w3 ⟨g3, cap3, rfl, hat, hb3⟩; have HA3 := Lib.hid hat; have HB3 := Lib.hid hb3; clear hat hb3)
    | (go_at_call 29; (with_reducible refine (HN.out _ _ _ HA3.out.cells).mono ?_); rintro e w' ⟨rfl, rfl⟩))
  go_ret2
  exact ⟨rfl, thenBel (thenBel (HB1.out) HB2.out) HB3.out⟩

theorem refBinary_12 (n x y : Nat) (w : World) (h0 : 1 ≤ n) (h1 : n ≤ 64) (hx : x < 2 ^ n) (hy : y < 2 ^ n) :
    Calls Try.prog 8 #[.int .u8 12, .int .i64 n, .int .u64 x, .int .u64 y] w fun e w' => e = .returned (.tuple #[.int .u64 (opv 12 n x y : Nat), .int .i64 0]) ∧ Below w.heap.size w w' := by
  have px := pow_le n (by omega)
  have V1 := fun W => Lib.hid (wide_yes n W (by omega) (by omega))
  have O1 := fun W => refOk_yes n x W h0 h1 (by omega)
  rw [(okB_iff _ _).2 hx] at O1
  have O1 := fun W => Lib.hid (O1 W)
  have O2 := fun W => refOk_yes n y W h0 h1 (by omega)
  rw [(okB_iff _ _).2 hy] at O2
  have O2 := fun W => Lib.hid (O2 W)
  have B1 := fun W => Lib.hid (bits_any n x W h0 h1 (by omega))
  have B2 := fun W => Lib.hid (bits_any n y W h0 h1 (by omega))
  have HS1 := Lib.hid (fun (W : World) (g : Nat) (h : Cells W g n x) => top_cell W g n x h0 h)
  have HS2 := Lib.hid (fun (W : World) (g : Nat) (h : Cells W g n y) => top_cell W g n y h0 h)
  have PL := fun W => Lib.hid (places_any y W)
  have hz := shr_is n x y hx
  have hm : min y 64 ≤ 64 := Nat.min_le_right _ _
  have HN := Lib.hid (fun (g cap : Nat) (W : World) (hw : Cells W g n (opv 12 n x y)) => number_any n (opv 12 n x y) g 0 cap W h1 (fun j hj => by rw [Nat.zero_add]; exact hw j hj))
  rw [opv_md 12 n x y] at HN
  generalize min y 64 = m at *
  have SH := Lib.hid (show ∀ (W : World) (g cap : Nat), Cells W g n x → Calls Try.prog 31 #[.slice (some ⟨g, 0, none⟩) n cap, .int .i64 ((m : Int)), .int .i64 0] W (Gives n (opv 12 n x y) W) from fun W g cap h => shift_any n x (opv 12 n x y) 0 g cap ((m : Int)) W h0 h1 (by omega) (by omega) h hz)
  clear hz
  generalize opv 12 n x y = X at *
  generalize bt x (n - 1) = s at *
  generalize bt y (n - 1) = t at *
  clear hx hy px
  go_enter Try.func8, Try.ntmps8
  go_wp2_with (first
    | (go_at_call 24; (with_reducible refine ((V1 _).out).mono ?_); rintro e w' ⟨rfl, rfl⟩)
    | (go_at_call 14; (with_reducible refine ((O1 _).out).mono ?_); rintro e w' ⟨rfl, rfl⟩)
    | (go_at_call 14; (with_reducible refine ((O2 _).out).mono ?_); rintro e w' ⟨rfl, rfl⟩)
    | (go_at_call 26; (with_reducible refine ((B1 _).out).mono ?_); rintro e w1 ⟨g1, cap1, rfl, hat, hb1⟩; have HA1 := Lib.hid hat; have HB1 := Lib.hid hb1; clear hat hb1)
    | (go_at_call 26; (with_reducible refine ((B2 _).out).mono ?_); rintro e w2 ⟨g2, cap2, rfl, hat, hb2⟩; have HA2 := Lib.hid hat; have HB2 := Lib.hid hb2; have HC1 := Lib.hid (HA1.out.cells.kept hb2); have HC2 := Lib.hid hat.cells; have hs1 := HS1.out _ _ HC1.out; have hs2 := HS2.out _ _ HC2.out; clear hat hb2)
    | (go_at_call 32; (with_reducible refine ((PL _).out).mono ?_); rintro e w' ⟨rfl, rfl⟩)
    | (go_at_call 31; (with_reducible refine (SH.out _ _ _ HC1.out).mono ?_); rintro e w3 ⟨g3, cap3, rfl, hat, hb3⟩; have HA3 := Lib.hid hat; have HB3 := Lib.hid hb3; clear hat hb3)
    | (go_at_call 29; (with_reducible refine (HN.out _ _ _ HA3.out.cells).mono ?_); rintro e w' ⟨rfl, rfl⟩))
  go_ret2
  exact ⟨rfl, thenBel (thenBel (HB1.out) HB2.out) HB3.out⟩

theorem refBinary_13 (n x y : Nat) (w : World) (h0 : 1 ≤ n) (h1 : n ≤ 64) (hx : x < 2 ^ n) (hy : y < 2 ^ n) :
    Calls Try.prog 8 #[.int .u8 13, .int .i64 n, .int .u64 x, .int .u64 y] w fun e w' => e = .returned (.tuple #[.int .u64 (opv 13 n x y : Nat), .int .i64 0]) ∧ Below w.heap.size w w' := by
  have px := pow_le n (by omega)
  have V1 := fun W => Lib.hid (wide_yes n W (by omega) (by omega))
  have O1 := fun W => refOk_yes n x W h0 h1 (by omega)
  rw [(okB_iff _ _).2 hx] at O1
  have O1 := fun W => Lib.hid (O1 W)
  have O2 := fun W => refOk_yes n y W h0 h1 (by omega)
  rw [(okB_iff _ _).2 hy] at O2
  have O2 := fun W => Lib.hid (O2 W)
  have B1 := fun W => Lib.hid (bits_any n x W h0 h1 (by omega))
  have B2 := fun W => Lib.hid (bits_any n y W h0 h1 (by omega))
  have HS1 := Lib.hid (fun (W : World) (g : Nat) (h : Cells W g n x) => top_cell W g n x h0 h)
  have HS2 := Lib.hid (fun (W : World) (g : Nat) (h : Cells W g n y) => top_cell W g n y h0 h)
  have PL := fun W => Lib.hid (places_any y W)
  have hz := sar_is n x y h0 h1 hx
  have hm : min y 64 ≤ 64 := Nat.min_le_right _ _
  have HN := Lib.hid (fun (g cap : Nat) (W : World) (hw : Cells W g n (opv 13 n x y)) => number_any n (opv 13 n x y) g 0 cap W h1 (fun j hj => by rw [Nat.zero_add]; exact hw j hj))
  rw [opv_md 13 n x y] at HN
  generalize min y 64 = m at *
  have SH := Lib.hid (show ∀ (W : World) (g cap : Nat), Cells W g n x → Calls Try.prog 31 #[.slice (some ⟨g, 0, none⟩) n cap, .int .i64 ((m : Int)), .int .i64 (bt x (n - 1) : Nat)] W (Gives n (opv 13 n x y) W) from fun W g cap h => shift_any n x (opv 13 n x y) (bt x (n - 1)) g cap ((m : Int)) W h0 h1 (by omega) (by omega) h hz)
  clear hz
  generalize opv 13 n x y = X at *
  generalize bt x (n - 1) = s at *
  generalize bt y (n - 1) = t at *
  clear hx hy px
  go_enter Try.func8, Try.ntmps8
  go_wp2_with (first
    | (go_at_call 24; (with_reducible refine ((V1 _).out).mono ?_); rintro e w' ⟨rfl, rfl⟩)
    | (go_at_call 14; (with_reducible refine ((O1 _).out).mono ?_); rintro e w' ⟨rfl, rfl⟩)
    | (go_at_call 14; (with_reducible refine ((O2 _).out).mono ?_); rintro e w' ⟨rfl, rfl⟩)
    | (go_at_call 26; (with_reducible refine ((B1 _).out).mono ?_); rintro e w1 ⟨g1, cap1, rfl, hat, hb1⟩; have HA1 := Lib.hid hat; have HB1 := Lib.hid hb1; clear hat hb1)
    | (go_at_call 26; (with_reducible refine ((B2 _).out).mono ?_); rintro e w2 ⟨g2, cap2, rfl, hat, hb2⟩; have HA2 := Lib.hid hat; have HB2 := Lib.hid hb2; have HC1 := Lib.hid (HA1.out.cells.kept hb2); have HC2 := Lib.hid hat.cells; have hs1 := HS1.out _ _ HC1.out; have hs2 := HS2.out _ _ HC2.out; clear hat hb2)
    | (go_at_call 32; (with_reducible refine ((PL _).out).mono ?_); rintro e w' ⟨rfl, rfl⟩)
    | (go_at_call 31; (with_reducible refine (SH.out _ _ _ HC1.out).mono ?_); rintro e w3 ⟨g3, cap3, rfl, hat, hb3⟩; have HA3 := Lib.hid hat; have HB3 := Lib.hid hb3; clear hat hb3)
    | (go_at_call 29; (with_reducible refine (HN.out _ _ _ HA3.out.cells).mono ?_); rintro e w' ⟨rfl, rfl⟩))
  go_ret2
  exact ⟨rfl, thenBel (thenBel (HB1.out) HB2.out) HB3.out⟩

theorem refBinary_14 (n x y : Nat) (w : World) (h0 : 1 ≤ n) (h1 : n ≤ 64) (hx : x < 2 ^ n) (hy : y < 2 ^ n) :
    Calls Try.prog 8 #[.int .u8 14, .int .i64 n, .int .u64 x, .int .u64 y] w fun e w' => e = .returned (.tuple #[.int .u64 (opv 14 n x y : Nat), .int .i64 0]) ∧ Below w.heap.size w w' := by
  have px := pow_le n (by omega)
  have V1 := fun W => Lib.hid (wide_yes n W (by omega) (by omega))
  have O1 := fun W => refOk_yes n x W h0 h1 (by omega)
  rw [(okB_iff _ _).2 hx] at O1
  have O1 := fun W => Lib.hid (O1 W)
  have O2 := fun W => refOk_yes n y W h0 h1 (by omega)
  rw [(okB_iff _ _).2 hy] at O2
  have O2 := fun W => Lib.hid (O2 W)
  have B1 := fun W => Lib.hid (bits_any n x W h0 h1 (by omega))
  have B2 := fun W => Lib.hid (bits_any n y W h0 h1 (by omega))
  have HS1 := Lib.hid (fun (W : World) (g : Nat) (h : Cells W g n x) => top_cell W g n x h0 h)
  have HS2 := Lib.hid (fun (W : World) (g : Nat) (h : Cells W g n y) => top_cell W g n y h0 h)
  have HD := Lib.hid (fun (W : World) (g cap g' cap' : Nat) (hc : n ≤ cap) (h : Cells W g n x) (h' : BitsAt W 0 g' n cap' y) => divide_any n x y g cap g' cap' W h0 h1 hc hx hy h h')
  have HN := Lib.hid (fun (g cap : Nat) (W : World) (hw : Cells W g n (opv 14 n x y)) => number_any n (opv 14 n x y) g 0 cap W h1 (fun j hj => by rw [Nat.zero_add]; exact hw j hj))
  rw [opv_md 14 n x y] at HN
  generalize opv 14 n x y = Q at *
  generalize opv 15 n x y = R at *
  generalize bt x (n - 1) = s at *
  generalize bt y (n - 1) = t at *
  clear hx hy px
  go_enter Try.func8, Try.ntmps8
  go_wp2_with (first
    | (go_at_call 24; (with_reducible refine ((V1 _).out).mono ?_); rintro e w' ⟨rfl, rfl⟩)
    | (go_at_call 14; (with_reducible refine ((O1 _).out).mono ?_); rintro e w' ⟨rfl, rfl⟩)
    | (go_at_call 14; (with_reducible refine ((O2 _).out).mono ?_); rintro e w' ⟨rfl, rfl⟩)
    | (go_at_call 26; (with_reducible refine ((B1 _).out).mono ?_); rintro e w1 ⟨g1, cap1, rfl, hat, hb1⟩; have HA1 := Lib.hid hat; have HB1 := Lib.hid hb1; clear hat hb1)
    | (go_at_call 26; (with_reducible refine ((B2 _).out).mono ?_); rintro e w2 ⟨g2, cap2, rfl, hat, hb2⟩; have HA2 := Lib.hid hat; have HB2 := Lib.hid hb2; have HC1 := Lib.hid (HA1.out.cells.kept hb2); have HC2 := Lib.hid hat.cells; have hs1 := HS1.out _ _ HC1.out; have hs2 := HS2.out _ _ HC2.out; clear hat hb2)
    | (go_at_call 33; (with_reducible refine (HD.out _ _ _ _ _ HA1.out.cap.1 HC1.out (HA2.out.mono (Nat.zero_le _))).mono ?_); rintro e w3 ⟨g3, cap3, g4, cap4, rfl, hq, hr, hb3⟩; have HA3 := Lib.hid hq; have HB3 := Lib.hid hb3; clear hq hr hb3)
    | (go_at_call 29; (with_reducible refine (HN.out _ _ _ HA3.out).mono ?_); rintro e w' ⟨rfl, rfl⟩))
  go_ret2
  exact ⟨rfl, thenBel (thenBel (HB1.out) HB2.out) HB3.out⟩

theorem refBinary_15 (n x y : Nat) (w : World) (h0 : 1 ≤ n) (h1 : n ≤ 64) (hx : x < 2 ^ n) (hy : y < 2 ^ n) :
    Calls Try.prog 8 #[.int .u8 15, .int .i64 n, .int .u64 x, .int .u64 y] w fun e w' => e = .returned (.tuple #[.int .u64 (opv 15 n x y : Nat), .int .i64 0]) ∧ Below w.heap.size w w' := by
  have px := pow_le n (by omega)
  have V1 := fun W => Lib.hid (wide_yes n W (by omega) (by omega))
  have O1 := fun W => refOk_yes n x W h0 h1 (by omega)
  rw [(okB_iff _ _).2 hx] at O1
  have O1 := fun W => Lib.hid (O1 W)
  have O2 := fun W => refOk_yes n y W h0 h1 (by omega)
  rw [(okB_iff _ _).2 hy] at O2
  have O2 := fun W => Lib.hid (O2 W)
  have B1 := fun W => Lib.hid (bits_any n x W h0 h1 (by omega))
  have B2 := fun W => Lib.hid (bits_any n y W h0 h1 (by omega))
  have HS1 := Lib.hid (fun (W : World) (g : Nat) (h : Cells W g n x) => top_cell W g n x h0 h)
  have HS2 := Lib.hid (fun (W : World) (g : Nat) (h : Cells W g n y) => top_cell W g n y h0 h)
  have HD := Lib.hid (fun (W : World) (g cap g' cap' : Nat) (hc : n ≤ cap) (h : Cells W g n x) (h' : BitsAt W 0 g' n cap' y) => divide_any n x y g cap g' cap' W h0 h1 hc hx hy h h')
  have HN := Lib.hid (fun (g cap : Nat) (W : World) (hw : Cells W g n (opv 15 n x y)) => number_any n (opv 15 n x y) g 0 cap W h1 (fun j hj => by rw [Nat.zero_add]; exact hw j hj))
  rw [opv_md 15 n x y] at HN
  generalize opv 14 n x y = Q at *
  generalize opv 15 n x y = R at *
  generalize bt x (n - 1) = s at *
  generalize bt y (n - 1) = t at *
  clear hx hy px
  go_enter Try.func8, Try.ntmps8
  go_wp2_with (first
    | (go_at_call 24; (with_reducible refine ((V1 _).out).mono ?_); rintro e w' ⟨rfl, rfl⟩)
    | (go_at_call 14; (with_reducible refine ((O1 _).out).mono ?_); rintro e w' ⟨rfl, rfl⟩)
    | (go_at_call 14; (with_reducible refine ((O2 _).out).mono ?_); rintro e w' ⟨rfl, rfl⟩)
    | (go_at_call 26; (with_reducible refine ((B1 _).out).mono ?_); rintro e w1 ⟨g1, cap1, rfl, hat, hb1⟩; have HA1 := Lib.hid hat; have HB1 := Lib.hid hb1; clear hat hb1)
    | (go_at_call 26; (with_reducible refine ((B2 _).out).mono ?_); rintro e w2 ⟨g2, cap2, rfl, hat, hb2⟩; have HA2 := Lib.hid hat; have HB2 := Lib.hid hb2; have HC1 := Lib.hid (HA1.out.cells.kept hb2); have HC2 := Lib.hid hat.cells; have hs1 := HS1.out _ _ HC1.out; have hs2 := HS2.out _ _ HC2.out; clear hat hb2)
    | (go_at_call 33; (with_reducible refine (HD.out _ _ _ _ _ HA1.out.cap.1 HC1.out (HA2.out.mono (Nat.zero_le _))).mono ?_); rintro e w3 ⟨g3, cap3, g4, cap4, rfl, hq, hr, hb3⟩; have HA3 := Lib.hid hr; have HB3 := Lib.hid hb3; clear hq hr hb3)
    | (go_at_call 29; (with_reducible refine (HN.out _ _ _ HA3.out).mono ?_); rintro e w' ⟨rfl, rfl⟩))
  go_ret2
  exact ⟨rfl, thenBel (thenBel (HB1.out) HB2.out) HB3.out⟩

theorem refBinary_16 (n x y : Nat) (w : World) (h0 : 1 ≤ n) (h1 : n ≤ 64) (hx : x < 2 ^ n) (hy : y < 2 ^ n) :
    Calls Try.prog 8 #[.int .u8 16, .int .i64 n, .int .u64 x, .int .u64 y] w fun e w' => e = .returned (.tuple #[.int .u64 (opv 16 n x y : Nat), .int .i64 0]) ∧ Below w.heap.size w w' := by
  have px := pow_le n (by omega)
  have V1 := fun W => Lib.hid (wide_yes n W (by omega) (by omega))
  have O1 := fun W => refOk_yes n x W h0 h1 (by omega)
  rw [(okB_iff _ _).2 hx] at O1
  have O1 := fun W => Lib.hid (O1 W)
  have O2 := fun W => refOk_yes n y W h0 h1 (by omega)
  rw [(okB_iff _ _).2 hy] at O2
  have O2 := fun W => Lib.hid (O2 W)
  have B1 := fun W => Lib.hid (bits_any n x W h0 h1 (by omega))
  have B2 := fun W => Lib.hid (bits_any n y W h0 h1 (by omega))
  have HS1 := Lib.hid (fun (W : World) (g : Nat) (h : Cells W g n x) => top_cell W g n x h0 h)
  have HS2 := Lib.hid (fun (W : World) (g : Nat) (h : Cells W g n y) => top_cell W g n y h0 h)
  rw [eq_val n x y h0]
  have TR := fun W => Lib.hid (truth_any ((x : Int) == (y : Int)) W)
  generalize bitN ((x : Int) == (y : Int)) = X at *
  generalize bt x (n - 1) = s at *
  generalize bt y (n - 1) = t at *
  clear hx hy px
  go_enter Try.func8, Try.ntmps8
  go_wp2_with (first
    | (go_at_call 24; (with_reducible refine ((V1 _).out).mono ?_); rintro e w' ⟨rfl, rfl⟩)
    | (go_at_call 14; (with_reducible refine ((O1 _).out).mono ?_); rintro e w' ⟨rfl, rfl⟩)
    | (go_at_call 14; (with_reducible refine ((O2 _).out).mono ?_); rintro e w' ⟨rfl, rfl⟩)
    | (go_at_call 26; (with_reducible refine ((B1 _).out).mono ?_); rintro e w1 ⟨g1, cap1, rfl, hat, hb1⟩; have HA1 := Lib.hid hat; have HB1 := Lib.hid hb1; clear hat hb1)
    | (go_at_call 26; (with_reducible refine ((B2 _).out).mono ?_); rintro e w2 ⟨g2, cap2, rfl, hat, hb2⟩; have HA2 := Lib.hid hat; have HB2 := Lib.hid hb2; have HC1 := Lib.hid (HA1.out.cells.kept hb2); have HC2 := Lib.hid hat.cells; have hs1 := HS1.out _ _ HC1.out; have hs2 := HS2.out _ _ HC2.out; clear hat hb2)
    | (go_at_call 34; (with_reducible refine ((TR _).out).mono ?_); rintro e w' ⟨rfl, rfl⟩))
  go_ret2
  exact ⟨rfl, thenBel (HB1.out) HB2.out⟩

theorem refBinary_17 (n x y : Nat) (w : World) (h0 : 1 ≤ n) (h1 : n ≤ 64) (hx : x < 2 ^ n) (hy : y < 2 ^ n) :
    Calls Try.prog 8 #[.int .u8 17, .int .i64 n, .int .u64 x, .int .u64 y] w fun e w' => e = .returned (.tuple #[.int .u64 (opv 17 n x y : Nat), .int .i64 0]) ∧ Below w.heap.size w w' := by
  have px := pow_le n (by omega)
  have V1 := fun W => Lib.hid (wide_yes n W (by omega) (by omega))
  have O1 := fun W => refOk_yes n x W h0 h1 (by omega)
  rw [(okB_iff _ _).2 hx] at O1
  have O1 := fun W => Lib.hid (O1 W)
  have O2 := fun W => refOk_yes n y W h0 h1 (by omega)
  rw [(okB_iff _ _).2 hy] at O2
  have O2 := fun W => Lib.hid (O2 W)
  have B1 := fun W => Lib.hid (bits_any n x W h0 h1 (by omega))
  have B2 := fun W => Lib.hid (bits_any n y W h0 h1 (by omega))
  have HS1 := Lib.hid (fun (W : World) (g : Nat) (h : Cells W g n x) => top_cell W g n x h0 h)
  have HS2 := Lib.hid (fun (W : World) (g : Nat) (h : Cells W g n y) => top_cell W g n y h0 h)
  rw [ult_val n x y h0 hx hy]
  have HL := Lib.hid (fun (W : World) (g cap g' cap' : Nat) (h : Cells W g n x) (h' : Cells W g' n y) => less_any n x y g cap g' cap' n W (by omega) (Nat.le_refl _) h h')
  have TR := fun p W => Lib.hid (truth_any p W)
  generalize ltB n x y = p at *
  generalize bt x (n - 1) = s at *
  generalize bt y (n - 1) = t at *
  clear hx hy px
  go_enter Try.func8, Try.ntmps8
  go_wp2_with (first
    | (go_at_call 24; (with_reducible refine ((V1 _).out).mono ?_); rintro e w' ⟨rfl, rfl⟩)
    | (go_at_call 14; (with_reducible refine ((O1 _).out).mono ?_); rintro e w' ⟨rfl, rfl⟩)
    | (go_at_call 14; (with_reducible refine ((O2 _).out).mono ?_); rintro e w' ⟨rfl, rfl⟩)
    | (go_at_call 26; (with_reducible refine ((B1 _).out).mono ?_); rintro e w1 ⟨g1, cap1, rfl, hat, hb1⟩; have HA1 := Lib.hid hat; have HB1 := Lib.hid hb1; clear hat hb1)
    | (go_at_call 26; (with_reducible refine ((B2 _).out).mono ?_); rintro e w2 ⟨g2, cap2, rfl, hat, hb2⟩; have HA2 := Lib.hid hat; have HB2 := Lib.hid hb2; have HC1 := Lib.hid (HA1.out.cells.kept hb2); have HC2 := Lib.hid hat.cells; have hs1 := HS1.out _ _ HC1.out; have hs2 := HS2.out _ _ HC2.out; clear hat hb2)
    | (go_at_call 35; (with_reducible refine (HL.out _ _ _ _ _ HC1.out HC2.out).mono ?_); rintro e w3 ⟨rfl, hb3⟩; have HB3 := Lib.hid hb3; clear hb3)
    | (go_at_call 34; (with_reducible refine ((TR _ _).out).mono ?_); rintro e w' ⟨rfl, rfl⟩))
  go_ret2
  exact ⟨rfl, thenBel (thenBel (HB1.out) HB2.out) HB3.out⟩

theorem refBinary_18 (n x y : Nat) (w : World) (h0 : 1 ≤ n) (h1 : n ≤ 64) (hx : x < 2 ^ n) (hy : y < 2 ^ n) :
    Calls Try.prog 8 #[.int .u8 18, .int .i64 n, .int .u64 x, .int .u64 y] w fun e w' => e = .returned (.tuple #[.int .u64 (opv 18 n x y : Nat), .int .i64 0]) ∧ Below w.heap.size w w' := by
  have px := pow_le n (by omega)
  have V1 := fun W => Lib.hid (wide_yes n W (by omega) (by omega))
  have O1 := fun W => refOk_yes n x W h0 h1 (by omega)
  rw [(okB_iff _ _).2 hx] at O1
  have O1 := fun W => Lib.hid (O1 W)
  have O2 := fun W => refOk_yes n y W h0 h1 (by omega)
  rw [(okB_iff _ _).2 hy] at O2
  have O2 := fun W => Lib.hid (O2 W)
  have B1 := fun W => Lib.hid (bits_any n x W h0 h1 (by omega))
  have B2 := fun W => Lib.hid (bits_any n y W h0 h1 (by omega))
  have HS1 := Lib.hid (fun (W : World) (g : Nat) (h : Cells W g n x) => top_cell W g n x h0 h)
  have HS2 := Lib.hid (fun (W : World) (g : Nat) (h : Cells W g n y) => top_cell W g n y h0 h)
  rw [slt_val n x y h0 hx hy]
  have HL := Lib.hid (fun (W : World) (g cap g' cap' : Nat) (h : Cells W g n x) (h' : Cells W g' n y) => less_any n x y g cap g' cap' n W (by omega) (Nat.le_refl _) h h')
  have TR := fun p W => Lib.hid (truth_any p W)
  generalize ltB n x y = p at *
  have c1 := bt_cases x (n - 1)
  have c2 := bt_cases y (n - 1)
  generalize bt x (n - 1) = s at *
  generalize bt y (n - 1) = t at *
  clear hx hy px
  by_cases hst : s = t
  · rw [if_pos hst]
    have tne : ((s : Int) != (t : Int)) = false := by simp; omega
    clear c1 c2 hst
    go_enter Try.func8, Try.ntmps8
    go_wp2_with (first
      | (go_at_call 24; (with_reducible refine ((V1 _).out).mono ?_); rintro e w' ⟨rfl, rfl⟩)
      | (go_at_call 14; (with_reducible refine ((O1 _).out).mono ?_); rintro e w' ⟨rfl, rfl⟩)
      | (go_at_call 14; (with_reducible refine ((O2 _).out).mono ?_); rintro e w' ⟨rfl, rfl⟩)
      | (go_at_call 26; (with_reducible refine ((B1 _).out).mono ?_); rintro e w1 ⟨g1, cap1, rfl, hat, hb1⟩; have HA1 := Lib.hid hat; have HB1 := Lib.hid hb1; clear hat hb1)
      | (go_at_call 26; (with_reducible refine ((B2 _).out).mono ?_); rintro e w2 ⟨g2, cap2, rfl, hat, hb2⟩; have HA2 := Lib.hid hat; have HB2 := Lib.hid hb2; have HC1 := Lib.hid (HA1.out.cells.kept hb2); have HC2 := Lib.hid hat.cells; have hs1 := HS1.out _ _ HC1.out; have hs2 := HS2.out _ _ HC2.out; clear hat hb2)
      | (go_at_call 35; (with_reducible refine (HL.out _ _ _ _ _ HC1.out HC2.out).mono ?_); rintro e w3 ⟨rfl, hb3⟩; have HB3 := Lib.hid hb3; clear hb3)
      | (go_at_call 34; (with_reducible refine ((TR _ _).out).mono ?_); rintro e w' ⟨rfl, rfl⟩))
    go_ret2
    exact ⟨rfl, thenBel (thenBel (HB1.out) HB2.out) HB3.out⟩
  · rw [if_neg hst]
    have tne : ((s : Int) != (t : Int)) = true := by simp; omega
    clear c1 c2 hst
    go_enter Try.func8, Try.ntmps8
    go_wp2_with (first
      | (go_at_call 24; (with_reducible refine ((V1 _).out).mono ?_); rintro e w' ⟨rfl, rfl⟩)
      | (go_at_call 14; (with_reducible refine ((O1 _).out).mono ?_); rintro e w' ⟨rfl, rfl⟩)
      | (go_at_call 14; (with_reducible refine ((O2 _).out).mono ?_); rintro e w' ⟨rfl, rfl⟩)
      | (go_at_call 26; (with_reducible refine ((B1 _).out).mono ?_); rintro e w1 ⟨g1, cap1, rfl, hat, hb1⟩; have HA1 := Lib.hid hat; have HB1 := Lib.hid hb1; clear hat hb1)
      | (go_at_call 26; (with_reducible refine ((B2 _).out).mono ?_); rintro e w2 ⟨g2, cap2, rfl, hat, hb2⟩; have HA2 := Lib.hid hat; have HB2 := Lib.hid hb2; have HC1 := Lib.hid (HA1.out.cells.kept hb2); have HC2 := Lib.hid hat.cells; have hs1 := HS1.out _ _ HC1.out; have hs2 := HS2.out _ _ HC2.out; clear hat hb2)
      | (go_at_call 34; (with_reducible refine ((TR _ _).out).mono ?_); rintro e w' ⟨rfl, rfl⟩))
    go_ret2
    exact ⟨rfl, thenBel (HB1.out) HB2.out⟩
end Go.Proofs.Ytdllophjfiebiaa
