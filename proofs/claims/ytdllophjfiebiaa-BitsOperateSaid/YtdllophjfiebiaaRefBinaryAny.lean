/- Contract of the reference's Binary, for all arguments. -/
import Derived.Test.YtdllophjfiebiaaRefBinaryBits
namespace Go.Proofs.Ytdllophjfiebiaa
open Go.RowKit Go.Sort
set_option linter.unusedVariables false
set_option linter.unusedSimpArgs false
set_option maxRecDepth 8000

theorem refBinary_ok (k n x y : Nat) (w : World) (h0 : 1 ≤ n) (h1 : n ≤ 64) (hk0 : 5 ≤ k) (hk1 : k ≤ 18) (hx : x < 2 ^ n) (hy : y < 2 ^ n) :
    Calls Try.prog 8 #[.int .u8 k, .int .i64 n, .int .u64 x, .int .u64 y] w fun e w' => e = .returned (.tuple #[.int .u64 (opv k n x y : Nat), .int .i64 0]) ∧ Below w.heap.size w w' := by
  have hk : k = 5 ∨ k = 6 ∨ k = 7 ∨ k = 8 ∨ k = 9 ∨ k = 10 ∨ k = 11 ∨ k = 12 ∨ k = 13 ∨ k = 14 ∨ k = 15 ∨ k = 16 ∨ k = 17 ∨ k = 18 := by omega
  clear hk0 hk1
  rcases hk with rfl | rfl | rfl | rfl | rfl | rfl | rfl | rfl | rfl | rfl | rfl | rfl | rfl | rfl
  · exact refBinary_5 n x y w h0 h1 hx hy
  · exact refBinary_6 n x y w h0 h1 hx hy
  · exact refBinary_7 n x y w h0 h1 hx hy
  · exact refBinary_8 n x y w h0 h1 hx hy
  · exact refBinary_9 n x y w h0 h1 hx hy
  · exact refBinary_10 n x y w h0 h1 hx hy
  · exact refBinary_11 n x y w h0 h1 hx hy
  · exact refBinary_12 n x y w h0 h1 hx hy
  · exact refBinary_13 n x y w h0 h1 hx hy
  · exact refBinary_14 n x y w h0 h1 hx hy
  · exact refBinary_15 n x y w h0 h1 hx hy
  · exact refBinary_16 n x y w h0 h1 hx hy
  · exact refBinary_17 n x y w h0 h1 hx hy
  · exact refBinary_18 n x y w h0 h1 hx hy

theorem refBinary_any (k x y : Nat) (n : Int) (w : World) (hx64 : x < 18446744073709551616) (hy64 : y < 18446744073709551616) :
    Calls Try.prog 8 #[.int .u8 k, .int .i64 n, .int .u64 x, .int .u64 y] w fun e w' => e = .returned (.tuple #[.int .u64 (opR 5 18 k n x y).1, .int .i64 (opR 5 18 k n x y).2]) ∧ Below w.heap.size w w' := by
  by_cases h : n < 1 ∨ 64 < n
  · rw [show opR 5 18 k n x y = (0, 14) by unfold opR; rw [if_pos h]]
    have V1 := fun W => Lib.hid (wide_no n W h)
    clear h hx64 hy64
    go_enter Try.func8, Try.ntmps8
    go_wp2_with (first
      | (go_at_call 24; (with_reducible refine (V1 _).out.mono ?_); rintro e w' ⟨rfl, rfl⟩))
    go_ret2
    exact ⟨rfl, Below.refl _ _⟩
  · obtain ⟨n, rfl⟩ : ∃ m : Nat, n = m := ⟨n.toNat, by omega⟩
    have h0 : 1 ≤ n := by omega
    have h1 : n ≤ 64 := by omega
    have V1 := fun W => Lib.hid (wide_yes n W (by omega) (by omega))
    by_cases hk : k < 5 ∨ 18 < k
    · rw [show opR 5 18 k n x y = (0, 2) by unfold opR; rw [if_neg h, if_pos hk]]
      by_cases hk5 : k < 5
      · have t1 : decide ((k : Int) < 5) = true := by simp; omega
        have t1' : (k : Int) < 5 := by omega
        clear h hk hx64 hy64
        go_enter Try.func8, Try.ntmps8
        go_wp2_with (first
          | (go_at_call 24; (with_reducible refine (V1 _).out.mono ?_); rintro e w' ⟨rfl, rfl⟩))
        go_ret2
        exact ⟨rfl, Below.refl _ _⟩
      · have t1 : decide ((k : Int) < 5) = false := by simp; omega
        have t2 : decide ((18 : Int) < (k : Int)) = true := by simp; omega
        clear h hk hx64 hy64
        go_enter Try.func8, Try.ntmps8
        go_wp2_with (first
          | (go_at_call 24; (with_reducible refine (V1 _).out.mono ?_); rintro e w' ⟨rfl, rfl⟩))
        go_ret2
        exact ⟨rfl, Below.refl _ _⟩
    · by_cases hx : x < 2 ^ n
      · by_cases hy : y < 2 ^ n
        · rw [show opR 5 18 k n x y = (opv k n x y, 0) by unfold opR; rw [if_neg h, if_neg hk, Int.toNat_natCast, if_neg (chk2_zero n x y hx hy)]]
          exact refBinary_ok k n x y w h0 h1 (by omega) (by omega) hx hy
        · have k2 : okB n y = false := by simp [okB]; omega
          rw [show opR 5 18 k n x y = (0, 8) by unfold opR; rw [if_neg h, if_neg hk, Int.toNat_natCast, if_pos (by unfold chk2; rw [k2]; simp)]]
          have O1 := fun W => refOk_yes n x W h0 h1 hx64
          rw [(okB_iff _ _).2 hx] at O1
          have O2 := fun W => refOk_yes n y W h0 h1 hy64
          rw [k2] at O2
          have O1 := fun W => Lib.hid (O1 W)
          have O2 := fun W => Lib.hid (O2 W)
          have t1 : decide ((k : Int) < 5) = false := by simp; omega
          have t2 : decide ((18 : Int) < (k : Int)) = false := by simp; omega
          clear h hk hx64 hy64 hx hy k2
          go_enter Try.func8, Try.ntmps8
          go_wp2_with (first
            | (go_at_call 24; (with_reducible refine (V1 _).out.mono ?_); rintro e w' ⟨rfl, rfl⟩)
            | (go_at_call 14; (with_reducible refine (O1 _).out.mono ?_); rintro e w' ⟨rfl, rfl⟩)
            | (go_at_call 14; (with_reducible refine (O2 _).out.mono ?_); rintro e w' ⟨rfl, rfl⟩))
          go_ret2
          exact ⟨rfl, Below.refl _ _⟩
      · have k1 : okB n x = false := by simp [okB]; omega
        rw [show opR 5 18 k n x y = (0, 8) by unfold opR; rw [if_neg h, if_neg hk, Int.toNat_natCast, if_pos (by unfold chk2; rw [k1]; simp)]]
        have O1 := fun W => refOk_yes n x W h0 h1 hx64
        rw [k1] at O1
        have O1 := fun W => Lib.hid (O1 W)
        have t1 : decide ((k : Int) < 5) = false := by simp; omega
        have t2 : decide ((18 : Int) < (k : Int)) = false := by simp; omega
        clear h hk hx64 hy64 hx k1
        go_enter Try.func8, Try.ntmps8
        go_wp2_with (first
          | (go_at_call 24; (with_reducible refine (V1 _).out.mono ?_); rintro e w' ⟨rfl, rfl⟩)
          | (go_at_call 14; (with_reducible refine (O1 _).out.mono ?_); rintro e w' ⟨rfl, rfl⟩))
        go_ret2
        exact ⟨rfl, Below.refl _ _⟩
end Go.Proofs.Ytdllophjfiebiaa
