/- The reference's numbers of layer 9. -/
import Derived.Test.YtjbapjgagiaefaaFmtFit
namespace Go.Proofs.Ytjbapjgagiaefaa
open Go.RowKit Go.Instr Go.Sort
set_option linter.unusedVariables false
set_option linter.unusedSimpArgs false
set_option maxRecDepth 100000
set_option maxHeartbeats 1000000

theorem pow62 (i : Nat) (h : i ≤ 62) : 1 ≤ (2 : Int) ^ i ∧ (2 : Int) ^ i ≤ 4611686018427387904 := by
  have h1 := Nat.pow_le_pow_right (n := 2) (by omega) h
  have h2 := Nat.two_pow_pos i
  have h3 : 2 ^ i ≤ 4611686018427387904 := by simpa using h1
  have e := castPow i
  omega
theorem refPower_any (n : Nat) (hn : n ≤ 62) (w : World) :
    Calls Try.prog 49 #[.int .i64 n] w fun e w' => e = .returned (.int .i64 (2 ^ n)) ∧ w = w' := by
  go_enter Try.func49, Try.ntmps49
  go_wp2
  go_loop [3, 4] (fun p v => ∃ i : Nat, v = .int .i64 i ∧ i ≤ n ∧ p = .int .i64 (2 ^ i)) (fun _ v => n - (intOf v).toNat)
  case atStart => exact ⟨0, rfl, Nat.zero_le _, rfl⟩
  case round =>
    obtain ⟨i, rfl, hi, rfl⟩ := hrel
    by_cases hlt : i < n
    · have hp := pow62 (i + 1) (by omega)
      have he : (2 : Int) ^ (i + 1) = 2 * 2 ^ i := by rw [Int.pow_succ, Int.mul_comm]
      rw [he] at hp
      have HE := Lib.hid he
      obtain ⟨P, hP⟩ : ∃ P : Int, 2 ^ i = P := ⟨_, rfl⟩
      rw [hP] at HE hp ⊢
      obtain ⟨hp1, hp2⟩ := hp
      clear he hP
      go_wp2
      go_round
      case rel => exact ⟨i + 1, by first | rfl | go_num, by omega, by rw [HE.out]⟩
      case measure => simp [intOf]; omega
    · obtain rfl : i = n := by omega
      go_wp2
      go_ret
      exact ⟨rfl, rfl⟩
theorem refIn_any (n a b : Int) (w : World) :
    Calls Try.prog 46 #[.int .i64 n, .int .i64 a, .int .i64 b] w fun e w' => e = .returned (.bool (inB n a b)) ∧ w = w' := by
  have HR := Lib.hid (show inB n a b = decide (a ≤ n ∧ n ≤ b) from rfl)
  by_cases h : a ≤ n
  · go_enter Try.func46, Try.ntmps46
    go_wp2
    go_ret
    exact ⟨by rw [HR.out]; simp [h], rfl⟩
  · have h' : decide (a ≤ n) = false := by simpa using h
    go_enter Try.func46, Try.ntmps46
    go_wp2
    go_ret
    exact ⟨by rw [HR.out]; simp; intro q; omega, rfl⟩
theorem wrap_half (y : Nat) (h : y < 18446744073709551616) : IntKind.u64.wrap ((y : Int) / 2) = ((y / 2 : Nat) : Int) := by rw [IntKind.wrap_u64]; omega
theorem refBelow_any (x n : Nat) (hn : n ≤ 64) (hx : x < 18446744073709551616) (w : World) :
    Calls Try.prog 56 #[.int .u64 x, .int .i64 n] w fun e w' => e = .returned (.bool (okB n x)) ∧ w = w' := by
  have HX := Lib.hid hx
  clear hx
  go_enter Try.func56, Try.ntmps56
  go_wp2
  go_loop [0, 5] (fun p v => ∃ i : Nat, v = .int .i64 i ∧ i ≤ n ∧ ∃ y : Nat, p = .int .u64 y ∧ Hid (y = x / 2 ^ i)) (fun _ v => n - (intOf v).toNat)
  case atStart => exact ⟨0, rfl, Nat.zero_le _, x, rfl, Lib.hid (by simp)⟩
  case round =>
    obtain ⟨i, rfl, hi, y, rfl, HY⟩ := hrel
    by_cases hlt : i < n
    · have HW := Lib.hid (wrap_half y (by rw [HY.out]; exact Nat.lt_of_le_of_lt (Nat.div_le_self _ _) HX.out))
      go_wp2
      go_round
      case rel => exact ⟨i + 1, by first | rfl | go_num, by omega, y / 2, by first | rw [HW.out] | rfl | go_num, Lib.hid (by rw [HY.out, Nat.div_div_eq_div_mul, Nat.pow_succ])⟩
      case measure => simp [intOf]; omega
    · obtain rfl : i = n := by omega
      go_wp2
      go_ret
      refine ⟨?_, rfl⟩
      show Ending.returned (.bool _) = _
      congr 2
      have : y = 0 ↔ x < 2 ^ i := by rw [HY.out]; exact Nat.div_eq_zero_iff_lt (Nat.two_pow_pos i)
      unfold okB
      by_cases h : y = 0
      · simp [h, this.1 h]
      · have h2 : ¬ x < 2 ^ i := fun q => h (this.2 q)
        simp only [h2, decide_false]
        simp; omega
theorem refBelow9_any (x n : Nat) (hn : n ≤ 64) (hx : x < 18446744073709551616) (w : World) :
    Calls Try.prog 44 #[.int .u64 x, .int .i64 n] w fun e w' => e = .returned (.bool (okB n x)) ∧ w = w' := by
  have HB := Lib.hid (fun W => refBelow_any x n hn hx W)
  go_enter Try.func44, Try.ntmps44
  go_wp2_with (go_at_call 56; (with_reducible refine (HB.out _).mono ?_); rintro e w' ⟨rfl, rfl⟩)
  go_ret
  exact ⟨rfl, rfl⟩
theorem number_eq (k w s : Int) : decide (chkK k w s = 0) = ((k == 2 || k == 3 || k == 4) && inB w 1 32 && inB s 0 3) := by
  unfold chkK needR sgK
  cases h2 : k == 2 <;> cases h3 : k == 3 <;> cases h4 : k == 4 <;> cases inB w 1 32 <;> cases inB s 0 3 <;> rfl
theorem refNumber_any (k w s : Int) (wo : World) :
    Calls Try.prog 47 #[.int .u8 k, .int .i64 w, .int .i64 s] wo fun e w' => e = .returned (.bool (decide (chkK k w s = 0))) ∧ wo = w' := by
  have HR := Lib.hid (number_eq k w s)
  have H1 := Lib.hid (fun W => refIn_any w 1 32 W)
  have H2 := Lib.hid (fun W => refIn_any s 0 3 W)
  generalize inB w 1 32 = q1 at *
  generalize inB s 0 3 = q2 at *
  generalize decide (chkK k w s = 0) = q at *
  have hk : ((k == 2) = true) ∨ ((k == 2) = false ∧ (k == 3) = true) ∨ ((k == 2) = false ∧ (k == 3) = false ∧ (k == 4) = true) ∨ ((k == 2) = false ∧ (k == 3) = false ∧ (k == 4) = false) := by
    cases (k == 2) <;> cases (k == 3) <;> cases (k == 4) <;> simp
  rcases hk with h | ⟨h, h'⟩ | ⟨h, h', h''⟩ | ⟨h, h', h''⟩ <;> cases q1
  all_goals
    go_enter Try.func47, Try.ntmps47
    go_wp2_with (first
      | (go_at_call 46; (with_reducible refine (H1.out _).mono ?_); rintro e w' ⟨rfl, rfl⟩)
      | (go_at_call 46; (with_reducible refine (H2.out _).mono ?_); rintro e w' ⟨rfl, rfl⟩))
    go_ret
    exact ⟨by rw [HR.out]; simp [*], rfl⟩
theorem refEnds_any (k : Int) (m : Nat) (hk : sgK k = true ∨ k = 3) (h1 : 1 ≤ m) (h2 : m ≤ 32) (wo : World) :
    Calls Try.prog 48 #[.int .u8 k, .int .i64 m] wo fun e w' => e = .returned (.tuple #[.int .i64 (lowN (sgK k) m), .int .i64 (highN (sgK k) m)]) ∧ wo = w' := by
  have P1 := Lib.hid (fun W => refPower_any m (by omega) W)
  have P2 := Lib.hid (fun W => refPower_any (m - 1) (by omega) W)
  have b1 := pow32 m h2
  have b2 := pow32 (m - 1) (by omega)
  have A1 := Lib.hid (show lowN (sgK k) m = if sgK k = true then -2 ^ (m - 1) else 0 from rfl)
  have A2 := Lib.hid (show highN (sgK k) m = if sgK k = true then 2 ^ (m - 1) - 1 else 2 ^ m - 1 from rfl)
  have hm : ((m : Int) - 1) = ((m - 1 : Nat) : Int) := by omega
  have HM := Lib.hid hm
  clear hm
  generalize (2 : Int) ^ m = P at *
  generalize (2 : Int) ^ (m - 1) = H at *
  obtain ⟨b11, b12⟩ := b1
  obtain ⟨b21, b22⟩ := b2
  by_cases h3 : k = 3
  · subst h3
    rw [show sgK 3 = false from rfl] at A1 A2 ⊢
    clear hk
    go_enter Try.func48, Try.ntmps48
    go_wp2_with (go_at_call 49; (with_reducible refine (P1.out _).mono ?_); rintro e w' ⟨rfl, rfl⟩)
    go_ret2
    exact ⟨by rw [A1.out, A2.out]; rfl, rfl⟩
  · have hs : sgK k = true := by rcases hk with h | h; exact h; exact absurd h h3
    have h3' : (k == 3) = false := by simpa using h3
    rw [hs] at A1 A2 ⊢
    clear hk hs h3
    go_enter Try.func48, Try.ntmps48
    go_wp2_with (go_at_call 49; rw [HM.out]; (with_reducible refine (P2.out _).mono ?_); rintro e w' ⟨rfl, rfl⟩)
    go_ret2
    exact ⟨by rw [A1.out, A2.out]; rfl, rfl⟩
end Go.Proofs.Ytjbapjgagiaefaa
