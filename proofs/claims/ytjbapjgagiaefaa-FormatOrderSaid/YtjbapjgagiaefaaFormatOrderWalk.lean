/- The walk of FormatOrder. -/
import Derived.Test.YtjbapjgagiaefaaFormatBackWalk
namespace Go.Proofs.Ytjbapjgagiaefaa.formatOrder
open Go.RowKit Go.Instr Go.Sort Go.Proofs.Ytjbapjgagiaefaa.formatBack
set_option linter.unusedVariables false
set_option linter.unusedSimpArgs false
set_option maxRecDepth 100000
set_option maxHeartbeats 2000000

/-- The numbers in a field are the multiples from the least to the greatest. -/
theorem in_iff (g : Bool) (m t : Nat) (n : Int) (h3 : t ≤ 3) : numB g m t n = true ↔ lowN g m * 2 ^ t ≤ n ∧ n ≤ highN g m * 2 ^ t ∧ n.tmod (2 ^ t) = 0 := by
  rw [numB_iff]
  have hd : n.tmod (2 ^ t) = 0 ↔ n / 2 ^ t * 2 ^ t = n := by
    rw [← Int.dvd_iff_tmod_eq_zero]
    constructor
    · intro h; exact Int.ediv_mul_cancel h
    · intro h; exact ⟨n / 2 ^ t, by rw [Int.mul_comm]; exact h.symm⟩
  rw [hd]
  generalize lowN g m = lo at *
  generalize highN g m = hi at *
  rcases pow3 t h3 with h | h | h | h <;> rw [h] <;> omega
theorem mul_div (v : Int) (t : Nat) (h3 : t ≤ 3) : v * 2 ^ t / 2 ^ t = v := Int.mul_ediv_cancel _ (by rcases pow3 t h3 with h | h | h | h <;> rw [h] <;> decide)
theorem low_high (g : Bool) (m : Nat) (h1 : 1 ≤ m) : highN g m - lowN g m = 2 ^ m - 1 := by
  have hd := powDbl m h1
  unfold lowN highN
  cases g
  · simp
  · simp; omega
theorem dist (g : Bool) (m t : Nat) (h1 : 1 ≤ m) (h3 : t ≤ 3) : (highN g m * 2 ^ t - lowN g m * 2 ^ t) / 2 ^ t = 2 ^ m - 1 := by
  rw [← Int.sub_mul, low_high g m h1, mul_div _ t h3]
theorem in_low (g : Bool) (m t : Nat) (h1 : 1 ≤ m) (h2 : m ≤ 32) (h3 : t ≤ 3) : numB g m t (lowN g m * 2 ^ t) = true := by
  have := low_bd g m h1 h2; have := high_bd g m h1 h2
  refine numB_iff.2 ⟨by rw [mul_div _ t h3], ?_, ?_⟩ <;> rw [mul_div _ t h3] <;> omega
theorem in_high (g : Bool) (m t : Nat) (h1 : 1 ≤ m) (h2 : m ≤ 32) (h3 : t ≤ 3) : numB g m t (highN g m * 2 ^ t) = true := by
  have := low_bd g m h1 h2; have := high_bd g m h1 h2
  refine numB_iff.2 ⟨by rw [mul_div _ t h3], ?_, ?_⟩ <;> rw [mul_div _ t h3] <;> omega
/-- The successor. -/
theorem next (g : Bool) (m t : Nat) (n : Int) (h1 : 1 ≤ m) (h2 : m ≤ 32) (h3 : t ≤ 3) (h : numB g m t n = true) (hl : n ≤ highN g m * 2 ^ t - 2 ^ t) :
    numB g m t (n + 2 ^ t) = true ∧ (((n + 2 ^ t) / 2 ^ t % 2 ^ m).toNat = (n / 2 ^ t % 2 ^ m).toNat + 1 ∨ (((n + 2 ^ t) / 2 ^ t % 2 ^ m).toNat = 0 ∧ (((n / 2 ^ t % 2 ^ m).toNat : Nat) : Int) = 2 ^ m - 1)) := by
  obtain ⟨a1, a2, a3⟩ := numB_iff.1 h
  have hT : (2 : Int) ^ t ≠ 0 := by rcases pow3 t h3 with h | h | h | h <;> rw [h] <;> decide
  have e1 : (n + 2 ^ t) / 2 ^ t = n / 2 ^ t + 1 := by
    rw [Int.add_ediv_of_dvd_right (Int.dvd_refl _), Int.ediv_self hT]
  have hlo := low_bd g m h1 h2
  have hhi := high_bd g m h1 h2
  have hd := low_high g m h1
  have hp := pow32 m h2
  have hv : n / 2 ^ t + 1 ≤ highN g m := by
    generalize highN g m = hi at *
    rcases pow3 t h3 with h | h | h | h <;> rw [h] at a1 hl ⊢ <;> omega
  refine ⟨numB_iff.2 ⟨?_, ?_, ?_⟩, ?_⟩
  · rw [e1, Int.add_mul, a1, Int.one_mul]
  · rw [e1]; omega
  · rw [e1]; exact hv
  · rw [e1]
    generalize n / 2 ^ t = v at *
    generalize highN g m = hi at *
    generalize lowN g m = lo at *
    generalize (2 : Int) ^ m = P at *
    by_cases c1 : v < -1
    · rw [emod_neg v P (by omega) (by omega), emod_neg (v + 1) P (by omega) (by omega)]
      left; omega
    · by_cases c2 : v = -1
      · subst c2
        right
        rw [emod_neg (-1) P (by omega) (by omega)]
        refine ⟨by simp, by omega⟩
      · rw [Int.emod_eq_of_lt (by omega) (by omega), Int.emod_eq_of_lt (by omega) (by omega)]
        left; omega
theorem fieldR_in {k n : Int} {m t : Nat} (hk : chkK k m t = 0) (h : numB (sgK k) m t n = true) : fieldR k m t n = ((n / 2 ^ t % 2 ^ m).toNat, 0) := by
  unfold fieldR; rw [if_pos hk, Int.toNat_natCast, Int.toNat_natCast, if_pos h]
theorem fieldR_out {k n : Int} {m t : Nat} (hk : chkK k m t = 0) (h : numB (sgK k) m t n = false) : fieldR k m t n = (0, 24) := by
  unfold fieldR; rw [if_pos hk, Int.toNat_natCast, Int.toNat_natCast, if_neg (by rw [h]; decide)]
theorem wrapNat (x : Nat) (h : x < 18446744073709551616) : IntKind.u64.wrap (x : Int) = x := by rw [IntKind.wrap_u64]; omega
theorem core (k n : Int) (m t : Nat) (wo : World) (hn : -9223372036854775808 ≤ n ∧ n ≤ 9223372036854775807) (hk : chkK k m t = 0) :
    Calls Try.prog 10 #[.int .u8 k, .int .i64 m, .int .i64 t, .int .i64 n] wo fun e w' => e = .returned (.bool true) ∧ Below wo.heap.size wo w' := by
  obtain ⟨⟨k1, k2⟩, k3, k4, _⟩ := chkK_ok hk
  have HA := Lib.hid (fun W => alive_walk W)
  have HR := Lib.hid (fun W => range_any k m t W)
  have hr : rangeR k m t = (lowN (sgK k) m * 2 ^ t, highN (sgK k) m * 2 ^ t, 0) := by unfold rangeR; rw [if_pos hk, Int.toNat_natCast, Int.toNat_natCast]
  rw [hr] at HR
  have hlo := low_bd (sgK k) m (by omega) (by omega)
  have hhi := high_bd (sgK k) m (by omega) (by omega)
  have F1 := Lib.hid (fun W => field_any k m t n W hn)
  have T1 : 1 ≤ (2 : Int) ^ t ∧ (2 : Int) ^ t ≤ 8 := by rcases pow3 t (by omega) with h | h | h | h <;> rw [h] <;> omega
  have b1 : -17179869184 ≤ lowN (sgK k) m * 2 ^ t ∧ lowN (sgK k) m * 2 ^ t ≤ 0 := by rcases pow3 t (by omega) with h | h | h | h <;> rw [h] <;> omega
  have b2 : 0 ≤ highN (sgK k) m * 2 ^ t ∧ highN (sgK k) m * 2 ^ t ≤ 34359738360 := by rcases pow3 t (by omega) with h | h | h | h <;> rw [h] <;> omega
  have FL := Lib.hid (fun W => field_any k m t (lowN (sgK k) m * 2 ^ t) W (by omega))
  have FH := Lib.hid (fun W => field_any k m t (highN (sgK k) m * 2 ^ t) W (by omega))
  rw [fieldR_in hk (in_low _ _ _ (by omega) (by omega) (by omega))] at FL
  rw [fieldR_in hk (in_high _ _ _ (by omega) (by omega) (by omega))] at FH
  have hin := in_iff (sgK k) m t n (by omega)
  have hdist := dist (sgK k) m t (by omega) (by omega)
  have hnext := next (sgK k) m t n (by omega) (by omega) (by omega)
  have hp := pow32 m (by omega)
  have hpn : 2 ^ m ≤ 4294967296 := by have := castPow m; omega
  have hd : ((highN (sgK k) m * 2 ^ t - lowN (sgK k) m * 2 ^ t) / 2 ^ t != wrap64 (wrap64 (2 ^ m) - 1)) = false := by
    rw [hdist, wrap64_small (2 ^ m) (by omega) (by omega), wrap64_small (2 ^ m - 1) (by omega) (by omega)]
    simp
  have w1 := wrapNat t (by omega)
  have w2 := wrapNat m (by omega)
  clear hdist hr
  generalize lowN (sgK k) m * 2 ^ t = L at *
  generalize highN (sgK k) m * 2 ^ t = H at *
  generalize (L / 2 ^ t % 2 ^ m).toNat = xL at *
  generalize (H / 2 ^ t % 2 ^ m).toNat = xH at *
  obtain ⟨b11, b12⟩ := b1
  obtain ⟨b21, b22⟩ := b2
  obtain ⟨T11, T12⟩ := T1
  obtain ⟨k21, k22⟩ := And.intro k3 k4
  cases hq : numB (sgK k) m t n
  · rw [fieldR_out hk hq] at F1
    have hout : (decide (L ≤ n) = false) ∨ (decide (L ≤ n) = true ∧ decide (n ≤ H) = false) ∨ (decide (L ≤ n) = true ∧ decide (n ≤ H) = true ∧ (n.tmod (2 ^ t) == 0) = false) := by
      rw [hq] at hin
      by_cases c1 : L ≤ n
      · by_cases c2 : n ≤ H
        · right; right
          refine ⟨by simpa using c1, by simpa using c2, ?_⟩
          have : ¬ n.tmod (2 ^ t) = 0 := fun h => by have := hin.2 ⟨c1, c2, h⟩; cases this
          simpa using this
        · right; left; exact ⟨by simpa using c1, by simpa using c2⟩
      · left; simpa using c1
    clear hin hnext hq hlo hhi hp hpn hn
    rcases hout with g1 | ⟨g1, g2⟩ | ⟨g1, g2, g3⟩
    all_goals
      go_enter Try.func10, Try.ntmps10
      go_wp2_with (first
        | (go_at_call 20; (with_reducible refine (HA.out _).mono ?_); rintro e w1 ⟨rfl, hb1⟩)
        | (go_at_call 12; (with_reducible refine (HR.out _).mono ?_); rintro e w2 ⟨rfl, hb2⟩)
        | (go_at_call 13; (with_reducible refine (F1.out _).mono ?_); rintro e w3 ⟨rfl, hb3⟩)
        | (go_at_call 13; (with_reducible refine (FL.out _).mono ?_); rintro e w4 ⟨rfl, hb4⟩)
        | (go_at_call 13; (with_reducible refine (FH.out _).mono ?_); rintro e w5 ⟨rfl, hb5⟩))
      go_ret
      exact ⟨rfl, thenBel (thenBel (thenBel (thenBel hb1 hb2) hb3) hb4) hb5⟩
  · rw [fieldR_in hk hq] at F1
    obtain ⟨c1, c2, c3⟩ := hin.1 hq
    have g1 : decide (L ≤ n) = true := by simpa using c1
    have g2 : decide (n ≤ H) = true := by simpa using c2
    have g3 : (n.tmod (2 ^ t) == 0) = true := by simpa using c3
    by_cases hl : n ≤ H - 2 ^ t
    · obtain ⟨hb, hx⟩ := hnext hq hl
      have F2 := Lib.hid (fun W => field_any k m t (n + 2 ^ t) W (by omega))
      rw [fieldR_in hk hb] at F2
      have hxl : (n / 2 ^ t % 2 ^ m).toNat < 4294967296 := by
        have := Int.emod_lt_of_pos (n / 2 ^ t) (show (0 : Int) < 2 ^ m by omega)
        have := Int.emod_nonneg (n / 2 ^ t) (show (2 : Int) ^ m ≠ 0 by omega)
        omega
      clear hin hnext hb hq
      generalize (n / 2 ^ t % 2 ^ m).toNat = x at *
      generalize ((n + 2 ^ t) / 2 ^ t % 2 ^ m).toNat = y at *
      have hx2 : ((y : Int) == IntKind.u64.wrap ((x : Int) + 1)) = true ∨ (((0 : Int) == IntKind.u64.wrap ((x : Int) + 1)) = false ∧ y = 0 ∧ ((x : Int) == IntKind.u64.wrap (IntKind.u64.wrap (2 ^ m) - 1)) = true) := by
        rw [show (x : Int) + 1 = ((x + 1 : Nat) : Int) by omega, wrapNat _ (by omega)]
        rcases hx with h | ⟨h, h'⟩
        · left; rw [h]; simp
        · right
          rw [← castPow, wrapNat _ (by omega), castPow]
          refine ⟨by simp; omega, h, ?_⟩
          rw [h', show ((2 : Int) ^ m - 1) = ((x : Nat) : Int) by omega, wrapNat _ (by omega)]
          simp
      clear hx hxl hlo hhi hp hpn hn c2 c3
      rcases hx2 with h | ⟨h, rfl, h'⟩
      all_goals
        go_enter Try.func10, Try.ntmps10
        go_wp2_with (first
          | (go_at_call 20; (with_reducible refine (HA.out _).mono ?_); rintro e w1 ⟨rfl, hb1⟩)
          | (go_at_call 12; (with_reducible refine (HR.out _).mono ?_); rintro e w2 ⟨rfl, hb2⟩)
          | (go_at_call 13; (with_reducible refine (F1.out _).mono ?_); rintro e w3 ⟨rfl, hb3⟩)
          | (go_at_call 13; (with_reducible refine (FL.out _).mono ?_); rintro e w4 ⟨rfl, hb4⟩)
          | (go_at_call 13; (with_reducible refine (FH.out _).mono ?_); rintro e w5 ⟨rfl, hb5⟩)
          | (go_at_call 13; (with_reducible refine (F2.out _).mono ?_); rintro e w6 ⟨rfl, hb6⟩))
        go_ret
        exact ⟨by first | rfl | simp_all, thenBel (thenBel (thenBel (thenBel (thenBel hb1 hb2) hb3) hb4) hb5) hb6⟩
    · clear hin hnext hq hlo hhi hp hpn hn c3
      go_enter Try.func10, Try.ntmps10
      go_wp2_with (first
        | (go_at_call 20; (with_reducible refine (HA.out _).mono ?_); rintro e w1 ⟨rfl, hb1⟩)
        | (go_at_call 12; (with_reducible refine (HR.out _).mono ?_); rintro e w2 ⟨rfl, hb2⟩)
        | (go_at_call 13; (with_reducible refine (F1.out _).mono ?_); rintro e w3 ⟨rfl, hb3⟩)
        | (go_at_call 13; (with_reducible refine (FL.out _).mono ?_); rintro e w4 ⟨rfl, hb4⟩)
        | (go_at_call 13; (with_reducible refine (FH.out _).mono ?_); rintro e w5 ⟨rfl, hb5⟩))
      go_ret
      exact ⟨rfl, thenBel (thenBel (thenBel (thenBel hb1 hb2) hb3) hb4) hb5⟩
theorem bad (k w s n : Int) (wo : World) (hn : -9223372036854775808 ≤ n ∧ n ≤ 9223372036854775807) (hk : ¬ chkK k w s = 0) :
    Calls Try.prog 10 #[.int .u8 k, .int .i64 w, .int .i64 s, .int .i64 n] wo fun e w' => e = .returned (.bool true) ∧ Below wo.heap.size wo w' := by
  have HA := Lib.hid (fun W => alive_walk W)
  have HR := Lib.hid (fun W => range_any k w s W)
  have hr : rangeR k w s = (0, 0, 2) := by unfold rangeR; rw [if_neg hk, chkK_two hk]
  have F1 := Lib.hid (fun W => field_any k w s n W hn)
  have hf : fieldR k w s n = (0, 2) := by unfold fieldR; rw [if_neg hk, chkK_two hk]
  rw [hr] at HR
  rw [hf] at F1
  clear hr hf hk hn
  go_enter Try.func10, Try.ntmps10
  go_wp2_with (first
    | (go_at_call 20; (with_reducible refine (HA.out _).mono ?_); rintro e w1 ⟨rfl, hb1⟩)
    | (go_at_call 12; (with_reducible refine (HR.out _).mono ?_); rintro e w2 ⟨rfl, hb2⟩)
    | (go_at_call 13; (with_reducible refine (F1.out _).mono ?_); rintro e w3 ⟨rfl, hb3⟩))
  go_ret
  exact ⟨rfl, thenBel (thenBel hb1 hb2) hb3⟩
theorem walk (a0 a1 a2 a3 : Int) (w0 : (Lit.int .u8 a0).wf = true) (w1 : (Lit.int .i64 a1).wf = true) (w2 : (Lit.int .i64 a2).wf = true) (w3 : (Lit.int .i64 a3).wf = true) (w : World) :
    Calls Try.prog 10 #[.int .u8 a0, .int .i64 a1, .int .i64 a2, .int .i64 a3] w fun e w' => e = .returned (.bool true) ∧ Below w.heap.size w w' := by
  by_cases hk : chkK a0 a1 a2 = 0
  · obtain ⟨⟨k1, k2⟩, k3, k4, _⟩ := chkK_ok hk
    obtain ⟨m, rfl⟩ : ∃ m : Nat, a1 = m := ⟨a1.toNat, by omega⟩
    obtain ⟨t, rfl⟩ : ∃ t : Nat, a2 = t := ⟨a2.toNat, by omega⟩
    exact core a0 a3 m t w (int_i64 w3) hk
  · exact bad a0 a1 a2 a3 w (int_i64 w3) hk
end Go.Proofs.Ytjbapjgagiaefaa.formatOrder
