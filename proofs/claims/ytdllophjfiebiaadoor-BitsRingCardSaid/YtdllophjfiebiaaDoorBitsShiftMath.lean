/- Plain mathematics of shifts. -/
import Derived.Test.YtdllophjfiebiaaDoorBitsLawMath
namespace Go.Proofs.YtdllophjfiebiaaDoor
open Go.RowKit Go.Sort
set_option linter.unusedVariables false

theorem op_as2 (k n a b V : Nat) (K B : Int) (w : World) (hK : K = k) (hB : B = b) (h0 : 1 ≤ n) (h1 : n ≤ 64) (hk0 : 5 ≤ k) (hk1 : k ≤ 18) (ha : a < 2 ^ n) (hb : b < 2 ^ n) (hV : opv k n a b = V) :
    Calls Tryd.prog 27 #[.int .u8 K, .int .i64 n, .int .u64 a, .int .u64 B] w fun e w' => e = .returned (.int .u64 V) ∧ Below w.heap.size w w' := by
  subst hK; subst hB; subst hV; exact op_any k n a b w h0 h1 hk0 hk1 ha hb

theorem dvd_two (n : Nat) (h1 : n ≤ 64) : 2 ^ n ∣ 18446744073709551616 := ⟨2 ^ (64 - n), (pow_split n h1).symm⟩
theorem shl_val (n a b : Nat) (h1 : n ≤ 64) : opv 11 n a b = a * 2 ^ min b 64 % 2 ^ n := by
  unfold opv
  simp only [raw]
  exact Nat.mod_mod_of_dvd _ (dvd_two n h1)
theorem shr_val (n a b : Nat) (ha : a < 2 ^ n) : opv 12 n a b = a / 2 ^ min b 64 := by
  unfold opv
  simp only [raw]
  exact Nat.mod_eq_of_lt (Nat.lt_of_le_of_lt (Nat.div_le_self _ _) ha)
theorem sar_val (n a b : Nat) (h1 : n ≤ 64) : opv 13 n a b = (sg n a / 2 ^ min b 64 % 2 ^ n).toNat := by
  unfold opv
  simp only [raw]
  generalize sg n a / 2 ^ min b 64 = z
  have h2 := Int.emod_nonneg z (show (18446744073709551616 : Int) ≠ 0 by decide)
  have e2 : ((2 : Int) ^ n) = ((2 ^ n : Nat) : Int) := by simp
  have hp := pow_pos' n
  have h3 := Int.emod_nonneg z (show ((2 ^ n : Nat) : Int) ≠ 0 by omega)
  have e : ((z % 18446744073709551616).toNat % 2 ^ n : Nat) = ((z % 2 ^ n).toNat : Nat) := by
    have : (((z % 18446744073709551616).toNat % 2 ^ n : Nat) : Int) = (z % 2 ^ n) := by
      rw [Int.natCast_emod, Int.toNat_of_nonneg h2, ← e2]
      refine Int.emod_emod_of_dvd z ⟨((2 ^ (64 - n) : Nat) : Int), ?_⟩
      have hs := congrArg (Nat.cast : Nat → Int) (pow_split n h1)
      rw [Int.natCast_mul, Int.natCast_pow] at hs
      exact hs.symm
    rw [← this]; rfl
  exact e
theorem sg_back (n : Nat) (z : Int) (h0 : 1 ≤ n) (hl : -((2 ^ (n - 1) : Nat) : Int) ≤ z) (hh : z < ((2 ^ (n - 1) : Nat) : Int)) : sg n (z % 2 ^ n).toNat = z := by
  have e2 : ((2 : Int) ^ n) = ((2 ^ n : Nat) : Int) := by simp
  have hf := pow_half n h0
  unfold sg
  rw [e2]
  generalize 2 ^ (n - 1) = p at *
  generalize 2 ^ n = q at *
  by_cases hz : 0 ≤ z
  · rw [Int.emod_eq_of_lt hz (by omega), if_pos (by omega)]; omega
  · have e : z % (q : Int) = z + q := by
      rw [← Int.add_emod_right, Int.emod_eq_of_lt (by omega) (by omega)]
    rw [e, if_neg (by omega)]; omega
theorem ediv_pow_bounds (z : Int) (p q : Nat) (hq : 0 < q) (hl : -(p : Int) ≤ z) (hh : z < p) : -(p : Int) ≤ z / q ∧ z / q < p := by
  constructor
  · rw [Int.le_ediv_iff_mul_le (by omega)]
    have : (p : Int) * 1 ≤ p * q := Int.mul_le_mul_of_nonneg_left (by omega) (by omega)
    have e : -(p : Int) * q = -(p * q) := Int.neg_mul _ _
    omega
  · rw [Int.ediv_lt_iff_lt_mul (by omega)]
    by_cases hz : 0 ≤ z
    · have : (p : Int) * 1 ≤ p * q := Int.mul_le_mul_of_nonneg_left (by omega) (by omega)
      omega
    · have : 0 ≤ (p : Int) * q := Int.mul_nonneg (by omega) (by omega)
      omega

theorem shl_step (n a b : Nat) (h1 : n ≤ 64) (hb : b < 64) : opv 11 n (opv 11 n a b) 1 = opv 11 n a (b + 1) := by
  rw [shl_val n _ 1 h1, shl_val n a b h1, shl_val n a (b + 1) h1, show min 1 64 = 1 from rfl, show min b 64 = b by omega, show min (b + 1) 64 = b + 1 by omega]
  rw [Nat.pow_succ 2 b, ← Nat.mul_assoc, Nat.mod_mul_mod]
theorem shr_step (n a b : Nat) (ha : a < 2 ^ n) (hb : b < 64) : opv 12 n (opv 12 n a b) 1 = opv 12 n a (b + 1) := by
  rw [shr_val n _ 1 (opv_lt _ _ _ _), shr_val n a b ha, shr_val n a (b + 1) ha, show min 1 64 = 1 from rfl, show min b 64 = b by omega, show min (b + 1) 64 = b + 1 by omega]
  rw [Nat.div_div_eq_div_mul, Nat.pow_succ 2 b]
theorem sar_step (n a b : Nat) (h0 : 1 ≤ n) (h1 : n ≤ 64) (ha : a < 2 ^ n) (hb : b < 64) : opv 13 n (opv 13 n a b) 1 = opv 13 n a (b + 1) := by
  rw [sar_val n _ 1 h1, sar_val n a b h1, sar_val n a (b + 1) h1, show min 1 64 = 1 from rfl, show min b 64 = b by omega, show min (b + 1) 64 = b + 1 by omega]
  have hs := sg_lo n a h0 ha
  have e2 : ((2 : Int) ^ b) = ((2 ^ b : Nat) : Int) := by simp
  have hz := ediv_pow_bounds (sg n a) (2 ^ (n - 1)) (2 ^ b) (pow_pos' b) hs.1 hs.2
  rw [← e2] at hz
  have hp := pow_pos' b
  rw [sg_back n _ h0 hz.1 hz.2, Int.ediv_ediv_of_nonneg (by rw [e2]; exact Int.natCast_nonneg _), Int.pow_succ 2 b, show ((2 : Int) ^ 1) = 2 from rfl]
theorem shl_zero (n a : Nat) (h1 : n ≤ 64) (ha : a < 2 ^ n) : opv 11 n a 0 = a := by
  rw [shl_val n a 0 h1]; simp; exact Nat.mod_eq_of_lt ha
theorem shr_zero (n a : Nat) (ha : a < 2 ^ n) : opv 12 n a 0 = a := by
  rw [shr_val n a 0 ha]; simp
theorem sar_zero (n a : Nat) (h0 : 1 ≤ n) (h1 : n ≤ 64) (ha : a < 2 ^ n) : opv 13 n a 0 = a := by
  rw [sar_val n a 0 h1]
  have : sg n a / 2 ^ min 0 64 = sg n a := by simp
  rw [this, sg_mod n a ha]
theorem shl_over (n a b : Nat) (h1 : n ≤ 64) (hb : n ≤ b) : opv 11 n a b = 0 := by
  rw [shl_val n a b h1]
  obtain ⟨d, hd⟩ : ∃ d, min b 64 = n + d := ⟨min b 64 - n, by omega⟩
  rw [hd, Nat.pow_add, Nat.mul_left_comm]
  exact Nat.mul_mod_right _ _
theorem shr_over (n a b : Nat) (h1 : n ≤ 64) (ha : a < 2 ^ n) (hb : n ≤ b) : opv 12 n a b = 0 := by
  rw [shr_val n a b ha]
  refine Nat.div_eq_of_lt (Nat.lt_of_lt_of_le ha (Nat.pow_le_pow_right (by decide) (by omega)))
theorem sg_zero (n : Nat) : sg n 0 = 0 := by
  unfold sg; rw [if_pos (pow_pos' _)]; rfl
theorem sar_over (n a b : Nat) (h0 : 1 ≤ n) (h1 : n ≤ 64) (ha : a < 2 ^ n) (hb : n ≤ b) : opv 13 n a b = if sg n a < 0 then mk n else 0 := by
  rw [sar_val n a b h1]
  have hs := sg_lo n a h0 ha
  have hf := pow_half n h0
  have hm := mk_succ n
  have hge : 2 ^ n ≤ 2 ^ min b 64 := Nat.pow_le_pow_right (by decide) (by omega)
  have e2 : ((2 : Int) ^ n) = ((2 ^ n : Nat) : Int) := by simp
  have e3 : ((2 : Int) ^ min b 64) = ((2 ^ min b 64 : Nat) : Int) := by simp
  rw [e2, e3]
  generalize 2 ^ (n - 1) = p at *
  generalize 2 ^ min b 64 = r at *
  generalize 2 ^ n = q at *
  have hmq : mk n = q - 1 := by omega
  by_cases hz : sg n a < 0
  · rw [if_pos hz]
    have e : sg n a / (r : Int) = -1 := by
      rw [Int.ediv_eq_iff_of_pos (by omega)]
      omega
    rw [e]
    have e4 : (-1 : Int) % (q : Int) = q - 1 := by
      rw [← Int.add_emod_right, Int.emod_eq_of_lt (by omega) (by omega)]; omega
    rw [e4, hmq]; omega
  · rw [if_neg hz, Int.ediv_eq_zero_of_lt (by omega) (by omega)]
    rfl
theorem shl_double (n a : Nat) (h1 : n ≤ 64) : opv 5 n a a = opv 11 n a 1 := by
  rw [shl_val n a 1 h1]
  unfold opv
  simp only [raw]
  rw [Nat.mod_mod_of_dvd _ (dvd_two n h1), show min 1 64 = 1 from rfl, Nat.pow_one, Nat.mul_two]
theorem slt_zero (n a : Nat) (h0 : 1 ≤ n) : opv 18 n a 0 = bitN (decide (sg n a < 0)) := by
  rw [opv18 n a 0 h0, sg_zero]
theorem lt_mk (n b : Nat) (hb : b < n) : b ≠ mk n ∧ b + 1 < 2 ^ n := by
  have := mk_succ n
  have : n < 2 ^ n := Nat.lt_two_pow_self
  omega
end Go.Proofs.YtdllophjfiebiaaDoor
