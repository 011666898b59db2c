/- Plain mathematics of lists of bits. -/
import Derived.Test.YtdllophjfiebiaaRefParts
namespace Go.Proofs.Ytdllophjfiebiaa
open Go.RowKit Go.Sort
set_option linter.unusedVariables false
set_option linter.unusedSimpArgs false

theorem bt_test (x j : Nat) : bt x j = (x.testBit j).toNat := by
  rw [Nat.testBit_eq_decide_div_mod_eq]
  unfold bt
  have := Nat.mod_lt (x / 2 ^ j) (show 0 < 2 by decide)
  by_cases h : x / 2 ^ j % 2 = 1
  · rw [h]; rfl
  · rw [show x / 2 ^ j % 2 = 0 by omega]; rfl
theorem bt_join (a b l j : Nat) (hb : b < 2 ^ l) : bt (a * 2 ^ l + b) j = if j < l then bt b j else bt a (j - l) := by
  rw [bt_test, bt_test, bt_test, Nat.mul_comm, Nat.testBit_two_pow_mul_add a hb]
  split <;> rfl
theorem bt_shift (x l j : Nat) : bt (x / 2 ^ l) j = bt x (l + j) := by
  unfold bt; rw [Nat.div_div_eq_div_mul, ← Nat.pow_add]
theorem bt_ones (n j : Nat) (h : j < n) : bt (2 ^ n - 1) j = 1 := by
  rw [bt_test, Nat.testBit_two_pow_sub_one]; simp [h]
theorem bt_small (x n j : Nat) (hx : x < 2 ^ n) (h : n ≤ j) : bt x j = 0 := by
  unfold bt
  rw [Nat.div_eq_of_lt (Nat.lt_of_lt_of_le hx (Nat.pow_le_pow_right (by decide) h))]
theorem bt_md (X n j : Nat) (h : j < n) : bt (X % 2 ^ n) j = bt X j := by
  rw [bt_test, bt_test, Nat.testBit_mod_two_pow]; simp [h]

/-- x with copies of its sign bit above, up to 64 bits. -/
def sx (n x : Nat) : Nat := bt x (n - 1) * (2 ^ (64 - n) - 1) * 2 ^ n + x
theorem bt_sx (n x j : Nat) (h0 : 1 ≤ n) (hx : x < 2 ^ n) (hj : j < 64) : bt (sx n x) j = if j < n then bt x j else bt x (n - 1) := by
  unfold sx
  rw [bt_join _ _ _ _ hx]
  by_cases h : j < n
  · rw [if_pos h, if_pos h]
  · rw [if_neg h, if_neg h]
    rcases bt_cases x (n - 1) with hb | hb
    · rw [hb, Nat.zero_mul]; exact bt_small 0 0 _ (by decide) (Nat.zero_le _)
    · rw [hb, Nat.one_mul, bt_ones _ _ (by omega)]
theorem sx_md (n x to : Nat) (h0 : 1 ≤ n) (h1 : n ≤ to) (h2 : to ≤ 64) (hx : x < 2 ^ n) : md (sx n x) to = (sg n x % 2 ^ to).toNat := by
  have hs := pow_split n (by omega)
  have ht := pow_split to h2
  have hp := pow_pos' (64 - n)
  have hq := pow_pos' (64 - to)
  have e2 : ((2 : Int) ^ to) = ((2 ^ to : Nat) : Int) := by simp
  have e3 : ((2 : Int) ^ n) = ((2 ^ n : Nat) : Int) := by simp
  have hle : 2 ^ n ≤ 2 ^ to := Nat.pow_le_pow_right (by decide) h1
  unfold md sx
  rcases bt_top n x h0 hx with ⟨hb, hg⟩ | ⟨hb, hg⟩
  · rw [hb, hg, Nat.zero_mul, Nat.zero_mul, Nat.zero_add, e2, ← Int.natCast_emod, Int.toNat_natCast]
  · rw [hb, hg, Nat.one_mul, e2, e3]
    have e : (2 ^ (64 - n) - 1) * 2 ^ n + x = 2 ^ to * (2 ^ (64 - to) - 1) + (2 ^ to - (2 ^ n - x)) := by
      rw [Nat.mul_comm, Nat.mul_sub, Nat.mul_sub, hs, ht]
      have := pow_le to h2
      omega
    rw [e, Nat.mul_add_mod]
    have e4 : ((x : Int) - ((2 ^ n : Nat) : Int)) % ((2 ^ to : Nat) : Int) = ((2 ^ to - (2 ^ n - x) : Nat) : Int) := by
      rw [← Int.add_emod_right, Int.emod_eq_of_lt (by omega) (by omega)]
      omega
    rw [e4, Int.toNat_natCast]
    exact Nat.mod_eq_of_lt (by omega)
theorem sg_back' (n : Nat) (z : Int) (h0 : 1 ≤ n) (hl : -((2 ^ (n - 1) : Nat) : Int) ≤ z) (hh : z < ((2 ^ (n - 1) : Nat) : Int)) : sg n (z % 2 ^ n).toNat = z := by
  have e2 : ((2 : Int) ^ n) = ((2 ^ n : Nat) : Int) := by simp
  have hf := pow_half n h0
  unfold sg
  rw [e2]
  generalize 2 ^ (n - 1) = p at *
  generalize 2 ^ n = q at *
  by_cases hz : 0 ≤ z
  · rw [Int.emod_eq_of_lt hz (by omega), if_pos (by omega)]; omega
  · have e : z % (q : Int) = z + q := by
      rw [← Int.add_emod_right, Int.emod_eq_of_lt (by omega) (by omega)]
    rw [e, if_neg (by omega)]; omega
theorem ofR_in (n : Nat) (z : Int) (h0 : 1 ≤ n) (h1 : n ≤ 64) (hl : -((pw (n - 1) : Nat) : Int) ≤ z) (hh : z < ((pw (n - 1) : Nat) : Int)) : ofR n z = (if 0 ≤ z then z.toNat else mk n - (-(z + 1)).toNat, 0) := by
  have hf := pow_half n h0
  have hm := mk_succ n
  have e2 : ((2 : Int) ^ n) = ((2 ^ n : Nat) : Int) := by simp
  unfold ofR
  rw [if_neg (by omega), Int.toNat_natCast, if_pos (sg_back' n z h0 hl hh), e2]
  unfold pw at *
  generalize 2 ^ (n - 1) = p at *
  generalize 2 ^ n = q at *
  by_cases hz : 0 ≤ z
  · rw [if_pos hz, Int.emod_eq_of_lt hz (by omega)]
  · have e : z % (q : Int) = z + q := by rw [← Int.add_emod_right, Int.emod_eq_of_lt (by omega) (by omega)]
    rw [if_neg hz, e]
    congr 1
    omega
theorem ofR_out (n : Nat) (z : Int) (h0 : 1 ≤ n) (h1 : n ≤ 64) (h : z < -((pw (n - 1) : Nat) : Int) ∨ ((pw (n - 1) : Nat) : Int) ≤ z) : ofR n z = (0, 24) := by
  unfold ofR
  rw [if_neg (by omega), Int.toNat_natCast, if_neg]
  intro he
  have hp := pow_pos' n
  have e2 : ((2 : Int) ^ n) = ((2 ^ n : Nat) : Int) := by simp
  have h3 := Int.emod_lt_of_pos z (show (0 : Int) < ((2 ^ n : Nat) : Int) by omega)
  have h4 := Int.emod_nonneg z (show ((2 ^ n : Nat) : Int) ≠ 0 by omega)
  have hs := sg_lo n (z % 2 ^ n).toNat h0 (by rw [e2]; omega)
  rw [he] at hs
  unfold pw at h
  omega
end Go.Proofs.Ytdllophjfiebiaa
