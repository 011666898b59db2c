/- What each kind of operation gives, as the reference's lists of bits give it. -/
import Derived.Test.YtdllophjfiebiaaRefDivide
namespace Go.Proofs.Ytdllophjfiebiaa
open Go.RowKit Go.Sort
set_option linter.unusedVariables false
set_option linter.unusedSimpArgs false

theorem opv_lt (k n a b : Nat) : opv k n a b < 2 ^ n := Nat.mod_lt _ (pow_pos' n)
theorem dvd_two (n : Nat) (h1 : n ≤ 64) : 2 ^ n ∣ 18446744073709551616 := ⟨2 ^ (64 - n), (pow_split n h1).symm⟩
theorem shl_val (n a b : Nat) (h1 : n ≤ 64) : opv 11 n a b = a * 2 ^ min b 64 % 2 ^ n := by
  unfold opv
  simp only [raw]
  exact Nat.mod_mod_of_dvd _ (dvd_two n h1)
theorem shr_val (n a b : Nat) (ha : a < 2 ^ n) : opv 12 n a b = a / 2 ^ min b 64 := by
  unfold opv
  simp only [raw]
  exact Nat.mod_eq_of_lt (Nat.lt_of_le_of_lt (Nat.div_le_self _ _) ha)
theorem sar_val (n a b : Nat) (h1 : n ≤ 64) : opv 13 n a b = (sg n a / 2 ^ min b 64 % 2 ^ n).toNat := by
  unfold opv
  simp only [raw]
  generalize sg n a / 2 ^ min b 64 = z
  have h2 := Int.emod_nonneg z (show (18446744073709551616 : Int) ≠ 0 by decide)
  have e2 : ((2 : Int) ^ n) = ((2 ^ n : Nat) : Int) := by simp
  have hp := pow_pos' n
  have h3 := Int.emod_nonneg z (show ((2 ^ n : Nat) : Int) ≠ 0 by omega)
  have e : ((z % 18446744073709551616).toNat % 2 ^ n : Nat) = ((z % 2 ^ n).toNat : Nat) := by
    have : (((z % 18446744073709551616).toNat % 2 ^ n : Nat) : Int) = (z % 2 ^ n) := by
      rw [Int.natCast_emod, Int.toNat_of_nonneg h2, ← e2]
      refine Int.emod_emod_of_dvd z ⟨((2 ^ (64 - n) : Nat) : Int), ?_⟩
      have hs := congrArg (Nat.cast : Nat → Int) (pow_split n h1)
      rw [Int.natCast_mul, Int.natCast_pow] at hs
      exact hs.symm
    rw [← this]; rfl
  exact e
theorem add_val (n a b : Nat) (h1 : n ≤ 64) : opv 5 n a b = (a + b) % 2 ^ n := by
  unfold opv; simp only [raw]; exact Nat.mod_mod_of_dvd _ (dvd_two n h1)
theorem mul_val (n a b : Nat) (h1 : n ≤ 64) : opv 7 n a b = a * b % 2 ^ n := by
  unfold opv; simp only [raw]; exact Nat.mod_mod_of_dvd _ (dvd_two n h1)
theorem sub_val (n a b : Nat) (h1 : n ≤ 64) (hb : b < 2 ^ n) : opv 6 n a b = (a + (2 ^ n - b)) % 2 ^ n := by
  have hs := pow_split n h1
  have hp := pow_pos' (64 - n)
  unfold opv
  simp only [raw]
  rw [Nat.mod_mod_of_dvd _ (dvd_two n h1)]
  have e : a + (18446744073709551616 - b) = a + (2 ^ n - b) + 2 ^ n * (2 ^ (64 - n) - 1) := by
    rw [Nat.mul_sub, hs, Nat.mul_one]
    have := pow_le n h1
    omega
  rw [e, Nat.add_mul_mod_self_left]
theorem neg_val (n a : Nat) (h1 : n ≤ 64) (ha : a < 2 ^ n) : opv 4 n a 0 = (2 ^ n - a) % 2 ^ n := by
  have h := sub_val n 0 a h1 ha
  rw [Nat.zero_add] at h
  rw [← h]
  unfold opv
  simp only [raw, Nat.zero_add]
theorem not_val (n a : Nat) (h1 : n ≤ 64) (ha : a < 2 ^ n) : opv 3 n a 0 = mk n - a := by
  have hs := pow_split n h1
  have hp := pow_pos' (64 - n)
  have hm := mk_succ n
  unfold opv
  simp only [raw]
  have e : 18446744073709551615 - a = mk n - a + 2 ^ n * (2 ^ (64 - n) - 1) := by
    rw [Nat.mul_sub, hs, Nat.mul_one]
    have := pow_le n h1
    omega
  rw [e, Nat.add_mul_mod_self_left]
  exact Nat.mod_eq_of_lt (by omega)
theorem and_val (n a b : Nat) (ha : a < 2 ^ n) : opv 8 n a b = a &&& b := by
  unfold opv; simp only [raw]; exact Nat.mod_eq_of_lt (Nat.lt_of_le_of_lt Nat.and_le_left ha)
theorem or_val (n a b : Nat) (ha : a < 2 ^ n) (hb : b < 2 ^ n) : opv 9 n a b = a ||| b := by
  unfold opv; simp only [raw]; exact Nat.mod_eq_of_lt (Nat.or_lt_two_pow ha hb)
theorem xor_val (n a b : Nat) (ha : a < 2 ^ n) (hb : b < 2 ^ n) : opv 10 n a b = a ^^^ b := by
  unfold opv; simp only [raw]; exact Nat.mod_eq_of_lt (Nat.xor_lt_two_pow ha hb)

theorem md_not (n x : Nat) (h1 : n ≤ 64) (hx : x < 2 ^ n) : md (cpl n x) n = opv 3 n x 0 := by
  have hm := mk_succ n
  rw [not_val n x h1 hx]
  unfold md cpl
  rw [Nat.mod_eq_of_lt hx, Nat.mod_eq_of_lt (by omega)]
  omega
theorem md_neg (n x : Nat) (h1 : n ≤ 64) (hx : x < 2 ^ n) : md (cpl n x + 0 + 1) n = opv 4 n x 0 := by
  rw [neg_val n x h1 hx]
  unfold md cpl
  rw [Nat.mod_eq_of_lt hx]
  congr 1
  omega
theorem md_add (n x y : Nat) (h1 : n ≤ 64) : md (x + y) n = opv 5 n x y := (add_val n x y h1).symm
theorem md_sub (n x y : Nat) (h1 : n ≤ 64) (hy : y < 2 ^ n) : md (x + cpl n y + 1) n = opv 6 n x y := by
  rw [sub_val n x y h1 hy]
  unfold md cpl
  rw [Nat.mod_eq_of_lt hy]
  congr 1
  omega
theorem md_mul (n x y : Nat) (h1 : n ≤ 64) (hy : y < 2 ^ n) : md (x * (y % 2 ^ n)) n = opv 7 n x y := by
  rw [Nat.mod_eq_of_lt hy]; exact (mul_val n x y h1).symm
theorem opv_md (k n x y : Nat) : md (opv k n x y) n = opv k n x y := Nat.mod_eq_of_lt (Nat.mod_lt _ (pow_pos' n))
theorem div_val (n x y : Nat) (hx : x < 2 ^ n) (h1 : n ≤ 64) : opv 14 n x y = if y = 0 then 2 ^ n - 1 else x / y := by
  unfold opv
  simp only [raw]
  by_cases h : y = 0
  · rw [if_pos h, if_pos h]
    have hs := pow_split n h1
    have hp := pow_pos' (64 - n)
    have e : 18446744073709551615 = 2 ^ n - 1 + 2 ^ n * (2 ^ (64 - n) - 1) := by
      rw [Nat.mul_sub, hs, Nat.mul_one]
      have := pow_le n h1
      have := pow_pos' n
      omega
    rw [e, Nat.add_mul_mod_self_left]
    have := pow_pos' n
    exact Nat.mod_eq_of_lt (by omega)
  · rw [if_neg h, if_neg h]
    exact Nat.mod_eq_of_lt (Nat.lt_of_le_of_lt (Nat.div_le_self _ _) hx)
theorem rem_val (n x y : Nat) (hx : x < 2 ^ n) : opv 15 n x y = if y = 0 then x else x % y := by
  unfold opv
  simp only [raw]
  by_cases h : y = 0
  · rw [if_pos h]; exact Nat.mod_eq_of_lt hx
  · rw [if_neg h]; exact Nat.mod_eq_of_lt (Nat.lt_of_le_of_lt (Nat.mod_le _ _) hx)
theorem bitN_md (p : Bool) (n : Nat) (h0 : 1 ≤ n) : bitN p % 2 ^ n = bitN p := by
  have hf := pow_half n h0
  have := pow_pos' (n - 1)
  cases p
  · exact Nat.zero_mod _
  · exact Nat.mod_eq_of_lt (show 1 < 2 ^ n by omega)
theorem eq_val (n x y : Nat) (h0 : 1 ≤ n) : opv 16 n x y = bitN ((x : Int) == (y : Int)) := by
  rw [← bitN_md _ n h0, opv]
  congr 1
  by_cases h : x = y
  · subst h; simp [raw, bitN]
  · have e : ((x : Int) == (y : Int)) = false := by simp; omega
    rw [e]; simp [raw, h, bitN]
theorem ult_val (n x y : Nat) (h0 : 1 ≤ n) (hx : x < 2 ^ n) (hy : y < 2 ^ n) : opv 17 n x y = bitN (ltB n x y) := by
  rw [← bitN_md _ n h0, opv, ltB_small n x y hx hy]
  congr 1
  by_cases h : x < y <;> simp [raw, h, bitN]
theorem slt_val (n x y : Nat) (h0 : 1 ≤ n) (hx : x < 2 ^ n) (hy : y < 2 ^ n) : opv 18 n x y = if bt x (n - 1) = bt y (n - 1) then bitN (ltB n x y) else bitN ((bt x (n - 1) : Int) == 1) := by
  have hb : ∀ p : Bool, bitN p = opv 18 n x y ↔ p = decide (sg n x < sg n y) := by
    intro p
    have : opv 18 n x y = bitN (decide (sg n x < sg n y)) := by
      rw [← bitN_md _ n h0, opv]
      congr 1
      by_cases h : sg n x < sg n y <;> simp [raw, h, bitN]
    rw [this]
    constructor
    · intro h
      cases p <;> cases hd : decide (sg n x < sg n y) <;> simp_all [bitN]
    · intro h; rw [h]
  have tx := bt_top n x h0 hx
  have ty := bt_top n y h0 hy
  have e2 : ((2 : Int) ^ n) = ((2 ^ n : Nat) : Int) := by simp
  rw [e2] at tx ty
  by_cases h : bt x (n - 1) = bt y (n - 1)
  · rw [if_pos h]
    refine ((hb _).2 ?_).symm
    rw [ltB_small n x y hx hy]
    congr 1
    rcases tx with ⟨a1, a2⟩ | ⟨a1, a2⟩ <;> rcases ty with ⟨b1, b2⟩ | ⟨b1, b2⟩ <;> rw [a2, b2] <;> exact propext ⟨fun hh => by omega, fun hh => by omega⟩
  · rw [if_neg h]
    refine ((hb _).2 ?_).symm
    rcases tx with ⟨a1, a2⟩ | ⟨a1, a2⟩ <;> rcases ty with ⟨b1, b2⟩ | ⟨b1, b2⟩ <;> rw [a1, a2, b2]
    · omega
    · have : ¬ ((x : Int) < (y : Int) - ((2 ^ n : Nat) : Int)) := by omega
      rw [decide_eq_false this]; rfl
    · have : ((x : Int) - ((2 ^ n : Nat) : Int)) < (y : Int) := by omega
      rw [decide_eq_true this]; rfl
    · omega
end Go.Proofs.Ytdllophjfiebiaa
