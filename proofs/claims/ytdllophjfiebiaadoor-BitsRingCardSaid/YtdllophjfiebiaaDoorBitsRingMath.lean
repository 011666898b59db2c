/- Plain mathematics of sums, products and connectives. -/
import Derived.Test.YtdllophjfiebiaaDoorBitsShiftMath
namespace Go.Proofs.YtdllophjfiebiaaDoor
open Go.RowKit Go.Sort
set_option linter.unusedVariables false

theorem add_val (n a b : Nat) (h1 : n ≤ 64) : opv 5 n a b = (a + b) % 2 ^ n := by
  unfold opv; simp only [raw]; exact Nat.mod_mod_of_dvd _ (dvd_two n h1)
theorem mul_val (n a b : Nat) (h1 : n ≤ 64) : opv 7 n a b = a * b % 2 ^ n := by
  unfold opv; simp only [raw]; exact Nat.mod_mod_of_dvd _ (dvd_two n h1)
theorem sub_val (n a b : Nat) (h1 : n ≤ 64) (hb : b < 2 ^ n) : opv 6 n a b = (a + (2 ^ n - b)) % 2 ^ n := by
  have hs := pow_split n h1
  have hp := pow_pos' (64 - n)
  unfold opv
  simp only [raw]
  rw [Nat.mod_mod_of_dvd _ (dvd_two n h1)]
  have e : a + (18446744073709551616 - b) = a + (2 ^ n - b) + 2 ^ n * (2 ^ (64 - n) - 1) := by
    rw [Nat.mul_sub, hs, Nat.mul_one]
    have := pow_le n h1
    omega
  rw [e, Nat.add_mul_mod_self_left]
theorem neg_val (n a : Nat) (h1 : n ≤ 64) (ha : a < 2 ^ n) : opv 4 n a 0 = (2 ^ n - a) % 2 ^ n := by
  have h := sub_val n 0 a h1 ha
  rw [Nat.zero_add] at h
  rw [← h]
  unfold opv
  simp only [raw, Nat.zero_add]
theorem not_val (n a : Nat) (h1 : n ≤ 64) (ha : a < 2 ^ n) : opv 3 n a 0 = mk n - a := by
  have hs := pow_split n h1
  have hp := pow_pos' (64 - n)
  have hm := mk_succ n
  unfold opv
  simp only [raw]
  have e : 18446744073709551615 - a = mk n - a + 2 ^ n * (2 ^ (64 - n) - 1) := by
    rw [Nat.mul_sub, hs, Nat.mul_one]
    have := pow_le n h1
    omega
  rw [e, Nat.add_mul_mod_self_left]
  exact Nat.mod_eq_of_lt (by omega)
theorem and_val (n a b : Nat) (ha : a < 2 ^ n) : opv 8 n a b = a &&& b := by
  unfold opv; simp only [raw]; exact Nat.mod_eq_of_lt (Nat.lt_of_le_of_lt Nat.and_le_left ha)
theorem or_val (n a b : Nat) (ha : a < 2 ^ n) (hb : b < 2 ^ n) : opv 9 n a b = a ||| b := by
  unfold opv; simp only [raw]; exact Nat.mod_eq_of_lt (Nat.or_lt_two_pow ha hb)
theorem xor_val (n a b : Nat) (ha : a < 2 ^ n) (hb : b < 2 ^ n) : opv 10 n a b = a ^^^ b := by
  unfold opv; simp only [raw]; exact Nat.mod_eq_of_lt (Nat.xor_lt_two_pow ha hb)

theorem add_comm' (n a b : Nat) : opv 5 n b a = opv 5 n a b := by
  unfold opv; simp only [raw]; rw [Nat.add_comm]
theorem mul_comm' (n a b : Nat) : opv 7 n b a = opv 7 n a b := by
  unfold opv; simp only [raw]; rw [Nat.mul_comm]
theorem add_assoc' (n a b c : Nat) (h1 : n ≤ 64) : opv 5 n a (opv 5 n b c) = opv 5 n (opv 5 n a b) c := by
  rw [add_val n (opv 5 n a b) c h1, add_val n a b h1, add_val n a (opv 5 n b c) h1, add_val n b c h1, Nat.add_mod_mod, Nat.mod_add_mod, Nat.add_assoc]
theorem mul_assoc' (n a b c : Nat) (h1 : n ≤ 64) : opv 7 n a (opv 7 n b c) = opv 7 n (opv 7 n a b) c := by
  rw [mul_val n (opv 7 n a b) c h1, mul_val n a b h1, mul_val n a (opv 7 n b c) h1, mul_val n b c h1, Nat.mul_mod_mod, Nat.mod_mul_mod, Nat.mul_assoc]
theorem mul_add' (n a b c : Nat) (h1 : n ≤ 64) : opv 5 n (opv 7 n a b) (opv 7 n a c) = opv 7 n a (opv 5 n b c) := by
  rw [add_val n _ _ h1, mul_val n a b h1, mul_val n a c h1, mul_val n a _ h1, add_val n b c h1, Nat.mul_mod_mod, Nat.add_mod_mod, Nat.mod_add_mod, Nat.mul_add]
theorem sub_add' (n a b : Nat) (h1 : n ≤ 64) (ha : a < 2 ^ n) (hb : b < 2 ^ n) : opv 6 n (opv 5 n a b) b = a := by
  rw [sub_val n _ b h1 hb, add_val n a b h1, Nat.mod_add_mod]
  have : a + b + (2 ^ n - b) = a + 2 ^ n := by omega
  rw [this, Nat.add_mod_right, Nat.mod_eq_of_lt ha]
theorem add_neg' (n a : Nat) (h1 : n ≤ 64) (ha : a < 2 ^ n) : opv 5 n a (opv 4 n a 0) = 0 := by
  rw [add_val n _ _ h1, neg_val n a h1 ha, Nat.add_mod_mod]
  have : a + (2 ^ n - a) = 2 ^ n := by omega
  rw [this, Nat.mod_self]
theorem add_zero' (n a : Nat) (h1 : n ≤ 64) (ha : a < 2 ^ n) : opv 5 n a 0 = a := by
  rw [add_val n _ _ h1, Nat.add_zero, Nat.mod_eq_of_lt ha]
theorem mul_one' (n a : Nat) (h1 : n ≤ 64) (ha : a < 2 ^ n) : opv 7 n a 1 = a := by
  rw [mul_val n _ _ h1, Nat.mul_one, Nat.mod_eq_of_lt ha]
theorem and_or' (n a b c : Nat) (ha : a < 2 ^ n) (hb : b < 2 ^ n) (hc : c < 2 ^ n) : opv 9 n (opv 8 n a b) (opv 8 n a c) = opv 8 n a (opv 9 n b c) := by
  rw [or_val n _ _ (opv_lt _ _ _ _) (opv_lt _ _ _ _), and_val n a b ha, and_val n a c ha, and_val n a _ ha, or_val n b c hb hc, Nat.and_or_distrib_left]
theorem compl_bit (n a i : Nat) (ha : a < 2 ^ n) : (mk n - a).testBit i = (decide (i < n) && !a.testBit i) := by
  have : mk n - a = 2 ^ n - (a + 1) := by have := mk_succ n; omega
  rw [this, Nat.testBit_two_pow_sub_succ ha]
theorem and_not' (n a : Nat) (h1 : n ≤ 64) (ha : a < 2 ^ n) : opv 8 n a (opv 3 n a 0) = 0 := by
  rw [and_val n a _ ha, not_val n a h1 ha]
  apply Nat.eq_of_testBit_eq
  intro i
  rw [Nat.testBit_and, compl_bit n a i ha]
  simp
  intro h1 _
  exact h1
theorem or_not' (n a : Nat) (h1 : n ≤ 64) (ha : a < 2 ^ n) : opv 9 n a (opv 3 n a 0) = mk n := by
  rw [or_val n a _ ha (opv_lt _ _ _ _), not_val n a h1 ha]
  apply Nat.eq_of_testBit_eq
  intro i
  rw [Nat.testBit_or, compl_bit n a i ha, mk, Nat.testBit_two_pow_sub_one]
  by_cases hi : i < n
  · simp [hi]
  · have : a.testBit i = false := Nat.testBit_lt_two_pow (Nat.lt_of_lt_of_le ha (Nat.pow_le_pow_right (by decide) (by omega)))
    simp [hi, this]
theorem or_eq (k : Nat) : ∀ a b : Nat, a < 2 ^ k → b < 2 ^ k → a ||| b = (a ^^^ b) + (a &&& b) := by
  induction k with
  | zero =>
    intro a b ha hb
    obtain rfl : a = 0 := by simpa using ha
    obtain rfl : b = 0 := by simpa using hb
    rfl
  | succ k ih =>
    intro a b ha hb
    have hp := Nat.pow_succ 2 k
    have h := ih (a / 2) (b / 2) (by omega) (by omega)
    have h1 := Nat.or_div_two (a := a) (b := b)
    have h2 := Nat.xor_div_two (a := a) (b := b)
    have h3 := Nat.and_div_two (a := a) (b := b)
    have m1 := Nat.or_mod_two_eq_one (a := a) (b := b)
    have m2 := Nat.xor_mod_two_eq_one (a := a) (b := b)
    have m3 := Nat.and_mod_two_eq_one (a := a) (b := b)
    rw [← h1, ← h2, ← h3] at h
    generalize a ||| b = x at *
    generalize a ^^^ b = y at *
    generalize a &&& b = z at *
    omega
theorem xor_sub' (n a b : Nat) (h1 : n ≤ 64) (ha : a < 2 ^ n) (hb : b < 2 ^ n) : opv 6 n (opv 9 n a b) (opv 8 n a b) = opv 10 n a b := by
  have hx : a ^^^ b < 2 ^ n := Nat.xor_lt_two_pow ha hb
  rw [sub_val n _ _ h1 (opv_lt _ _ _ _), or_val n a b ha hb, and_val n a b ha, xor_val n a b ha hb, or_eq n a b ha hb]
  have hz : a &&& b < 2 ^ n := Nat.lt_of_le_of_lt Nat.and_le_left ha
  have : (a ^^^ b) + (a &&& b) + (2 ^ n - (a &&& b)) = (a ^^^ b) + 2 ^ n := by omega
  rw [this, Nat.add_mod_right, Nat.mod_eq_of_lt hx]
theorem not_add_one (n a : Nat) (h1 : n ≤ 64) (ha : a < 2 ^ n) : opv 5 n (opv 3 n a 0) 1 = opv 4 n a 0 := by
  rw [add_val n _ _ h1, not_val n a h1 ha, neg_val n a h1 ha]
  have := mk_succ n
  congr 1
  omega
end Go.Proofs.YtdllophjfiebiaaDoor
