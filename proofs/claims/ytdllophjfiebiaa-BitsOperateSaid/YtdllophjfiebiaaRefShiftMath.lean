/- What the reference's shifts and connectives leave, bit by bit. -/
import Derived.Test.YtdllophjfiebiaaRefOpMath
namespace Go.Proofs.Ytdllophjfiebiaa
open Go.RowKit Go.Sort
set_option linter.unusedVariables false
set_option linter.unusedSimpArgs false

theorem shl_is (n x y : Nat) (h1 : n ≤ 64) : IsShift n x (opv 11 n x y) 0 (-((min y 64 : Nat) : Int)) := by
  intro i hi
  rw [shl_val n x y h1]
  generalize min y 64 = m
  rw [bt_md _ n i hi]
  have h := bt_join x 0 m i (pow_pos' m)
  rw [Nat.add_zero, bt_zero] at h
  rw [h]
  by_cases hm : i < m
  · rw [if_pos hm, if_pos (by omega)]
  · rw [if_neg hm, if_neg (by omega), if_neg (by omega)]
    congr 1
    omega
theorem shr_is (n x y : Nat) (hx : x < 2 ^ n) : IsShift n x (opv 12 n x y) 0 ((min y 64 : Nat) : Int) := by
  intro i hi
  rw [shr_val n x y hx]
  generalize min y 64 = m
  rw [bt_shift, if_neg (by omega)]
  by_cases hm : n ≤ m + i
  · rw [if_pos (by omega)]; exact bt_small x n _ hx hm
  · rw [if_neg (by omega)]
    congr 1
    omega
theorem neg_floor (c P : Nat) (hP : 0 < P) : (-((c : Int) + 1)) / (P : Int) = -(((c / P : Nat) : Int) + 1) := by
  have hd := Nat.div_add_mod c P
  have hm := Nat.mod_lt c hP
  rw [Int.ediv_eq_iff_of_pos (by omega)]
  have e : ((P * (c / P) : Nat) : Int) = (P : Int) * ((c / P : Nat) : Int) := Int.natCast_mul _ _
  generalize c / P = q at *
  have e2 : -((q : Int) + 1) * (P : Int) = -((P : Int) * q) - P := by
    rw [Int.neg_mul, Int.add_mul, Int.one_mul, Int.mul_comm]; omega
  rw [e2]
  omega
theorem sar_is (n x y : Nat) (h0 : 1 ≤ n) (h1 : n ≤ 64) (hx : x < 2 ^ n) : IsShift n x (opv 13 n x y) (bt x (n - 1)) ((min y 64 : Nat) : Int) := by
  intro i hi
  rw [sar_val n x y h1]
  generalize min y 64 = m
  have e2 : ((2 : Int) ^ n) = ((2 ^ n : Nat) : Int) := by simp
  have e3 : ((2 : Int) ^ m) = ((2 ^ m : Nat) : Int) := by simp
  have hp := pow_pos' n
  rw [if_neg (by omega), e2, e3]
  rcases bt_top n x h0 hx with ⟨hb, hs⟩ | ⟨hb, hs⟩
  · rw [hs, hb]
    have e4 : ((x : Int) / ((2 ^ m : Nat) : Int) % ((2 ^ n : Nat) : Int)).toNat = x / 2 ^ m := by
      have hl := Nat.lt_of_le_of_lt (Nat.div_le_self x (2 ^ m)) hx
      rw [← Int.natCast_ediv, ← Int.natCast_emod, Int.toNat_natCast, Nat.mod_eq_of_lt hl]
    rw [e4, bt_shift]
    by_cases hm : n ≤ m + i
    · rw [if_pos (by omega)]; exact bt_small x n _ hx hm
    · rw [if_neg (by omega)]
      congr 1
      omega
  · rw [hs, hb, e2]
    have hc : ((x : Int) - ((2 ^ n : Nat) : Int)) = -(((cpl n x : Nat) : Int) + 1) := by
      unfold cpl; rw [Nat.mod_eq_of_lt hx]; omega
    have hcl : cpl n x < 2 ^ n := by unfold cpl; omega
    rw [hc, neg_floor _ _ (pow_pos' m)]
    have hq : cpl n x / 2 ^ m < 2 ^ n := Nat.lt_of_le_of_lt (Nat.div_le_self _ _) hcl
    have e5 : (-(((cpl n x / 2 ^ m : Nat) : Int) + 1) % ((2 ^ n : Nat) : Int)).toNat = cpl n (cpl n x / 2 ^ m) := by
      generalize cpl n x / 2 ^ m = q at *
      unfold cpl
      rw [Nat.mod_eq_of_lt hq, ← Int.add_emod_right, Int.emod_eq_of_lt (by omega) (by omega)]
      omega
    rw [e5]
    have h6 := bt_cpl n (cpl n x / 2 ^ m) i hi
    rw [bt_shift] at h6
    by_cases hm : n ≤ m + i
    · rw [if_pos (by omega)]
      rw [bt_small (cpl n x) n _ hcl hm] at h6
      omega
    · rw [if_neg (by omega)]
      rw [bt_cpl n x (m + i) (by omega)] at h6
      have : ((i : Int) + (m : Int)).toNat = m + i := by omega
      rw [this]
      omega

theorem bt_and (x y k : Nat) : bt (x &&& y) k = if bt x k = 1 ∧ bt y k = 1 then 1 else 0 := by
  rw [bt_test, bt_test, bt_test, Nat.testBit_and]
  cases x.testBit k <;> cases y.testBit k <;> rfl
theorem bt_or (x y k : Nat) : bt (x ||| y) k = if bt x k = 0 ∧ bt y k = 0 then 0 else 1 := by
  rw [bt_test, bt_test, bt_test, Nat.testBit_or]
  cases x.testBit k <;> cases y.testBit k <;> rfl
theorem bt_xor (x y k : Nat) : bt (x ^^^ y) k = if bt x k = bt y k then 0 else 1 := by
  rw [bt_test, bt_test, bt_test, Nat.testBit_xor]
  cases x.testBit k <;> cases y.testBit k <;> rfl
end Go.Proofs.Ytdllophjfiebiaa
