/- Plain mathematics of package format's numbers. No program text. -/
import Derived.Test.YtjbapjgagiaefaaBitsMath
namespace Go.Proofs.Ytjbapjgagiaefaa
open Go.RowKit

/-- The least and the greatest integer of a field. -/
def lowN (g : Bool) (w : Nat) : Int := if g then -2 ^ (w - 1) else 0
def highN (g : Bool) (w : Nat) : Int := if g then 2 ^ (w - 1) - 1 else 2 ^ w - 1
theorem pow32 (w : Nat) (h : w ≤ 32) : (1 : Int) ≤ 2 ^ w ∧ (2 : Int) ^ w ≤ 4294967296 := by
  have h1 := Nat.pow_le_pow_right (n := 2) (by omega) h
  have h2 := Nat.two_pow_pos w
  have e : ((2 : Int) ^ w) = ((2 ^ w : Nat) : Int) := by simp
  have h3 : 2 ^ w ≤ 4294967296 := by simpa using h1
  rw [e]
  clear e h1
  generalize 2 ^ w = P at *
  omega
theorem pow3 (s : Nat) (h : s ≤ 3) : (2 : Int) ^ s = 1 ∨ (2 : Int) ^ s = 2 ∨ (2 : Int) ^ s = 4 ∨ (2 : Int) ^ s = 8 := by
  match s, h with
  | 0, _ => simp
  | 1, _ => simp
  | 2, _ => simp
  | 3, _ => simp
theorem powDbl (w : Nat) (h : 1 ≤ w) : (2 : Int) ^ w = 2 * 2 ^ (w - 1) := by
  obtain ⟨m, rfl⟩ : ∃ m, w = m + 1 := ⟨w - 1, by omega⟩
  rw [Int.pow_succ, Nat.add_sub_cancel, Int.mul_comm]
theorem low_bd (g : Bool) (w : Nat) (h1 : 1 ≤ w) (h2 : w ≤ 32) : -2147483648 ≤ lowN g w ∧ lowN g w ≤ 0 := by
  have := pow32 (w - 1) (by omega)
  have hd := powDbl w h1
  have := pow32 w h2
  unfold lowN; split <;> omega
theorem high_bd (g : Bool) (w : Nat) (h1 : 1 ≤ w) (h2 : w ≤ 32) : 0 ≤ highN g w ∧ highN g w ≤ 4294967295 := by
  have := pow32 (w - 1) (by omega)
  have := pow32 w h2
  unfold highN; split <;> omega
theorem span_lo (w : Nat) (h1 : 1 ≤ w) (h2 : w ≤ 32) : wrap64 (-2 ^ (w - 1)) = lowN true w := by
  have := low_bd true w h1 h2
  unfold lowN at this ⊢
  simp only [if_true] at this ⊢
  exact wrap64_small _ (by omega) (by omega)
theorem span_hi (w : Nat) (h1 : 1 ≤ w) (h2 : w ≤ 32) : wrap64 (wrap64 (2 ^ (w - 1)) - 1) = highN true w := by
  have := pow32 (w - 1) (by omega)
  unfold highN
  simp only [if_true]
  rw [wrap64_small (2 ^ (w - 1)) (by omega) (by omega)]
  exact wrap64_small _ (by omega) (by omega)
theorem span_hiU (w : Nat) (h2 : w ≤ 32) : wrap64 (wrap64 (2 ^ w) - 1) = highN false w := by
  have := pow32 w h2
  unfold highN
  simp only [Bool.false_eq_true, if_false]
  rw [wrap64_small (2 ^ w) (by omega) (by omega)]
  exact wrap64_small _ (by omega) (by omega)

/-- n is in the field of the width and the scale. -/
def numB (g : Bool) (w s : Nat) (n : Int) : Bool := decide (n / 2 ^ s * 2 ^ s = n) && decide (lowN g w ≤ n / 2 ^ s ∧ n / 2 ^ s ≤ highN g w)
theorem back_small (s : Nat) (n : Int) (hs : s ≤ 3) (h0 : -9223372036854775808 ≤ n) (h1 : n ≤ 9223372036854775807) : wrap64 (n / 2 ^ s * 2 ^ s) = n / 2 ^ s * 2 ^ s := by
  apply wrap64_small <;> rcases pow3 s hs with h | h | h | h <;> rw [h] <;> omega
end Go.Proofs.Ytjbapjgagiaefaa
