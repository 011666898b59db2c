/- Plain mathematics for layer 1: what the operations of bits compute, on natural numbers. No program text. -/
import Derived.WalkKit
import Derived.Lib.Hide
namespace Go.Proofs.Ytjbapjgagiaefaa
open Go.RowKit

/-- The greatest value of a width. -/
def mk (n : Nat) : Nat := 2 ^ n - 1
/-- x is a value of the width n. -/
def okB (n x : Nat) : Bool := decide (x < 2 ^ n)
/-- The signed value. -/
def sg (n x : Nat) : Int := if x < 2 ^ (n - 1) then (x : Int) else (x : Int) - 2 ^ n

theorem pow_le (n : Nat) (h : n ≤ 64) : 2 ^ n ≤ 18446744073709551616 := by
  have := Nat.pow_le_pow_right (n := 2) (by omega) h; simpa using this
theorem pow_pos' (n : Nat) : 0 < 2 ^ n := Nat.two_pow_pos n
theorem pow_split (n : Nat) (h : n ≤ 64) : 2 ^ n * 2 ^ (64 - n) = 18446744073709551616 := by
  rw [← Nat.pow_add, show n + (64 - n) = 64 by omega]
theorem pow_half (n : Nat) (h : 1 ≤ n) : 2 ^ n = 2 * 2 ^ (n - 1) := by
  obtain ⟨m, rfl⟩ : ∃ m, n = m + 1 := ⟨n - 1, by omega⟩
  simp [Nat.pow_succ, Nat.mul_comm]
theorem mk_lt (n : Nat) (h : n ≤ 64) : mk n < 18446744073709551616 := by
  have := pow_le n h; have := pow_pos' n; unfold mk; omega
theorem mk_succ (n : Nat) : mk n + 1 = 2 ^ n := by have := pow_pos' n; unfold mk; omega
theorem okB_iff (n x : Nat) : okB n x = true ↔ x < 2 ^ n := by simp [okB]
theorem okB_le (n x : Nat) : okB n x = decide (x ≤ mk n) := by
  have := mk_succ n; unfold okB; congr 1; rw [← this]; exact propext ⟨fun h => by omega, fun h => by omega⟩

theorem mask_val (n : Nat) (h : n ≤ 64) : IntKind.u64.wrap (IntKind.u64.wrap ((2 : Int) ^ n) - 1) = ((mk n : Nat) : Int) := by
  have h1 := pow_le n h
  have h2 := mk_succ n
  have h3 := mk_lt n h
  have e : ((2 : Int) ^ n) = ((mk n + 1 : Nat) : Int) := by rw [h2]; simp
  rw [e, IntKind.wrap_u64, IntKind.wrap_u64]
  omega

theorem wrap64_small (z : Int) (h0 : -9223372036854775808 ≤ z) (h1 : z < 9223372036854775808) : wrap64 z = z := by unfold wrap64; omega

/-- Shifting up and back copies the sign bit. -/
theorem signed_val (n x : Nat) (h0 : 1 ≤ n) (h1 : n ≤ 64) (hx : x < 2 ^ n) :
    wrap64 (IntKind.u64.wrap ((x : Int) * 2 ^ (64 - n))) / 2 ^ (64 - n) = sg n x := by
  have hs := pow_split n h1
  have hh := pow_half n h0
  have hp := pow_pos' (64 - n)
  generalize hP : 2 ^ (64 - n) = P at hs hp
  have eP : ((2 : Int) ^ (64 - n)) = (P : Int) := by rw [← hP]; simp
  rw [eP]
  have hxP : x * P < 18446744073709551616 := by rw [← hs]; exact Nat.mul_lt_mul_of_pos_right hx hp
  have e1 : IntKind.u64.wrap ((x : Int) * P) = ((x * P : Nat) : Int) := by
    rw [IntKind.wrap_u64, ← Int.natCast_mul]; omega
  rw [e1]
  have hH : 2 ^ (n - 1) * P = 9223372036854775808 := by
    have : 2 * (2 ^ (n - 1) * P) = 18446744073709551616 := by rw [← Nat.mul_assoc, ← hh]; exact hs
    omega
  have hP0 : (P : Int) ≠ 0 := by omega
  unfold sg
  by_cases hlt : x < 2 ^ (n - 1)
  · rw [if_pos hlt, wrap64_small _ (by omega) (by have := Nat.mul_lt_mul_of_pos_right hlt hp; rw [hH] at this; omega)]
    rw [Int.natCast_mul]
    exact Int.mul_ediv_cancel _ hP0
  · rw [if_neg hlt]
    have hge : 9223372036854775808 ≤ x * P := by rw [← hH]; exact Nat.mul_le_mul_right _ (by omega)
    have e2 : wrap64 ((x * P : Nat) : Int) = ((x : Int) - 2 ^ n) * P := by
      have hz : ((2 : Int) ^ n) * P = ((18446744073709551616 : Nat) : Int) := by rw [← hs, Int.natCast_mul, Int.natCast_pow]; rfl
      rw [Int.sub_mul, hz, ← Int.natCast_mul]
      unfold wrap64
      omega
    rw [e2]
    exact Int.mul_ediv_cancel _ hP0
end Go.Proofs.Ytjbapjgagiaefaa
