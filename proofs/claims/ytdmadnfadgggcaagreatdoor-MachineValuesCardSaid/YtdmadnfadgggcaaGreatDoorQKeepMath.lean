import Derived.Test.YtdmadnfadgggcaaGreatDoorPh
set_option linter.unusedVariables false
set_option linter.unusedSimpArgs false
set_option warningAsError false
namespace Go.Proofs.YtdmadnfadgggcaaGreatDoor
open Go.RowKit Go.Instr
set_option maxRecDepth 100000
theorem zhh {v l w x : Nat} (hx : x < 2 ^ w) (h : l + w <= 64) (hv : v < 18446744073709551616) (t : Nat) : (wrV v l w x).testBit t = if l <= t /\ t < l + w then x.testBit (t - l) else v.testBit t := by
 obtain ⟨s2, s3⟩ := z5c hx h;unfold wrV;rw [Nat.testBit_or, Nat.testBit_and, Nat.testBit_mul_two_pow];have e : (18446744073709551615 - mk w * 2 ^ l).testBit t = (decide (t < 64) && !(mk w * 2 ^ l).testBit t) := by
  have := Nat.testBit_two_pow_sub_succ (n := 64) (x := mk w * 2 ^ l) (by simpa using s3) t;rw [<- this]
  congr 1
  omega
 rw [e, zg0];have hv64 : ∀ t, 64 <= t -> v.testBit t = false := fun t ht => Nat.testBit_lt_two_pow (Nat.lt_of_lt_of_le hv (by rw [show (18446744073709551616 : Nat) = 2 ^ 64 by decide]; exact Nat.pow_le_pow_right (by omega) ht));have hxw : ∀ s, w <= s -> x.testBit s = false := fun s hs => Nat.testBit_lt_two_pow (Nat.lt_of_lt_of_le hx (Nat.pow_le_pow_right (by omega) hs));by_cases h1 : l <= t
 ·by_cases h2 : t < l + w
  ·simp [h1, h2]
  ·have := hxw (t - l) (by omega);by_cases h3 : t < 64
   ·simp [h1, h2, h3, this]
   ·simp [h1, h2, h3, this, hv64 t (by omega)]
 ·by_cases h3 : t < 64
  ·simp [h1, h3]
  ·simp [h1, h3, hv64 t (by omega)]
end Go.Proofs.YtdmadnfadgggcaaGreatDoor
