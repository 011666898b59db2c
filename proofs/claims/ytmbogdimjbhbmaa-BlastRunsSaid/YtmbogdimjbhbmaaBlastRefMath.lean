/- The order of inputs as the reference compares them. -/
import Derived.Test.YtmbogdimjbhbmaaBlastCheck
namespace Go.Proofs.Ytmbogdimjbhbmaa
open Go.RowKit
set_option linter.unusedVariables false

theorem less_irrefl : ∀ a : List UInt8, Op.bytesLess a a = false
  | [] => rfl
  | x :: a => by unfold Op.bytesLess; rw [less_irrefl a]; simp
theorem cmpB : ∀ a b : List UInt8, Lib.compareBytes a b = if Op.bytesLess a b = true then -1 else if (a == b) = true then 0 else 1
  | [], [] => by simp [Lib.compareBytes, Op.bytesLess]
  | [], _ :: _ => by simp [Lib.compareBytes, Op.bytesLess]
  | _ :: _, [] => by simp [Lib.compareBytes, Op.bytesLess]
  | x :: a, y :: b => by
    unfold Lib.compareBytes Op.bytesLess
    by_cases h : x < y
    · simp [h]
    · by_cases h2 : y < x
      · have hne : x ≠ y := fun e => by subst e; exact UInt8.lt_irrefl x h2
        simp [h, h2, hne]
      · have he : x = y := UInt8.le_antisymm (UInt8.not_lt.1 h2) (UInt8.not_lt.1 h)
        subst he
        have ih := cmpB a b
        simp only [h, if_false, ih]
        simp
/-- The order, by the three tests of the reference. -/
theorem befR_tests (a b : ByteArray) (i j : Int) : befR a i b j = (Op.bytesLess a.toList b.toList || ((a.toList == b.toList) && decide (i < j))) := by
  unfold befR cmpS
  rw [cmpB, ← Lib.toList_data, ← Lib.toList_data]
  cases h : Op.bytesLess a.toList b.toList
  · cases h2 : a.toList == b.toList
    · simp [orR]
    · simp only [orR, cmpI]
      by_cases h3 : i < j
      · simp [h3]
      · by_cases h4 : j < i <;> simp [h3, h4]
  · simp [orR]
theorem less_ne {a b : ByteArray} (h : Op.bytesLess a.toList b.toList = true) : (a.toList == b.toList) = false := by
  cases h2 : a.toList == b.toList
  · rfl
  · rw [eq_of_beq h2, less_irrefl] at h; cases h
theorem litOk_tests (l : Int) (n m : Nat) (hm : m = 2 * n) : litOk l n = (!decide (l < 0) && !decide ((m : Int) ≤ l)) := by
  unfold litOk
  subst hm
  rw [Bool.eq_iff_iff]
  simp
end Go.Proofs.Ytmbogdimjbhbmaa
