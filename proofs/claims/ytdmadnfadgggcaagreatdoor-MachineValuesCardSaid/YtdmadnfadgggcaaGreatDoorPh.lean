import Derived.Test.YtdmadnfadgggcaaGreatDoorPf
import Derived.Test.YtdmadnfadgggcaaGreatDoorGp
import Derived.Test.YtdmadnfadgggcaaGreatDoorPe
set_option linter.unusedVariables false
set_option linter.unusedSimpArgs false
set_option warningAsError false
namespace Go.Proofs.YtdmadnfadgggcaaGreatDoor
open Go.RowKit Go.Instr
set_option maxRecDepth 100000
theorem zdh {p : Int -> Nat -> Bool} {L : List Int} {V : List Nat} : eqF p L V = true ↔ L.length = V.length /\ ∀ (k : Nat) z x, L[k]? = some z -> V[k]? = some x -> p z x = true := by
 unfold eqF;rw [Bool.and_eq_true, decide_eq_true_eq, List.all_eq_true];refine ⟨fun ⟨h1, h2⟩ => ⟨h1, fun k z x hz hx => ?_⟩, fun ⟨h1, h2⟩ => ⟨h1, fun q hq => ?_⟩⟩
 ·exact h2 (z, x) (List.mem_of_getElem? (i := k) (by rw [List.getElem?_zip_eq_some]; exact ⟨hz, hx⟩))
 ·obtain ⟨k, hk⟩ := List.getElem?_of_mem hq;rw [List.getElem?_zip_eq_some] at hk;exact h2 k _ _ hk.1 hk.2
theorem zg0 (l w t : Nat) : (mk w * 2 ^ l).testBit t = (decide (l <= t) && decide (t < l + w)) := by
 unfold mk;rw [Nat.testBit_mul_two_pow, Nat.testBit_two_pow_sub_one];by_cases h : l <= t
 ·simp [h]; omega
 ·simp [h]
end Go.Proofs.YtdmadnfadgggcaaGreatDoor
