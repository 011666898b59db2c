/- Tokens of long texts of one byte: mathematics for LexerNames. -/
import Derived.Test.YtejjbbgompddeaaDoorLexBackMore
namespace Go.Proofs.YtejjbbgompddeaaDoor
set_option linter.unusedVariables false
set_option linter.unusedSimpArgs false

def mkT : Tk := ⟨4, [44], 0⟩
theorem run_marks : ∀ (k f a : Nat) (acc : List (Tk × Nat)), k < f → acc.length ≤ 20000 →
    (acc.length + k ≤ 20000 → ∃ M : List (Tk × Nat), M.length = acc.length + k ∧ run f (List.replicate k 44) a acc = (M, 0, 0)) ∧
    (20000 < acc.length + k → run f (List.replicate k 44) a acc = ([], a + (20000 - acc.length), 4))
  | 0, f, a, acc, hf, ha => by
    obtain ⟨g, rfl⟩ : ∃ g, f = g + 1 := ⟨f - 1, by omega⟩
    refine ⟨fun _ => ⟨acc, by omega, rfl⟩, fun h => by omega⟩
  | k + 1, f, a, acc, hf, ha => by
    obtain ⟨g, rfl⟩ : ∃ g, f = g + 1 := ⟨f - 1, by omega⟩
    have e0 : List.replicate (k + 1) (44 : UInt8) = 44 :: List.replicate k 44 := rfl
    have hs : skipN (44 :: List.replicate k (44 : UInt8)) = 0 := skipN_head (by decide) (by decide)
    have hn : nextT (44 :: List.replicate k (44 : UInt8)) = some (mkT, 1) := by
      simp only [nextT]
      rw [if_neg (by decide), if_pos (by decide)]
      rfl
    rw [run_step, e0, hs, List.drop_zero, if_neg (by simp), hn]
    simp only
    by_cases hq : 20000 ≤ acc.length
    · rw [if_pos hq]
      refine ⟨fun h => by omega, fun h => ?_⟩
      rw [show 20000 - acc.length = 0 by omega]
    · rw [if_neg hq]
      have ih := run_marks k g (a + 0 + 1) (acc ++ [(mkT, a + 0)]) (by omega) (by rw [List.length_append]; simp; omega)
      have el : (acc ++ [(mkT, a + 0)]).length = acc.length + 1 := by simp
      rw [el] at ih
      have ed : (44 :: List.replicate k (44 : UInt8)).drop 1 = List.replicate k 44 := rfl
      rw [ed]
      refine ⟨fun h => ?_, fun h => ?_⟩
      · obtain ⟨M, h1, h2⟩ := ih.1 (by omega)
        exact ⟨M, by omega, h2⟩
      · rw [ih.2 (by omega), show a + 0 + 1 + (20000 - (acc.length + 1)) = a + (20000 - acc.length) by omega]
theorem lex_full : ∃ M : List (Tk × Nat), M.length = 20000 ∧ lexR (List.replicate 20000 44) = (M, 0, 0) := by
  obtain ⟨M, h1, h2⟩ := (run_marks 20000 20001 0 [] (by omega) (by simp)).1 (by simp)
  refine ⟨M, by simpa using h1, ?_⟩
  unfold lexR
  rw [List.length_replicate, if_neg (by omega)]
  exact h2
theorem lex_over : lexR (List.replicate 20001 44) = ([], 20000, 4) := by
  have h := (run_marks 20001 20002 0 [] (by omega) (by simp)).2 (by simp)
  unfold lexR
  rw [List.length_replicate, if_neg (by omega)]
  exact h
theorem lex_large : lexR (List.replicate 65537 44) = ([], 0, 4) := by
  unfold lexR
  rw [List.length_replicate, if_pos (by omega)]
theorem skip_blanks : ∀ k : Nat, skipN (List.replicate k 32) = k
  | 0 => rfl
  | k + 1 => by
    show skipN (32 :: List.replicate k 32) = _
    unfold skipN
    rw [if_pos rfl, skip_blanks k]
theorem lex_blanks : lexR (List.replicate 65536 32) = ([], 0, 0) := by
  unfold lexR
  rw [List.length_replicate, if_neg (by omega)]
  rw [run_step, skip_blanks, if_pos]
  exact List.drop_of_length_le (by rw [List.length_replicate]; exact Nat.le_refl _)

/-- Does a text have these tokens? -/
def readsB (l : List UInt8) (xs : List Tk) : Bool := decide ((lexR l).1.map (fun y => y.1) = xs) && decide ((lexR l).2 = (0, 0))
theorem readsB_yes {l : List UInt8} {xs : List Tk} (h : readsB l xs = true) : ∃ M : List (Tk × Nat), lexR l = (M, 0, 0) ∧ M.map (fun y => y.1) = xs := by
  unfold readsB at h
  simp only [Bool.and_eq_true, decide_eq_true_eq] at h
  refine ⟨(lexR l).1, ?_, h.1⟩
  exact Prod.ext rfl h.2
def failsB (l : List UInt8) (q : Nat) : Bool := decide (lexR l = ([], q, 12))
theorem failsB_yes {l : List UInt8} {q : Nat} (h : failsB l q = true) : lexR l = ([], q, 12) := by
  unfold failsB at h
  exact of_decide_eq_true h
example : readsB [97, 100, 100, 32, 114, 49, 44, 32, 45, 49, 50] [⟨1, [97, 100, 100], 0⟩, ⟨1, [114, 49], 0⟩, ⟨4, [44], 0⟩, ⟨2, [45, 49, 50], -12⟩] = true := by decide +kernel
example : failsB [97, 32, 36, 32, 98] 2 = true := by decide +kernel
end Go.Proofs.YtejjbbgompddeaaDoor
