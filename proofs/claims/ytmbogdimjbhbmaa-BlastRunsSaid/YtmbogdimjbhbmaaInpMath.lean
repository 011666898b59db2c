/- What Inputs has to give, in plain words. -/
import Derived.Test.YtmbogdimjbhbmaaEnvFind
import Derived.Test.YtmbogdimjbhbmaaRunValue
namespace Go.Proofs.Ytmbogdimjbhbmaa
open Go.RowKit Go.Sort
set_option linter.unusedVariables false
set_option linter.unusedSimpArgs false

section
variable (M : Nat → ByteArray) (B : Nat → Int) (N : Nat → ByteArray) (D : Nat → Int) (X : Nat → Nat) (n : Nat)
/-- Where the variable of input i is bound. -/
def idxR (i : Nat) : Nat := placeE N (M i) n
def foundR (i : Nat) : Bool := decide (idxR M N n i < n) && decide (N (idxR M N n i) = M i)
/-- The error of input i. -/
def stepR (i : Nat) : Nat := if foundR M N n i = true then (if D (idxR M N n i) ≤ B i then 2 else 0) else 16
def bitR (i : Nat) : Bool := decide (X (idxR M N n i) / 2 ^ (B i).toNat % 2 = 1)
def bitsR (k : Nat) : List Bool := (List.range k).map (bitR M B N X n)
theorem bitsR_succ (k : Nat) : bitsR M B N X n (k + 1) = bitsR M B N X n k ++ [bitR M B N X n k] := by simp [bitsR, List.range_succ]
theorem bitsR_length (k : Nat) : (bitsR M B N X n k).length = k := by simp [bitsR]
end
/-- The first inputs have values; then comes an error, or the end. -/
def InpIs (M : Nat → ByteArray) (B P Q O : Nat → Int) (ni ng no : Nat) (N : Nat → ByteArray) (D : Nat → Int) (X : Nat → Nat) (n : Nat) (L : List Bool) (err : Nat) : Prop :=
  (chkR M B P Q O ni ng no ≠ 0 ∧ L = [] ∧ err = chkR M B P Q O ni ng no) ∨
  (chkR M B P Q O ni ng no = 0 ∧ envR N D X n ≠ 0 ∧ L = [] ∧ err = 8) ∨
  (chkR M B P Q O ni ng no = 0 ∧ envR N D X n = 0 ∧ ∃ k, k ≤ ni ∧ (∀ i, i < k → stepR M B N D n i = 0) ∧ ((k < ni ∧ stepR M B N D n k = err ∧ err ≠ 0 ∧ L = []) ∨ (k = ni ∧ L = bitsR M B N X n ni ∧ err = 0)))
theorem inpIs_some (M : Nat → ByteArray) (B P Q O : Nat → Int) (ni ng no : Nat) (N : Nat → ByteArray) (D : Nat → Int) (X : Nat → Nat) (n : Nat) : ∃ L err, InpIs M B P Q O ni ng no N D X n L err := by
  unfold InpIs
  by_cases h1 : chkR M B P Q O ni ng no = 0
  · by_cases h2 : envR N D X n = 0
    · have key : ∀ m, m ≤ ni → (∀ i, i < m → stepR M B N D n i = 0) ∨ ∃ k, k < m ∧ (∀ i, i < k → stepR M B N D n i = 0) ∧ stepR M B N D n k ≠ 0 := by
        intro m
        induction m with
        | zero => intro _; exact .inl fun i hi => by omega
        | succ m ih =>
          intro hm
          rcases ih (by omega) with h | ⟨k, hk, h3, h4⟩
          · by_cases h5 : stepR M B N D n m = 0
            · refine .inl fun i hi => ?_
              by_cases e : i = m
              · rw [e]; exact h5
              · exact h i (by omega)
            · exact .inr ⟨m, by omega, h, h5⟩
          · exact .inr ⟨k, by omega, h3, h4⟩
      rcases key ni (Nat.le_refl _) with h | ⟨k, hk, h3, h4⟩
      · exact ⟨_, 0, .inr (.inr ⟨h1, h2, ni, Nat.le_refl _, h, .inr ⟨rfl, rfl, rfl⟩⟩)⟩
      · exact ⟨[], _, .inr (.inr ⟨h1, h2, k, by omega, h3, .inl ⟨hk, rfl, h4, rfl⟩⟩)⟩
    · exact ⟨[], 8, .inr (.inl ⟨h1, h2, rfl, rfl⟩)⟩
  · exact ⟨[], _, .inl ⟨h1, rfl, rfl⟩⟩
theorem envR_zero {N : Nat → ByteArray} {D : Nat → Int} {X : Nat → Nat} {n : Nat} (h : envR N D X n = 0) : n ≤ 1000 ∧ allTo (bndOk N D X) n = true := by
  unfold envR at h
  split at h
  · cases h
  · split at h
    · rename_i h1 h2; exact ⟨by omega, h2⟩
    · cases h
theorem notFound {M : Nat → ByteArray} {N : Nat → ByteArray} {D : Nat → Int} {X : Nat → Nat} {n i : Nat} (h : allTo (bndOk N D X) n = true) (hf : foundR M N n i = false) : NotIn N (M i) n := fun j hj e => by
  unfold foundR idxR at hf
  rw [← e, place_yes h j hj, decide_eq_true hj, decide_eq_true rfl] at hf
  cases hf
theorem found {M : Nat → ByteArray} {N : Nat → ByteArray} {n i : Nat} (hf : foundR M N n i = true) : idxR M N n i < n ∧ N (idxR M N n i) = M i := by
  unfold foundR at hf
  simpa using hf
/-- The three ways of an input. -/
theorem step_ways (M : Nat → ByteArray) (B : Nat → Int) (N : Nat → ByteArray) (D : Nat → Int) (X : Nat → Nat) (n i : Nat) (h : allTo (bndOk N D X) n = true) :
    (NotIn N (M i) n ∧ stepR M B N D n i = 16) ∨ ∃ e, e < n ∧ N e = M i ∧ idxR M N n i = e ∧ ((D e ≤ B i ∧ stepR M B N D n i = 2) ∨ (B i < D e ∧ stepR M B N D n i = 0)) := by
  cases hf : foundR M N n i
  · exact .inl ⟨notFound h hf, by unfold stepR; rw [hf]; rfl⟩
  · obtain ⟨h1, h2⟩ := found hf
    refine .inr ⟨_, h1, h2, rfl, ?_⟩
    by_cases h3 : D (idxR M N n i) ≤ B i
    · exact .inl ⟨h3, by unfold stepR; rw [hf, if_pos rfl, if_pos h3]⟩
    · exact .inr ⟨by omega, by unfold stepR; rw [hf, if_pos rfl, if_neg h3]⟩
theorem bnd_width {N : Nat → ByteArray} {D : Nat → Int} {X : Nat → Nat} {n e : Nat} (h : allTo (bndOk N D X) n = true) (he : e < n) : 1 ≤ D e ∧ D e ≤ 64 := by
  have h1 := allTo_at _ n h e he
  unfold bndOk okR at h1
  simp only [Bool.and_eq_true] at h1
  have h2 := h1.1.2
  split at h2
  · assumption
  · cases h2
theorem in_bit {M : Nat → ByteArray} {B : Nat → Int} {ni i : Nat} (h : inputsR M B ni = true) (hi : i < ni) : 0 ≤ B i ∧ B i < 64 := by
  have h1 := allTo_at _ ni h i hi
  unfold inOk at h1
  simp only [Bool.and_eq_true, Bool.not_eq_true', decide_eq_false_iff_not] at h1
  omega
end Go.Proofs.Ytmbogdimjbhbmaa
