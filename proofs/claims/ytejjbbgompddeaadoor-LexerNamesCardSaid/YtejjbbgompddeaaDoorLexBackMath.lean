/- The text of tokens, and the tokens of that text. -/
import Derived.Test.YtejjbbgompddeaaDoorLexJoinMath
import Derived.Test.YtejjbbgompddeaaDoorLexCov
namespace Go.Proofs.YtejjbbgompddeaaDoor
set_option linter.unusedVariables false
set_option linter.unusedSimpArgs false

/-- A token: it is what its own text gives. -/
def tokB (x : Tk) : Bool := decide (nextT (wr x) = some (x, (wr x).length))
theorem tokB_iff {x : Tk} : tokB x = true ↔ nextT (wr x) = some (x, (wr x).length) := by unfold tokB; exact decide_eq_true_iff
/-- What goes ahead of a token's text. -/
def sepL (b : Bool) (x : Tk) : List UInt8 := if (b || x.k == 5) = true then [] else [32]
def prF : Bool → List Tk → List UInt8
  | _, [] => []
  | b, x :: L => sepL b x ++ (wr x ++ prF (x.k == 5) L)
def lastB : Bool → List Tk → Bool
  | b, [] => b
  | _, x :: L => lastB (x.k == 5) L
theorem prF_snoc : ∀ (b : Bool) (L : List Tk) (x : Tk), prF b (L ++ [x]) = prF b L ++ (sepL (lastB b L) x ++ wr x)
  | b, [], x => by simp [prF, lastB]
  | b, y :: L, x => by
    show prF b (y :: (L ++ [x])) = _
    simp only [prF, lastB, prF_snoc (y.k == 5) L x, List.append_assoc]
theorem lastB_snoc : ∀ (b : Bool) (L : List Tk) (x : Tk), lastB b (L ++ [x]) = (x.k == 5)
  | b, [], x => rfl
  | b, y :: L, x => by show lastB (y.k == 5) (L ++ [x]) = _; exact lastB_snoc _ L x
theorem nextT_head {l : List UInt8} {x : Tk} {n : Nat} (h : nextT l = some (x, n)) : ∃ c t, l = c :: t ∧ c ≠ 32 ∧ c ≠ 35 := by
  cases l with
  | nil => cases h
  | cons c t =>
    refine ⟨c, t, rfl, ?_, ?_⟩
    · rintro rfl
      simp only [nextT] at h
      rw [if_neg (by decide), if_neg (by decide), if_neg (by decide), if_neg (by decide), if_neg (by decide)] at h
      cases h
    · rintro rfl
      simp only [nextT] at h
      rw [if_neg (by decide), if_neg (by decide), if_neg (by decide), if_neg (by decide), if_neg (by decide)] at h
      cases h
theorem skipN_head {c : UInt8} {t : List UInt8} (h1 : c ≠ 32) (h2 : c ≠ 35) : skipN (c :: t) = 0 := by
  unfold skipN; rw [if_neg h1, if_neg h2]
theorem cls_9 {c : Nat} (h : cls c = 9) : c = 10 := by
  revert h; unfold cls; repeat' split
  all_goals first | (intro h; omega) | (intro h; contradiction)
/-- The token of a line's end. -/
theorem nextT_line {l : List UInt8} {x : Tk} {n : Nat} (h : nextT l = some (x, n)) (hk : x.k = 5) : x = ⟨5, [10], 0⟩ := by
  cases l with
  | nil => cases h
  | cons c t =>
    simp only [nextT] at h
    by_cases h9 : cls c.toNat = 9
    · rw [if_pos h9] at h; cases h
      have : c = 10 := UInt8.toNat_inj.1 (cls_9 h9)
      rw [this]
    rw [if_neg h9] at h
    by_cases h8 : cls c.toNat = 8
    · rw [if_pos h8] at h; cases h; cases hk
    rw [if_neg h8] at h
    by_cases h7 : cls c.toNat = 7
    · rw [if_pos h7] at h
      split at h
      · cases h; cases hk
      · cases h
    rw [if_neg h7] at h
    by_cases h3 : cls c.toNat = 3
    · rw [if_pos h3] at h
      split at h
      · cases h; cases hk
      · cases h
    rw [if_neg h3] at h
    by_cases h46 : cls c.toNat = 4 ∨ cls c.toNat = 6
    · rw [if_pos h46] at h
      split at h
      · cases h; cases hk
      · cases h
    · rw [if_neg h46] at h; cases h
theorem wr_line {x : Tk} (h : tokB x = true) (hk : x.k = 5) : x = ⟨5, [10], 0⟩ ∧ wr x = [10] := by
  have := nextT_line (tokB_iff.1 h) hk
  subst this
  exact ⟨rfl, rfl⟩
/-- A token ahead of others. -/
theorem nextT_pr {x : Tk} {L : List Tk} (hx : tokB x = true) (hL : ∀ y ∈ L, tokB y = true) : nextT (wr x ++ prF (x.k == 5) L) = some (x, (wr x).length) := by
  by_cases hk : x.k = 5
  · obtain ⟨e1, e2⟩ := wr_line hx hk
    rw [e2, e1]
    show nextT (10 :: _) = _
    simp only [nextT]
    rw [if_pos (by decide)]; rfl
  · have hb : (x.k == 5) = false := by simpa using hk
    rw [hb]
    cases L with
    | nil => show nextT (wr x ++ []) = _; rw [List.append_nil]; exact tokB_iff.1 hx
    | cons y L =>
      have hy := hL y (by simp)
      simp only [prF]
      by_cases hky : y.k = 5
      · obtain ⟨e1, e2⟩ := wr_line hy hky
        have e3 : sepL false y = [] := by unfold sepL; rw [hky]; rfl
        rw [e3, e2]
        exact nextT_app 10 _ (by decide) (tokB_iff.1 hx)
      · have e3 : sepL false y = [32] := by
          unfold sepL
          rw [if_neg (by simpa using hky)]
        rw [e3]
        exact nextT_app 32 _ (by decide) (tokB_iff.1 hx)
theorem back_cov : ∀ (L : List Tk) (b : Bool), (∀ x ∈ L, tokB x = true) → ∃ M : List (Tk × Nat), M.map (fun y => y.1) = L ∧ CovTo (prF b L) 0 M (prF b L).length
  | [], b, _ => ⟨[], rfl, Nat.zero_le _, rfl⟩
  | x :: L, b, h => by
    obtain ⟨M, hM, hc⟩ := back_cov L (x.k == 5) (fun y hy => h y (List.mem_cons_of_mem _ hy))
    have hx := h x (by simp)
    have hcp := covTo_pre (sepL b x ++ wr x) (prF (x.k == 5) L) M 0 _ hc
    have hn := nextT_pr hx (fun y hy => h y (List.mem_cons_of_mem _ hy))
    obtain ⟨c, t, hct, c1, c2⟩ := nextT_head hn
    have e0 : prF b (x :: L) = sepL b x ++ (wr x ++ prF (x.k == 5) L) := rfl
    have e1 : (sepL b x ++ wr x) ++ prF (x.k == 5) L = prF b (x :: L) := by rw [e0, List.append_assoc]
    have hs : skipN (prF b (x :: L)) = (sepL b x).length := by
      rw [e0, hct]
      unfold sepL
      split
      · exact skipN_head c1 c2
      · show skipN (32 :: (c :: t)) = 1
        unfold skipN; rw [if_pos rfl, skipN_head c1 c2]
    refine ⟨(x, (sepL b x).length) :: movT (sepL b x ++ wr x).length M, ?_, Nat.zero_le _, ?_, (wr x).length, ?_, ?_⟩
    · rw [List.map_cons]
      congr 1
      unfold movT
      rw [List.map_map]
      exact hM
    · rw [List.drop_zero, hs]; omega
    · rw [e0, List.drop_left]; exact hn
    · rw [e1, Nat.add_zero, List.length_append] at hcp
      have e2 : (prF b (x :: L)).length = (sepL b x).length + (wr x).length + (prF (x.k == 5) L).length := by rw [e0]; simp only [List.length_append]; omega
      rw [e2, List.length_append]
      exact hcp
/-- The tokens of the text of tokens. -/
theorem back_lex {L : List Tk} (h : ∀ x ∈ L, tokB x = true) (hL : L.length ≤ 20000) (hs : (prF true L).length ≤ 65536) : ∃ M : List (Tk × Nat), M.map (fun y => y.1) = L ∧ lexR (prF true L) = (M, 0, 0) := by
  obtain ⟨M, hM, hc⟩ := back_cov L true h
  have hlen : M.length = L.length := by rw [← hM, List.length_map]
  refine ⟨M, hM, (lex_ok hs hc ?_).1 (by omega)⟩
  unfold EndOK
  exact List.drop_of_length_le (Nat.le_add_right _ _)

theorem tw_tw (p : UInt8 → Bool) : ∀ l : List UInt8, (l.takeWhile p).takeWhile p = l.takeWhile p
  | [] => rfl
  | c :: t => by
    rw [List.takeWhile_cons]
    by_cases h : p c = true
    · rw [if_pos h, List.takeWhile_cons, if_pos h, tw_tw p t]
    · rw [if_neg h]; rfl
/-- A token that a text gives is one. -/
theorem tokB_of {l : List UInt8} {x : Tk} {n : Nat} (h : nextT l = some (x, n)) : tokB x = true := by
  rw [tokB_iff]
  cases l with
  | nil => cases h
  | cons c t =>
    simp only [nextT] at h
    by_cases h9 : cls c.toNat = 9
    · rw [if_pos h9] at h; cases h
      show nextT [c] = _
      simp only [nextT]; rw [if_pos h9]; rfl
    rw [if_neg h9] at h
    by_cases h8 : cls c.toNat = 8
    · rw [if_pos h8] at h; cases h
      show nextT [c] = _
      simp only [nextT]; rw [if_neg h9, if_pos h8]; rfl
    rw [if_neg h8] at h
    by_cases h7 : cls c.toNat = 7
    · rw [if_pos h7] at h
      split at h
      · rename_i hq
        cases h
        simp only [Bool.and_eq_true, decide_eq_true_eq] at hq
        show nextT (34 :: (textB3 t ++ [34])) = some (_, (34 :: (textB3 t ++ [34])).length)
        have e : textB3 (textB3 t ++ [34]) = textB3 t := by
          unfold textB3
          rw [takeWhile_app _ _ 34 [] (by decide), tw_tw]
        simp only [nextT]
        rw [if_neg (by decide), if_neg (by decide), if_pos (by decide), e, if_pos (by simp [hq.2])]
        simp
      · cases h
    rw [if_neg h7] at h
    have hw : wordB c (t.takeWhile isW) = wordB c t := by unfold wordB; rw [tw_tw]
    by_cases h3 : cls c.toNat = 3
    · rw [if_pos h3] at h
      split at h
      · rename_i hq
        cases h
        show nextT (c :: t.takeWhile isW) = some (_, (wordB c t).length)
        simp only [nextT]
        rw [if_neg h9, if_neg h8, if_neg h7, if_pos h3, hw, if_pos hq]
      · cases h
    rw [if_neg h3] at h
    by_cases h46 : cls c.toNat = 4 ∨ cls c.toNat = 6
    · rw [if_pos h46] at h
      split at h
      · rename_i m hv
        cases h
        show nextT (c :: t.takeWhile isW) = some (_, (wordB c t).length)
        simp only [nextT]
        rw [if_neg h9, if_neg h8, if_neg h7, if_neg h3, if_pos h46, hw, hv]
      · cases h
    · rw [if_neg h46] at h; cases h
def wrSum (L : List Tk) : Nat := L.foldr (fun x n => (wr x).length + n) 0
theorem cov_sum (l : List UInt8) : ∀ (L : List (Tk × Nat)) (a : Nat), Cov l a L → wrSum (L.map fun y => y.1) + a ≤ l.length ∧ ∀ y ∈ L, tokB y.1 = true
  | [], a, h => ⟨by simpa [wrSum] using h.1, by simp⟩
  | (x, p) :: t, a, h => by
    obtain ⟨ha, hp, n, hx, hc⟩ := h
    obtain ⟨n1, n2, n3, _⟩ := nextT_le hx
    obtain ⟨h1, h2⟩ := cov_sum l t (p + n) hc
    refine ⟨?_, ?_⟩
    · have e : wrSum (((x, p) :: t).map fun y => y.1) = (wr x).length + wrSum (t.map fun y => y.1) := rfl
      rw [e]; omega
    · intro y hy
      rcases List.mem_cons.1 hy with rfl | hy
      · exact tokB_of hx
      · exact h2 y hy
theorem prF_len : ∀ (L : List Tk) (b : Bool), (prF b L).length ≤ wrSum L + L.length
  | [], b => by simp [prF]
  | x :: L, b => by
    have ih := prF_len L (x.k == 5)
    have e : wrSum (x :: L) = (wr x).length + wrSum L := rfl
    have hs : (sepL b x).length ≤ 1 := by unfold sepL; split <;> simp
    simp only [prF, List.length_append, List.length_cons, e]
    omega
/-- What a text's tokens are. -/
theorem lex_toks {l : List UInt8} (h : (lexR l).2.2 = 0) : (∀ y ∈ (lexR l).1, tokB y.1 = true) ∧ (prF true ((lexR l).1.map fun y => y.1)).length ≤ l.length + (lexR l).1.length := by
  obtain ⟨h1, h2⟩ := cov_lex h
  obtain ⟨h3, h4⟩ := cov_sum l _ 0 h2
  have h5 := prF_len ((lexR l).1.map fun y => y.1) true
  rw [List.length_map] at h5
  exact ⟨h4, by omega⟩
end Go.Proofs.YtejjbbgompddeaaDoor
