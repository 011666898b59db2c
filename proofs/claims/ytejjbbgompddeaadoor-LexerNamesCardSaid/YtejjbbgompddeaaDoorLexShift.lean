/- Tokens of longer texts: what stands before and behind does not change them. -/
import Derived.Test.YtejjbbgompddeaaDoorLexCov
namespace Go.Proofs.YtejjbbgompddeaaDoor
set_option linter.unusedVariables false
set_option linter.unusedSimpArgs false

theorem run_cov (l : List UInt8) : ∀ (L : List (Tk × Nat)) (f a : Nat) (acc : List (Tk × Nat)), Cov l a L → acc.length + L.length ≤ 20000 → (l.drop a).length < f → run f (l.drop a) a acc = (acc ++ L, 0, 0)
  | [], f, a, acc, h, hn, hf => by
    obtain ⟨g, rfl⟩ : ∃ g, f = g + 1 := ⟨f - 1, by omega⟩
    have hd : (l.drop a).drop (skipN (l.drop a)) = l.drop (a + skipN (l.drop a)) := List.drop_drop ..
    unfold run
    rw [hd, if_pos h.2, List.append_nil]
  | (x, p) :: t, f, a, acc, h, hn, hf => by
    obtain ⟨g, rfl⟩ : ∃ g, f = g + 1 := ⟨f - 1, by omega⟩
    obtain ⟨ha, hp, n, hx, hc⟩ := h
    have hd : (l.drop a).drop (skipN (l.drop a)) = l.drop (a + skipN (l.drop a)) := List.drop_drop ..
    obtain ⟨n1, n2, _, _⟩ := nextT_le hx
    have hs := skipN_le (l.drop a)
    rw [List.length_drop] at n2 hs hf
    unfold run
    rw [hd, ← hp, if_neg (by intro e; rw [e] at hx; cases hx), hx]
    simp only [List.length_cons] at hn ⊢
    rw [if_neg (by omega), List.drop_drop, run_cov l t g (p + n) (acc ++ [(x, p)]) hc (by rw [List.length_append]; simp; omega) (by rw [List.length_drop]; omega)]
    simp
theorem lex_cov {l : List UInt8} {L : List (Tk × Nat)} (hl : l.length ≤ 65536) (hL : L.length ≤ 20000) (h : Cov l 0 L) : lexR l = (L, 0, 0) := by
  unfold lexR
  rw [if_neg (by omega)]
  have := run_cov l L (l.length + 1) 0 [] h (by simpa using hL) (by simp)
  simpa using this
theorem cov_len (l : List UInt8) : ∀ (L : List (Tk × Nat)) (a : Nat), Cov l a L → L.length + a ≤ l.length
  | [], a, h => by simpa using h.1
  | (x, p) :: t, a, h => by
    obtain ⟨ha, hp, n, hx, hc⟩ := h
    obtain ⟨n1, n2, _, _⟩ := nextT_le hx
    have := cov_len l t (p + n) hc
    simp only [List.length_cons]
    omega

theorem takeWhile_app (p : UInt8 → Bool) : ∀ (t : List UInt8) (c : UInt8) (q : List UInt8), p c = false → (t ++ c :: q).takeWhile p = t.takeWhile p
  | [], c, q, h => by simp [List.takeWhile_cons, h]
  | x :: t, c, q, h => by
    rw [List.cons_append, List.takeWhile_cons, List.takeWhile_cons]
    by_cases hx : p x = true
    · rw [if_pos hx, if_pos hx, takeWhile_app p t c q h]
    · rw [if_neg hx, if_neg hx]
theorem takeWhile_in (p : UInt8 → Bool) : ∀ (t q : List UInt8), (t.takeWhile p).length < t.length → (t ++ q).takeWhile p = t.takeWhile p
  | [], q, h => by simp at h
  | x :: t, q, h => by
    rw [List.cons_append, List.takeWhile_cons]
    rw [List.takeWhile_cons] at h
    conv => rhs; rw [List.takeWhile_cons]
    by_cases hx : p x = true
    · rw [if_pos hx] at h ⊢
      rw [if_pos hx, takeWhile_in p t q (by simpa using h)]
    · rw [if_neg hx, if_neg hx]
/-- A token stays what it is where no byte of a word follows the text. -/
theorem nextT_app {l : List UInt8} {x : Tk} {n : Nat} (c : UInt8) (q : List UInt8) (hc : isW c = false) (h : nextT l = some (x, n)) : nextT (l ++ c :: q) = some (x, n) := by
  cases l with
  | nil => cases h
  | cons b t =>
    have hw : wordB b (t ++ c :: q) = wordB b t := by unfold wordB; rw [takeWhile_app isW t c q hc]
    rw [List.cons_append]
    simp only [nextT] at h ⊢
    rw [hw]
    by_cases h9 : cls b.toNat = 9
    · rw [if_pos h9] at h ⊢; exact h
    rw [if_neg h9] at h ⊢
    by_cases h8 : cls b.toNat = 8
    · rw [if_pos h8] at h ⊢; exact h
    rw [if_neg h8] at h ⊢
    by_cases h7 : cls b.toNat = 7
    · rw [if_pos h7] at h ⊢
      by_cases hq : (decide ((textB3 t).length < t.length) && (textB3 t).all prn) = true
      · rw [if_pos hq] at h
        simp only [Bool.and_eq_true, decide_eq_true_eq] at hq
        have ht : textB3 (t ++ c :: q) = textB3 t := takeWhile_in _ t (c :: q) hq.1
        rw [ht, if_pos (by rw [hq.2]; simp only [Bool.and_true, decide_eq_true_eq, List.length_append]; omega)]
        exact h
      · rw [if_neg hq] at h; cases h
    rw [if_neg h7] at h ⊢
    exact h
/-- Spaces and remarks ahead of a token stay what they are. -/
theorem skipN_app : ∀ (l q : List UInt8), l.drop (skipN l) ≠ [] → skipN (l ++ q) = skipN l
  | [], q, h => absurd rfl h
  | c :: t, q, h => by
    rw [List.cons_append]
    unfold skipN at h ⊢
    by_cases h1 : c = 32
    · rw [if_pos h1] at h ⊢
      rw [if_pos h1, skipN_app t q (by simpa using h)]
    · rw [if_neg h1] at h ⊢
      rw [if_neg h1]
      by_cases h2 : c = 35
      · rw [if_pos h2] at h ⊢
        rw [if_pos h2]
        have : (t.takeWhile (fun b => b != 10)).length < t.length := by
          rcases Nat.lt_or_ge (t.takeWhile (fun b => b != 10)).length t.length with h' | h'
          · exact h'
          · exact absurd (List.drop_of_length_le (by simpa using h')) h
        rw [takeWhile_in _ t q this]
      · rw [if_neg h2, if_neg h2]
theorem tw_all (p : UInt8 → Bool) : ∀ l : List UInt8, l.takeWhile p = l ↔ ∀ c ∈ l, p c = true
  | [] => by simp
  | x :: t => by
    have ih := tw_all p t
    rw [List.takeWhile_cons]
    by_cases h : p x = true
    · rw [if_pos h]
      constructor
      · intro e c hc
        rcases List.mem_cons.1 hc with rfl | hc
        · exact h
        · exact ih.1 (by injection e) c hc
      · intro e; rw [ih.2 (fun c hc => e c (List.mem_cons_of_mem _ hc))]
    · rw [if_neg h]
      constructor
      · intro e; cases e
      · intro e; exact absurd (e x (List.mem_cons_self ..)) h
theorem skip_2 (u : List UInt8) : skipN (32 :: u) = skipN u + 1 := by
  conv => lhs; unfold skipN
  simp
theorem skip_r (u : List UInt8) : skipN (35 :: u) = (u.takeWhile (fun b => b != 10)).length + 1 := by
  conv => lhs; unfold skipN
  rw [if_neg (by decide)]
  simp
/-- A remark behind the end. -/
theorem skipN_rem (r : List UInt8) (hr : ∀ c ∈ r, c ≠ 10) : ∀ l : List UInt8, l.drop (skipN l) = [] → (l ++ 32 :: 35 :: r).drop (skipN (l ++ 32 :: 35 :: r)) = []
  | [], _ => by
    have : r.takeWhile (fun b => b != 10) = r := by
      rw [tw_all]; intro c hc; simpa using hr c hc
    show (32 :: 35 :: r).drop (skipN (32 :: 35 :: r)) = []
    have e : skipN (32 :: 35 :: r) = r.length + 2 := by
      rw [skip_2, skip_r, this]
    rw [e]; simp
  | c :: t, h => by
    rw [List.cons_append]
    unfold skipN at h ⊢
    by_cases h1 : c = 32
    · rw [if_pos h1] at h ⊢
      simpa using skipN_rem r hr t (by simpa using h)
    · rw [if_neg h1] at h ⊢
      by_cases h2 : c = 35
      · rw [if_pos h2] at h ⊢
        have ht : t.takeWhile (fun b => b != 10) = t := by
          have hl : t.length ≤ (t.takeWhile (fun b => b != 10)).length := by
            have := congrArg List.length h
            simp only [List.drop_succ_cons, List.length_drop, List.length_nil] at this
            omega
          exact (List.takeWhile_sublist _).eq_of_length_le hl
        have : (t ++ 32 :: 35 :: r).takeWhile (fun b => b != 10) = t ++ 32 :: 35 :: r := by
          rw [tw_all]
          rw [tw_all] at ht
          intro b hb
          rcases List.mem_append.1 hb with hb | hb
          · exact ht b hb
          · simp only [List.mem_cons] at hb
            rcases hb with rfl | rfl | hb
            · decide
            · decide
            · simpa using hr b hb
        rw [this]; simp
      · rw [if_neg h2] at h; cases h
/-- Places moved by k. -/
def movT (k : Nat) (L : List (Tk × Nat)) : List (Tk × Nat) := L.map fun y => (y.1, k + y.2)
theorem drop_pre (pre l : List UInt8) (a : Nat) : (pre ++ l).drop (pre.length + a) = l.drop a := by
  rw [← List.drop_drop, List.drop_left]
/-- Cover, with a text ahead and a remark behind. -/
theorem cov_remark (l pre r : List UInt8) (hr : ∀ c ∈ r, c ≠ 10) : ∀ (L : List (Tk × Nat)) (a : Nat), Cov l a L → Cov (pre ++ (l ++ 32 :: 35 :: r)) (pre.length + a) (movT pre.length L)
  | [], a, h => by
    obtain ⟨ha, he⟩ := h
    refine ⟨by simp; omega, ?_⟩
    have hd : (l ++ 32 :: 35 :: r).drop a = l.drop a ++ 32 :: 35 :: r := List.drop_append_of_le_length ha
    rw [drop_pre, hd, ← List.drop_drop, drop_pre, hd]
    exact skipN_rem r hr _ (by rw [List.drop_drop]; exact he)
  | (x, p) :: t, a, h => by
    obtain ⟨ha, hp, n, hx, hc⟩ := h
    obtain ⟨n1, n2, _, _⟩ := nextT_le hx
    have hs := skipN_le (l.drop a)
    rw [List.length_drop] at n2 hs
    have hd : (l ++ 32 :: 35 :: r).drop a = l.drop a ++ 32 :: 35 :: r := List.drop_append_of_le_length ha
    have hdp : (l ++ 32 :: 35 :: r).drop p = l.drop p ++ 32 :: 35 :: r := List.drop_append_of_le_length (by omega)
    have hne : (l.drop a).drop (skipN (l.drop a)) ≠ [] := by
      rw [List.drop_drop, ← hp]; intro e; rw [e] at hx; cases hx
    refine ⟨by simp; omega, ?_, n, ?_, ?_⟩
    · rw [drop_pre, hd, skipN_app _ _ hne, hp]; omega
    · rw [drop_pre, hdp]; exact nextT_app 32 _ (by decide) hx
    · have := cov_remark l pre r hr t (p + n) hc
      rw [← Nat.add_assoc] at this
      exact this
theorem remark_lex {l r : List UInt8} {L : List (Tk × Nat)} (h : Cov l 0 L) (hr : ∀ c ∈ r, c ≠ 10) (h1 : l.length ≤ 30000) (h2 : r.length ≤ 30000) (hL : L.length ≤ 20000) :
    lexR (32 :: 32 :: (l ++ 32 :: 35 :: r)) = (movT 2 L, 0, 0) := by
  have hc := cov_remark l [32, 32] r hr L 0 h
  refine lex_cov (by simp; omega) (by simpa [movT] using hL) ?_
  have e : ∀ u : List UInt8, skipN (32 :: 32 :: u) = skipN u + 2 := fun u => by rw [skip_2, skip_2]
  cases L with
  | nil =>
    obtain ⟨_, he⟩ := hc
    refine ⟨by simp, ?_⟩
    simp only [List.length_cons, List.length_nil, List.cons_append, List.nil_append, List.drop_succ_cons, List.drop_zero] at he ⊢
    rw [e]
    rw [show 0 + (skipN (l ++ 32 :: 35 :: r) + 2) = (0 + 1 + 1 + 0 + skipN (l ++ 32 :: 35 :: r)) by omega]
    exact he
  | cons y t =>
    obtain ⟨x, p⟩ := y
    obtain ⟨_, hp, n, hx, hcc⟩ := hc
    refine ⟨by simp, ?_, n, hx, hcc⟩
    simp only [List.length_cons, List.length_nil, List.cons_append, List.nil_append, List.drop_succ_cons, List.drop_zero] at hp ⊢
    rw [e]
    omega
theorem same_mov (k : Nat) (L : List (Tk × Nat)) : L.length = (movT k L).length ∧ ∀ (i : Nat) (y y' : Tk × Nat), L[i]? = some y → (movT k L)[i]? = some y' → y.1 = y'.1 := by
  refine ⟨by simp [movT], fun i y y' h h' => ?_⟩
  unfold movT at h'
  rw [List.getElem?_map, h] at h'
  cases h'; rfl
end Go.Proofs.YtejjbbgompddeaaDoor
