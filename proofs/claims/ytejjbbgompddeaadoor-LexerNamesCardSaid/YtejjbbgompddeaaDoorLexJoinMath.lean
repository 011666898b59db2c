/- Tokens of two texts with a line feed between them. -/
import Derived.Test.YtejjbbgompddeaaDoorLexShift
namespace Go.Proofs.YtejjbbgompddeaaDoor
set_option linter.unusedVariables false
set_option linter.unusedSimpArgs false

/-- The tokens L stand one after the other from place a on; the reader then is at place b. -/
def CovTo (l : List UInt8) : Nat → List (Tk × Nat) → Nat → Prop
  | a, [], b => a ≤ l.length ∧ a = b
  | a, (x, p) :: t, b => a ≤ l.length ∧ p = a + skipN (l.drop a) ∧ ∃ n, nextT (l.drop p) = some (x, n) ∧ CovTo l (p + n) t b
def EndOK (l : List UInt8) (b : Nat) : Prop := l.drop (b + skipN (l.drop b)) = []
def EndErr (l : List UInt8) (b q : Nat) : Prop := q = b + skipN (l.drop b) ∧ l.drop q ≠ [] ∧ nextT (l.drop q) = none

theorem covTo_len (l : List UInt8) : ∀ (L : List (Tk × Nat)) (a b : Nat), CovTo l a L b → L.length + a ≤ b ∧ b ≤ l.length
  | [], a, b, h => by obtain ⟨h1, rfl⟩ := h; simp; exact h1
  | (x, p) :: t, a, b, h => by
    obtain ⟨ha, hp, n, hx, hc⟩ := h
    obtain ⟨n1, n2, _, _⟩ := nextT_le hx
    have := covTo_len l t (p + n) b hc
    simp only [List.length_cons]
    omega
theorem covTo_place (l : List UInt8) : ∀ (L : List (Tk × Nat)) (a b : Nat), CovTo l a L b → ∀ y ∈ L, y.2 ≤ l.length
  | [], a, b, h, y, hy => by cases hy
  | (x, p) :: t, a, b, h, y, hy => by
    obtain ⟨ha, hp, n, hx, hc⟩ := h
    obtain ⟨n1, n2, _, _⟩ := nextT_le hx
    rw [List.length_drop] at n2
    rcases List.mem_cons.1 hy with rfl | hy
    · simp only; omega
    · exact covTo_place l t (p + n) b hc y hy
theorem covTo_append (l : List UInt8) : ∀ (L : List (Tk × Nat)) (a b c : Nat) (M : List (Tk × Nat)), CovTo l a L b → CovTo l b M c → CovTo l a (L ++ M) c
  | [], a, b, c, M, h, h' => by obtain ⟨h1, rfl⟩ := h; exact h'
  | (x, p) :: t, a, b, c, M, h, h' => by
    obtain ⟨ha, hp, n, hx, hc⟩ := h
    exact ⟨ha, hp, n, hx, covTo_append l t (p + n) b c M hc h'⟩

theorem run_step (f : Nat) (rest : List UInt8) (at' : Nat) (acc : List (Tk × Nat)) : run (f + 1) rest at' acc =
    if (rest.drop (skipN rest)) = [] then (acc, 0, 0)
    else match nextT (rest.drop (skipN rest)) with
      | none => ([], at' + skipN rest, 12)
      | some (x, n) => if 20000 ≤ acc.length then ([], at' + skipN rest, 4) else run f ((rest.drop (skipN rest)).drop n) (at' + skipN rest + n) (acc ++ [(x, at' + skipN rest)]) := rfl
theorem run_parts (l : List UInt8) : ∀ (f a : Nat) (acc : List (Tk × Nat)), a ≤ l.length → (l.drop a).length < f →
    ∃ L b, CovTo l a L b ∧ ((EndOK l b ∧ run f (l.drop a) a acc = (acc ++ L, 0, 0)) ∨ (∃ q, EndErr l b q ∧ run f (l.drop a) a acc = ([], q, 12)) ∨ 20000 ≤ acc.length + L.length) := by
  intro f
  induction f with
  | zero => intro a acc _ h; omega
  | succ f ih =>
    intro a acc ha hf
    have hs := skipN_le (l.drop a)
    have hsl := hs
    rw [List.length_drop] at hsl hf
    have hd : (l.drop a).drop (skipN (l.drop a)) = l.drop (a + skipN (l.drop a)) := List.drop_drop ..
    unfold run
    rw [hd]
    by_cases he : l.drop (a + skipN (l.drop a)) = []
    · rw [if_pos he]
      exact ⟨[], a, ⟨ha, rfl⟩, .inl ⟨he, by simp⟩⟩
    · rw [if_neg he]
      cases hn : nextT (l.drop (a + skipN (l.drop a))) with
      | none => exact ⟨[], a, ⟨ha, rfl⟩, .inr (.inl ⟨_, ⟨rfl, he, hn⟩, rfl⟩)⟩
      | some y =>
        obtain ⟨x, n⟩ := y
        simp only
        by_cases hc : 20000 ≤ acc.length
        · exact ⟨[], a, ⟨ha, rfl⟩, .inr (.inr (by simpa using hc))⟩
        · rw [if_neg hc, List.drop_drop]
          obtain ⟨n1, n2, _, _⟩ := nextT_le hn
          rw [List.length_drop] at n2
          obtain ⟨L, b, h1, h2⟩ := ih (a + skipN (l.drop a) + n) (acc ++ [(x, a + skipN (l.drop a))]) (by omega) (by rw [List.length_drop]; omega)
          refine ⟨(x, a + skipN (l.drop a)) :: L, b, ⟨ha, rfl, n, hn, h1⟩, ?_⟩
          rcases h2 with ⟨h2, h3⟩ | ⟨q, h2, h3⟩ | h2
          · exact .inl ⟨h2, by rw [h3]; simp⟩
          · exact .inr (.inl ⟨q, h2, h3⟩)
          · exact .inr (.inr (by rw [List.length_append] at h2; simp at h2 ⊢; omega))

theorem run_to (l : List UInt8) : ∀ (L : List (Tk × Nat)) (f a b : Nat) (acc : List (Tk × Nat)), CovTo l a L b → acc.length ≤ 20000 → (l.drop a).length < f →
    (acc.length + L.length ≤ 20000 → ∃ g, (l.drop b).length < g ∧ run f (l.drop a) a acc = run g (l.drop b) b (acc ++ L)) ∧ (20000 < acc.length + L.length → (run f (l.drop a) a acc).2.2 = 4)
  | [], f, a, b, acc, h, ha, hf => by
    obtain ⟨h1, rfl⟩ := h
    exact ⟨fun _ => ⟨f, hf, by simp⟩, fun h => by simp at h; omega⟩
  | (x, p) :: t, f, a, b, acc, h, hac, hf => by
    obtain ⟨g, rfl⟩ : ∃ g, f = g + 1 := ⟨f - 1, by omega⟩
    obtain ⟨ha, hp, n, hx, hc⟩ := h
    have hd : (l.drop a).drop (skipN (l.drop a)) = l.drop (a + skipN (l.drop a)) := List.drop_drop ..
    obtain ⟨n1, n2, _, _⟩ := nextT_le hx
    have hs := skipN_le (l.drop a)
    rw [List.length_drop] at n2 hs hf
    rw [run_step]
    rw [hd, ← hp, if_neg (by intro e; rw [e] at hx; cases hx), hx]
    simp only [List.length_cons]
    by_cases hq : 20000 ≤ acc.length
    · rw [if_pos hq]
      exact ⟨fun h => by omega, fun _ => rfl⟩
    · rw [if_neg hq, List.drop_drop]
      have ih := run_to l t g (p + n) b (acc ++ [(x, p)]) hc (by rw [List.length_append]; simp; omega) (by rw [List.length_drop]; omega)
      rw [List.length_append] at ih
      refine ⟨fun h => ?_, fun h => ih.2 (by simp; omega)⟩
      obtain ⟨k, h1, h2⟩ := ih.1 (by simp; omega)
      exact ⟨k, h1, by rw [h2]; simp⟩
theorem run_ok {l : List UInt8} {f b : Nat} {acc : List (Tk × Nat)} (h : EndOK l b) (hf : (l.drop b).length < f) : run f (l.drop b) b acc = (acc, 0, 0) := by
  obtain ⟨g, rfl⟩ : ∃ g, f = g + 1 := ⟨f - 1, by omega⟩
  have hd : (l.drop b).drop (skipN (l.drop b)) = l.drop (b + skipN (l.drop b)) := List.drop_drop ..
  rw [run_step]
  have h' : l.drop (b + skipN (l.drop b)) = [] := h
  rw [hd, if_pos h']
theorem run_err {l : List UInt8} {f b q : Nat} {acc : List (Tk × Nat)} (h : EndErr l b q) (hf : (l.drop b).length < f) : run f (l.drop b) b acc = ([], q, 12) := by
  obtain ⟨g, rfl⟩ : ∃ g, f = g + 1 := ⟨f - 1, by omega⟩
  obtain ⟨rfl, h1, h2⟩ := h
  have hd : (l.drop b).drop (skipN (l.drop b)) = l.drop (b + skipN (l.drop b)) := List.drop_drop ..
  rw [run_step]
  rw [hd, if_neg h1, h2]

/-- A short text: its tokens, and how it ends. -/
theorem lex_parts {l : List UInt8} (hl : l.length ≤ 19999) : ∃ L b, CovTo l 0 L b ∧ ((EndOK l b ∧ lexR l = (L, 0, 0)) ∨ (∃ q, EndErr l b q ∧ lexR l = ([], q, 12))) := by
  have hr : lexR l = run (l.length + 1) (l.drop 0) 0 [] := by unfold lexR; rw [if_neg (by omega)]; rfl
  obtain ⟨L, b, h1, h2⟩ := run_parts l (l.length + 1) 0 [] (Nat.zero_le _) (by simp)
  refine ⟨L, b, h1, ?_⟩
  rw [hr]
  rcases h2 with ⟨h2, h3⟩ | ⟨q, h2, h3⟩ | h2
  · exact .inl ⟨h2, by simpa using h3⟩
  · exact .inr ⟨q, h2, h3⟩
  · have := covTo_len l L 0 b h1
    simp at h2; omega
theorem lex_ok {l : List UInt8} {L : List (Tk × Nat)} {b : Nat} (hl : l.length ≤ 65536) (h : CovTo l 0 L b) (he : EndOK l b) : (L.length ≤ 20000 → lexR l = (L, 0, 0)) ∧ (20000 < L.length → (lexR l).2.2 = 4) := by
  have hr : lexR l = run (l.length + 1) (l.drop 0) 0 [] := by unfold lexR; rw [if_neg (by omega)]; rfl
  have h2 := run_to l L (l.length + 1) 0 b [] h (by simp) (by simp)
  rw [hr]
  refine ⟨fun hL => ?_, fun hL => h2.2 (by simpa using hL)⟩
  obtain ⟨g, h3, h4⟩ := h2.1 (by simpa using hL)
  rw [h4, run_ok he h3]; rfl
theorem lex_bad {l : List UInt8} {L : List (Tk × Nat)} {b q : Nat} (hl : l.length ≤ 65536) (h : CovTo l 0 L b) (he : EndErr l b q) : (L.length ≤ 20000 → lexR l = ([], q, 12)) ∧ (20000 < L.length → (lexR l).2.2 = 4) := by
  have hr : lexR l = run (l.length + 1) (l.drop 0) 0 [] := by unfold lexR; rw [if_neg (by omega)]; rfl
  have h2 := run_to l L (l.length + 1) 0 b [] h (by simp) (by simp)
  rw [hr]
  refine ⟨fun hL => ?_, fun hL => h2.2 (by simpa using hL)⟩
  obtain ⟨g, h3, h4⟩ := h2.1 (by simpa using hL)
  rw [h4, run_err he h3]

/-- Where no token begins, a line feed behind does not make one. -/
theorem nextT_none_lf {l : List UInt8} (r : List UInt8) (hl : l ≠ []) (h : nextT l = none) : nextT (l ++ 10 :: r) = none := by
  cases l with
  | nil => exact absurd rfl hl
  | cons b t =>
    have hw : wordB b (t ++ 10 :: r) = wordB b t := by unfold wordB; rw [takeWhile_app isW t 10 r (by decide)]
    rw [List.cons_append]
    simp only [nextT] at h ⊢
    rw [hw]
    by_cases h9 : cls b.toNat = 9
    · rw [if_pos h9] at h; cases h
    rw [if_neg h9] at h ⊢
    by_cases h8 : cls b.toNat = 8
    · rw [if_pos h8] at h; cases h
    rw [if_neg h8] at h ⊢
    by_cases h7 : cls b.toNat = 7
    · rw [if_pos h7] at h ⊢
      by_cases hin : (textB3 t).length < t.length
      · have ht : textB3 (t ++ 10 :: r) = textB3 t := takeWhile_in _ t (10 :: r) hin
        rw [ht]
        by_cases hp : (textB3 t).all prn = true
        · rw [if_pos (by rw [hp]; simp; exact hin)] at h; cases h
        · rw [if_neg (by simp only [Bool.and_eq_true]; exact fun e => hp e.2)]
      · have hall : t.takeWhile (fun b => b != 34) = t := (List.takeWhile_sublist _).eq_of_length_le (by unfold textB3 at hin; omega)
        have : textB3 (t ++ 10 :: r) = t ++ textB3 (10 :: r) := by
          unfold textB3
          exact List.takeWhile_append_of_pos (fun b hb => (tw_all _ t).1 hall b hb)
        have h10 : textB3 (10 :: r) = 10 :: textB3 r := by unfold textB3; rw [List.takeWhile_cons, if_pos (by decide)]
        rw [if_neg]
        intro e
        simp only [Bool.and_eq_true] at e
        rw [this, h10] at e
        have := List.all_eq_true.1 e.2 10 (by simp)
        revert this; decide
    rw [if_neg h7] at h ⊢
    exact h
theorem skipN_lf (r : List UInt8) : ∀ l : List UInt8, l.drop (skipN l) = [] → skipN (l ++ 10 :: r) = l.length
  | [], _ => by
    show skipN (10 :: r) = 0
    unfold skipN; rw [if_neg (by decide), if_neg (by decide)]
  | c :: t, h => by
    rw [List.cons_append]
    unfold skipN at h ⊢
    by_cases h1 : c = 32
    · rw [if_pos h1] at h ⊢
      rw [skipN_lf r t (by simpa using h)]; rfl
    · rw [if_neg h1] at h ⊢
      by_cases h2 : c = 35
      · rw [if_pos h2] at h ⊢
        have hl : t.length ≤ (t.takeWhile (fun b => b != 10)).length := by
          have := congrArg List.length h
          simp only [List.drop_succ_cons, List.length_drop, List.length_nil] at this
          omega
        have ht : t.takeWhile (fun b => b != 10) = t := (List.takeWhile_sublist _).eq_of_length_le hl
        rw [takeWhile_app _ t 10 r (by decide), ht]; rfl
      · rw [if_neg h2] at h; cases h

theorem covTo_lf (l r : List UInt8) : ∀ (L : List (Tk × Nat)) (a b : Nat), CovTo l a L b → CovTo (l ++ 10 :: r) a L b
  | [], a, b, h => ⟨by simp; have := h.1; omega, h.2⟩
  | (x, p) :: t, a, b, h => by
    obtain ⟨ha, hp, n, hx, hc⟩ := h
    obtain ⟨n1, n2, _, _⟩ := nextT_le hx
    have hs := skipN_le (l.drop a)
    rw [List.length_drop] at n2 hs
    have hd : (l ++ 10 :: r).drop a = l.drop a ++ 10 :: r := List.drop_append_of_le_length ha
    have hdp : (l ++ 10 :: r).drop p = l.drop p ++ 10 :: r := List.drop_append_of_le_length (by omega)
    have hne : (l.drop a).drop (skipN (l.drop a)) ≠ [] := by
      rw [List.drop_drop, ← hp]; intro e; rw [e] at hx; cases hx
    exact ⟨by simp; omega, by rw [hd, skipN_app _ _ hne]; exact hp, n, by rw [hdp]; exact nextT_app 10 _ (by decide) hx, covTo_lf l r t _ b hc⟩
theorem err_lf {l : List UInt8} (r : List UInt8) {b q : Nat} (hb : b ≤ l.length) (h : EndErr l b q) : EndErr (l ++ 10 :: r) b q := by
  obtain ⟨hq, h1, h2⟩ := h
  have hs := skipN_le (l.drop b)
  rw [List.length_drop] at hs
  have hd : (l ++ 10 :: r).drop b = l.drop b ++ 10 :: r := List.drop_append_of_le_length hb
  have hdq : (l ++ 10 :: r).drop q = l.drop q ++ 10 :: r := List.drop_append_of_le_length (by omega)
  have hne : (l.drop b).drop (skipN (l.drop b)) ≠ [] := by rw [List.drop_drop, ← hq]; exact h1
  exact ⟨by rw [hd, skipN_app _ _ hne]; exact hq, by rw [hdq]; simp, by rw [hdq]; exact nextT_none_lf r h1 h2⟩
def lfT : Tk := ⟨5, [10], 0⟩
theorem end_lf {l : List UInt8} (r : List UInt8) {b : Nat} (hb : b ≤ l.length) (h : EndOK l b) : CovTo (l ++ 10 :: r) b [(lfT, l.length)] (l.length + 1) := by
  have hd : (l ++ 10 :: r).drop b = l.drop b ++ 10 :: r := List.drop_append_of_le_length hb
  have hs : skipN (l.drop b ++ 10 :: r) = (l.drop b).length := skipN_lf r _ (by rw [List.drop_drop]; exact h)
  refine ⟨by simp; omega, by rw [hd, hs, List.length_drop]; omega, 1, ?_, ?_, rfl⟩
  · rw [List.drop_left]
    simp only [nextT]; rw [if_pos (by decide)]; rfl
  · simp
theorem covTo_pre (pre l : List UInt8) : ∀ (L : List (Tk × Nat)) (a b : Nat), CovTo l a L b → CovTo (pre ++ l) (pre.length + a) (movT pre.length L) (pre.length + b)
  | [], a, b, h => ⟨by simp; exact h.1, by rw [h.2]⟩
  | (x, p) :: t, a, b, h => by
    obtain ⟨ha, hp, n, hx, hc⟩ := h
    refine ⟨by simp; omega, by rw [drop_pre]; omega, n, by rw [drop_pre]; exact hx, ?_⟩
    have := covTo_pre pre l t (p + n) b hc
    rw [← Nat.add_assoc] at this
    exact this
theorem ok_pre {pre l : List UInt8} {b : Nat} (h : EndOK l b) : EndOK (pre ++ l) (pre.length + b) := by
  unfold EndOK at h ⊢
  rw [drop_pre, Nat.add_assoc, drop_pre]; exact h
theorem err_pre {pre l : List UInt8} {b q : Nat} (h : EndErr l b q) : EndErr (pre ++ l) (pre.length + b) (pre.length + q) := by
  obtain ⟨h1, h2, h3⟩ := h
  exact ⟨by rw [drop_pre]; omega, by rw [drop_pre]; exact h2, by rw [drop_pre]; exact h3⟩

/-- What the joined text gives. -/
theorem join_lex {a b : List UInt8} (ha : a.length ≤ 15000) (hb : b.length ≤ 15000) :
    (∃ q, lexR a = ([], q, 12) ∧ lexR (a ++ 10 :: b) = ([], q, 12)) ∨
    (∃ L, lexR a = (L, 0, 0) ∧ L.length ≤ 15000 ∧
      ((∃ q, lexR b = ([], q, 12) ∧ q ≤ b.length ∧ (lexR (a ++ 10 :: b) = ([], a.length + 1 + q, 12) ∨ (lexR (a ++ 10 :: b)).2.2 = 4)) ∨
       (∃ M, lexR b = (M, 0, 0) ∧ M.length ≤ 15000 ∧ (∀ y ∈ M, y.2 ≤ b.length) ∧
         (((lexR (a ++ 10 :: b)).2.2 = 4 ∧ 20000 < L.length + M.length + 1) ∨ lexR (a ++ 10 :: b) = (L ++ (lfT, a.length) :: movT (a.length + 1) M, 0, 0))))) := by
  have hJ : (a ++ 10 :: b).length ≤ 65536 := by simp; omega
  obtain ⟨L, p, h1, h2⟩ := lex_parts (l := a) (by omega)
  have hp := covTo_len a L 0 p h1
  rcases h2 with ⟨h2, h3⟩ | ⟨q, h2, h3⟩
  · right
    refine ⟨L, h3, by omega, ?_⟩
    have c1 := covTo_append _ _ _ _ _ _ (covTo_lf a b L 0 p h1) (end_lf b hp.2 h2)
    obtain ⟨M, s, k1, k2⟩ := lex_parts (l := b) (by omega)
    have hs := covTo_len b M 0 s k1
    have hsplit : a ++ 10 :: b = (a ++ [10]) ++ b := by simp
    have hpl : (a ++ [10]).length = a.length + 1 := by simp
    have c2 := covTo_pre (a ++ [10]) b M 0 s k1
    rw [← hsplit, hpl, Nat.add_zero] at c2
    have c3 := covTo_append _ _ _ _ _ _ c1 c2
    have hlen : (L ++ [(lfT, a.length)] ++ movT (a.length + 1) M).length = L.length + M.length + 1 := by simp [movT]; omega
    rcases k2 with ⟨k2, k3⟩ | ⟨q, k2, k3⟩
    · right
      refine ⟨M, k3, by omega, covTo_place b M 0 s k1, ?_⟩
      have e := ok_pre (pre := a ++ [10]) k2
      rw [← hsplit, hpl] at e
      obtain ⟨f1, f2⟩ := lex_ok hJ c3 e
      rw [hlen] at f1 f2
      by_cases ht : L.length + M.length + 1 ≤ 20000
      · right; rw [f1 ht]; simp
      · left; exact ⟨f2 (by omega), by omega⟩
    · left
      refine ⟨q, k3, ?_, ?_⟩
      · rcases Nat.lt_or_ge b.length q with h' | h'
        · exact absurd (List.drop_of_length_le (by omega)) k2.2.1
        · exact h'
      have e := err_pre (pre := a ++ [10]) k2
      rw [← hsplit, hpl] at e
      obtain ⟨f1, f2⟩ := lex_bad hJ c3 e
      rw [hlen] at f1 f2
      by_cases ht : L.length + M.length + 1 ≤ 20000
      · left; exact f1 ht
      · right; exact f2 (by omega)
  · left
    exact ⟨q, h3, (lex_bad hJ (covTo_lf a b L 0 p h1) (err_lf b hp.2 h2)).1 (by omega)⟩
end Go.Proofs.YtejjbbgompddeaaDoor
