/- The tokens cover the text: mathematics; a list of tokens in memory; gap and written of the law. -/
import Derived.Test.YtejjbbgompddeaaDoorLexLex
namespace Go.Proofs.YtejjbbgompddeaaDoor
open Go.RowKit
set_option linter.unusedVariables false
set_option linter.unusedSimpArgs false

/-- Whether bytes are spaces and remarks, as the law tells it. -/
def gapR : Bool → List UInt8 → Bool
  | _, [] => true
  | b, c :: t => if c = 10 then false else if (b || c == 35) = true then gapR true t else if c = 32 then gapR false t else false
theorem gap_rem : ∀ t : List UInt8, gapR true (t.takeWhile (fun b => b != 10)) = true
  | [] => rfl
  | c :: t => by
    rw [List.takeWhile_cons]
    by_cases h : (c != 10) = true
    · rw [if_pos h]
      unfold gapR
      rw [if_neg (by simpa using h), if_pos (by simp)]
      exact gap_rem t
    · rw [if_neg h]; rfl
theorem gap_skip : ∀ l : List UInt8, gapR false (l.take (skipN l)) = true
  | [] => rfl
  | c :: t => by
    unfold skipN
    by_cases h : c = 32
    · rw [if_pos h, List.take_succ_cons]
      unfold gapR
      rw [if_neg (by rw [h]; decide), if_neg (by rw [h]; decide), if_pos h]
      exact gap_skip t
    · rw [if_neg h]
      by_cases h2 : c = 35
      · rw [if_pos h2, List.take_succ_cons]
        unfold gapR
        rw [if_neg (by rw [h2]; decide), if_pos (by rw [h2]; rfl)]
        have : t.take (t.takeWhile (fun b => b != 10)).length = t.takeWhile (fun b => b != 10) := by
          conv => lhs; arg 2; rw [← List.takeWhile_append_dropWhile (p := fun b : UInt8 => b != 10) (l := t)]
          exact List.take_left
        rw [this]; exact gap_rem t
      · rw [if_neg h2]; rfl

/-- The tokens L stand one after the other from place a on, to the text's end. -/
def Cov (l : List UInt8) : Nat → List (Tk × Nat) → Prop
  | a, [] => a ≤ l.length ∧ l.drop (a + skipN (l.drop a)) = []
  | a, (x, p) :: t => a ≤ l.length ∧ p = a + skipN (l.drop a) ∧ ∃ n, nextT (l.drop p) = some (x, n) ∧ Cov l (p + n) t
theorem cov_run (l : List UInt8) : ∀ (f a0 : Nat) (acc L : List (Tk × Nat)), a0 ≤ l.length → (l.drop a0).length < f → run f (l.drop a0) a0 acc = (L, 0, 0) → ∃ L', L = acc ++ L' ∧ Cov l a0 L' := by
  intro f
  induction f with
  | zero => intro a0 acc L _ h; omega
  | succ f ih =>
    intro a0 acc L ha hf h
    have hs := skipN_le (l.drop a0)
    have hsl := hs
    rw [List.length_drop] at hsl hf
    have hd : (l.drop a0).drop (skipN (l.drop a0)) = l.drop (a0 + skipN (l.drop a0)) := List.drop_drop ..
    unfold run at h
    rw [hd] at h
    by_cases he : l.drop (a0 + skipN (l.drop a0)) = []
    · rw [if_pos he] at h
      cases h
      exact ⟨[], by simp, ha, he⟩
    · rw [if_neg he] at h
      cases hn : nextT (l.drop (a0 + skipN (l.drop a0))) with
      | none => rw [hn] at h; simp at h
      | some y =>
        obtain ⟨x, n⟩ := y
        rw [hn] at h
        simp only at h
        by_cases hc : 20000 ≤ acc.length
        · rw [if_pos hc] at h; simp at h
        · rw [if_neg hc, List.drop_drop] at h
          obtain ⟨n1, n2, _, _⟩ := nextT_le hn
          rw [List.length_drop] at n2
          obtain ⟨L', h1, h2⟩ := ih _ _ L (by omega) (by rw [List.length_drop]; omega) h
          exact ⟨(x, a0 + skipN (l.drop a0)) :: L', by rw [h1]; simp, ha, rfl, n, hn, h2⟩
theorem cov_lex {l : List UInt8} (h : (lexR l).2.2 = 0) : l.length ≤ 65536 ∧ Cov l 0 (lexR l).1 := by
  unfold lexR at h ⊢
  by_cases hb : 65536 < l.length
  · rw [if_pos hb] at h; cases h
  · rw [if_neg hb] at h ⊢
    refine ⟨by omega, ?_⟩
    have key : ∀ (f a0 : Nat) (acc : List (Tk × Nat)), a0 ≤ l.length → (run f (l.drop a0) a0 acc).2.2 = 0 → (run f (l.drop a0) a0 acc).2.1 = 0 := by
      intro f
      induction f with
      | zero => intro a0 acc _ _; rfl
      | succ f ih =>
        intro a0 acc ha he
        have hs := skipN_le (l.drop a0)
        rw [List.length_drop] at hs
        have hd : (l.drop a0).drop (skipN (l.drop a0)) = l.drop (a0 + skipN (l.drop a0)) := List.drop_drop ..
        unfold run at he ⊢
        rw [hd] at he ⊢
        by_cases h1 : l.drop (a0 + skipN (l.drop a0)) = []
        · rw [if_pos h1]
        · rw [if_neg h1] at he ⊢
          cases hn : nextT (l.drop (a0 + skipN (l.drop a0))) with
          | none => rw [hn] at he; simp at he
          | some y =>
            obtain ⟨x, n⟩ := y
            rw [hn] at he
            simp only at he ⊢
            by_cases hc : 20000 ≤ acc.length
            · rw [if_pos hc] at he; simp at he
            · rw [if_neg hc, List.drop_drop] at he ⊢
              obtain ⟨n1, n2, _, _⟩ := nextT_le hn
              rw [List.length_drop] at n2
              exact ih _ _ (by omega) he
    have h0 := key (l.length + 1) 0 [] (Nat.zero_le _) h
    have he : run (l.length + 1) (l.drop 0) 0 [] = ((run (l.length + 1) l 0 []).1, 0, 0) := by
      rw [List.drop_zero] at h0 ⊢
      exact Prod.ext rfl (Prod.ext h0 h)
    obtain ⟨L', h1, h2⟩ := cov_run l _ 0 [] _ (Nat.zero_le _) (by simp) he
    rw [List.nil_append] at h1
    rw [h1]; exact h2

/-- A list of tokens in memory. -/
def ToksAt (w : World) (A : Option Addr) (L : List (Tk × Nat)) : Prop := ∀ i y, L[i]? = some y → ∃ g, A = some ⟨g, 0, none⟩ ∧ g < w.heap.size ∧ w.cell? ⟨g, i * 4, none⟩ = some (.int .u8 (y.1.k : Nat)) ∧ w.cell? ⟨g, i * 4 + 1, none⟩ = some (.string ⟨y.1.t.toArray⟩) ∧ w.cell? ⟨g, i * 4 + 2, none⟩ = some (.int .i64 y.1.n) ∧ w.cell? ⟨g, i * 4 + 3, none⟩ = some (.int .i64 (y.2 : Nat))
theorem ToksAt.below {w w' : World} {A : Option Addr} {L : List (Tk × Nat)} (h : ToksAt w A L) (hb : Below w.heap.size w w') : ToksAt w' A L := by
  intro i y hy
  obtain ⟨g, e, hg, h0, h1, h2, h3⟩ := h i y hy
  exact ⟨g, e, Nat.lt_of_lt_of_le hg hb.size, by rw [hb.cell hg]; exact h0, by rw [hb.cell hg]; exact h1, by rw [hb.cell hg]; exact h2, by rw [hb.cell hg]; exact h3⟩
theorem tkRow_get : ∀ (L : List (Tk × Nat)) (i : Nat) (y : Tk × Nat), L[i]? = some y → (tkRow L)[i * 4]? = some (.int .u8 (y.1.k : Nat)) ∧ (tkRow L)[i * 4 + 1]? = some (.string ⟨y.1.t.toArray⟩) ∧ (tkRow L)[i * 4 + 2]? = some (.int .i64 y.1.n) ∧ (tkRow L)[i * 4 + 3]? = some (.int .i64 (y.2 : Nat))
  | [], i, y, h => by simp at h
  | z :: L, 0, y, h => by
    simp at h
    subst h
    exact ⟨rfl, rfl, rfl, rfl⟩
  | z :: L, i + 1, y, h => by
    have ih := tkRow_get L i y (by simpa using h)
    have e : tkRow (z :: L) = tkC z ++ tkRow L := rfl
    have hl : (tkC z).length = 4 := rfl
    rw [e]
    refine ⟨?_, ?_, ?_, ?_⟩
    · rw [List.getElem?_append_right (by omega), hl, show (i + 1) * 4 - 4 = i * 4 by omega]; exact ih.1
    · rw [List.getElem?_append_right (by omega), hl, show (i + 1) * 4 + 1 - 4 = i * 4 + 1 by omega]; exact ih.2.1
    · rw [List.getElem?_append_right (by omega), hl, show (i + 1) * 4 + 2 - 4 = i * 4 + 2 by omega]; exact ih.2.2.1
    · rw [List.getElem?_append_right (by omega), hl, show (i + 1) * 4 + 3 - 4 = i * 4 + 3 by omega]; exact ih.2.2.2
theorem toksAt_of {w : World} {B : Nat} {v : Value} {L : List (Tk × Nat)} (h : w.ownsRow B 29 4 v L.length (tkRow L)) : ∃ A c, v = .slice A L.length c ∧ ToksAt w A L := by
  have h2 := h.2
  rcases h2 with ⟨rfl, hn⟩ | ⟨g, cap, cur, rfl, hg, hh, r⟩
  · obtain rfl := List.eq_nil_of_length_eq_zero hn
    exact ⟨none, 0, rfl, fun i y hy => by simp at hy⟩
  · refine ⟨_, cap, rfl, fun i y hy => ?_⟩
    have hi : i < L.length := (List.getElem?_eq_some_iff.1 hy).1
    obtain ⟨c0, c1, c2, c3⟩ := tkRow_get L i y hy
    exact ⟨g, rfl, lt_of_block hh, (h.cellAt (i * 4) (by omega)).trans c0, (h.cellAt (i * 4 + 1) (by omega)).trans c1, (h.cellAt (i * 4 + 2) (by omega)).trans c2, (h.cellAt (i * 4 + 3) (by omega)).trans c3⟩
end Go.Proofs.YtejjbbgompddeaaDoor
