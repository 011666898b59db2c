/- Plain mathematics of the reference's layouts: places, sums of powers, bits set one by one. -/
import Derived.Test.YtjbapjgagiaefaaFmtPlaced
namespace Go.Proofs.Ytjbapjgagiaefaa
open Go.RowKit
set_option linter.unusedVariables false
set_option linter.unusedSimpArgs false

/-- The places of a layout's bits. -/
def placesL : List MPiece → List Nat | [] => [] | x :: L => (List.range x.l).map (x.p + ·) ++ placesL L
theorem placesL_len : ∀ L : List MPiece, (placesL L).length = widthL L
  | [] => rfl
  | x :: L => by simp [placesL, widthL, placesL_len L]
theorem placesL_mem : ∀ (L : List MPiece) (j : Nat), j ∈ placesL L ↔ hasL L j = true
  | [], j => by simp [placesL, hasL]
  | x :: L, j => by
    have ih := placesL_mem L j
    have e : hasL (x :: L) j = (x.has j || hasL L j) := rfl
    rw [e, Bool.or_eq_true, ← ih, has_iff]
    simp only [placesL, List.mem_append, List.mem_map, List.mem_range]
    constructor
    · rintro (⟨a, h, rfl⟩ | h)
      · left; omega
      · exact .inr h
    · rintro (h | h)
      · left; exact ⟨j - x.p, by omega, by omega⟩
      · exact .inr h
theorem placesL_lt {L : List MPiece} (h : GoodL L) : ∀ j ∈ placesL L, j < 64 := by
  intro j hj
  have := (placesL_mem L j).1 hj
  unfold hasL at this
  rw [List.any_eq_true] at this
  obtain ⟨x, hx, hb⟩ := this
  obtain ⟨c1, c2, c3⟩ := h.1 x hx
  have hb := has_iff.1 hb
  unfold MPiece.p MPiece.l at hb
  omega
theorem placesL_nodup {size : Int} : ∀ {L : List MPiece} {m : Nat}, GoodM size m L → (placesL L).Nodup
  | [], _, _ => List.nodup_nil
  | x :: L, m, h => by
    simp only [placesL]
    rw [List.nodup_append]
    refine ⟨?_, placesL_nodup h.2.2, ?_⟩
    · rw [List.nodup_iff_pairwise_ne, List.pairwise_map]
      exact (List.nodup_iff_pairwise_ne.1 List.nodup_range).imp (fun h e => h (by omega))
    · intro a ha b hb e
      subst e
      have h1 : x.has a = true := by
        obtain ⟨i, hi, rfl⟩ := List.mem_map.1 ha
        exact has_iff.2 ⟨by omega, by have := List.mem_range.1 hi; omega⟩
      have h2 := hasL_disj h a h1
      rw [(placesL_mem L a).1 hb] at h2
      cases h2
theorem nodup_fresh {l : List Nat} (h : l.Nodup) {i p : Nat} (hp : l[i]? = some p) : p ∉ l.take i := by
  intro hm
  have hlt := (List.getElem?_eq_some_iff.1 hp).1
  have e : l = l.take i ++ p :: l.drop (i + 1) := by
    have hd : l.drop i = p :: l.drop (i + 1) := by
      rw [List.drop_eq_getElem_cons hlt]
      congr 1
      exact Option.some.inj ((List.getElem?_eq_getElem hlt).symm.trans hp)
    rw [← hd, List.take_append_drop]
  rw [e, List.nodup_append] at h
  exact h.2.2 p hm p (by simp) rfl

/- The mask. -/
def orB (m : Nat) : List Nat → Nat | [] => m | p :: ps => orB (m ||| 2 ^ p) ps
theorem orB_bit : ∀ (ps : List Nat) (m j : Nat), (orB m ps).testBit j = (m.testBit j || decide (j ∈ ps))
  | [], m, j => by simp [orB]
  | p :: ps, m, j => by
    rw [orB, orB_bit ps, Nat.testBit_or, Nat.testBit_two_pow, Bool.or_assoc]
    congr 1
    rw [Bool.eq_iff_iff, Bool.or_eq_true, decide_eq_true_eq, decide_eq_true_eq, decide_eq_true_eq, List.mem_cons]
    constructor
    · rintro (h | h)
      · exact .inl h.symm
      · exact .inr h
    · rintro (h | h)
      · exact .inl h.symm
      · exact .inr h
theorem orB_snoc : ∀ (ps : List Nat) (m p : Nat), orB m (ps ++ [p]) = orB m ps ||| 2 ^ p
  | [], m, p => rfl
  | q :: ps, m, p => orB_snoc ps _ p
theorem orB_step {l : List Nat} (h : l.Nodup) {i p : Nat} (hp : l[i]? = some p) : orB 0 (l.take (i + 1)) = orB 0 (l.take i) + 2 ^ p := by
  rw [List.take_add_one, hp]
  simp only [Option.toList]
  rw [orB_snoc]
  refine (add_or ?_).symm
  rw [and_zero]
  rintro j ⟨h1, h2⟩
  rw [Nat.testBit_two_pow, decide_eq_true_eq] at h2
  subst h2
  rw [orB_bit, Nat.zero_testBit, Bool.false_or, decide_eq_true_eq] at h1
  exact nodup_fresh h hp h1
theorem orB_mask (L : List MPiece) : orB 0 (placesL L) = maskN 0 L := by
  apply Nat.eq_of_testBit_eq
  intro j
  rw [orB_bit, maskN_bit]
  congr 1
  rw [Bool.eq_iff_iff, decide_eq_true_eq, placesL_mem]

/- The field. -/
def valB (w : Nat) : List Nat → Nat | [] => 0 | p :: ps => (w.testBit p).toNat + 2 * valB w ps
theorem valB_append (w : Nat) : ∀ A B : List Nat, valB w (A ++ B) = valB w A + 2 ^ A.length * valB w B
  | [], B => by simp [valB]
  | p :: A, B => by
    simp only [List.cons_append, valB, List.length_cons]
    rw [valB_append w A B, Nat.pow_succ, Nat.mul_add, Nat.add_assoc, Nat.mul_comm (2 ^ A.length) 2, Nat.mul_assoc]
theorem valB_lt (w : Nat) : ∀ A : List Nat, valB w A < 2 ^ A.length
  | [] => by simp [valB]
  | p :: A => by
    have := valB_lt w A
    have := Bool.toNat_le (w.testBit p)
    simp only [valB, List.length_cons, Nat.pow_succ]
    omega
theorem valB_range (w p : Nat) : ∀ l, valB w ((List.range l).map (p + ·)) = w / 2 ^ p % 2 ^ l
  | 0 => by simp [valB, Nat.mod_one]
  | l + 1 => by
    rw [List.range_succ, List.map_append, valB_append, valB_range w p l, List.length_map, List.length_range, Nat.pow_succ, Nat.mod_mul]
    simp only [List.map_cons, List.map_nil, valB, Nat.mul_zero, Nat.add_zero]
    rw [Nat.toNat_testBit, Nat.div_div_eq_div_mul, ← Nat.pow_add]
theorem getN_val (w : Nat) : ∀ L : List MPiece, getN w L = valB w (placesL L)
  | [] => rfl
  | x :: L => by
    simp only [getN, placesL]
    rw [valB_append, valB_range, getN_val w L, List.length_map, List.length_range]
theorem valB_step (w : Nat) {l : List Nat} {i p : Nat} (hp : l[i]? = some p) : valB w (l.take (i + 1)) = valB w (l.take i) + 2 ^ i * (w.testBit p).toNat := by
  have hlt := (List.getElem?_eq_some_iff.1 hp).1
  rw [List.take_add_one, hp]
  simp only [Option.toList]
  rw [valB_append, List.length_take, Nat.min_eq_left (Nat.le_of_lt hlt)]
  simp [valB]

/- The word. -/
def setB (w p : Nat) (b : Bool) : Nat := (if w.testBit p = true then w - 2 ^ p else w) + (if b = true then 2 ^ p else 0)
theorem setB_bit (w p : Nat) (b : Bool) (j : Nat) : (setB w p b).testBit j = if j = p then b else w.testBit j := by
  have hc : (if w.testBit p = true then w - 2 ^ p else w) = w - (w &&& 2 ^ p) := by
    split
    · rename_i h
      congr 1
      apply Nat.eq_of_testBit_eq
      intro i
      rw [Nat.testBit_and, Nat.testBit_two_pow]
      by_cases e : p = i
      · subst e; simp [h]
      · simp [e]
    · rename_i h
      have : w &&& 2 ^ p = 0 := by
        rw [and_zero]
        rintro i ⟨h1, h2⟩
        rw [Nat.testBit_two_pow, decide_eq_true_eq] at h2
        subst h2; exact h h1
      rw [this, Nat.sub_zero]
  unfold setB
  rw [hc]
  cases b
  · simp only [Bool.false_eq_true, if_false, Nat.add_zero]
    rw [sub_and_bit, Nat.testBit_two_pow]
    by_cases e : j = p
    · subst e; simp
    · rw [if_neg e]
      have : decide (p = j) = false := by simpa using fun h => e h.symm
      rw [this]; simp
  · simp only [if_true]
    rw [add_or (and_zero.2 ?_), Nat.testBit_or, sub_and_bit, Nat.testBit_two_pow]
    · by_cases e : j = p
      · subst e; simp
      · rw [if_neg e]
        have : decide (p = j) = false := by simpa using fun h => e h.symm
        rw [this]; simp
    · rintro i ⟨h1, h2⟩
      rw [sub_and_bit, h2] at h1
      simp at h1
def setAll (w f : Nat) : List Nat → Nat | [] => w | p :: ps => setAll (setB w p (f.testBit 0)) (f / 2) ps
theorem setAll_append : ∀ (A B : List Nat) (w f : Nat), setAll w f (A ++ B) = setAll (setAll w f A) (f / 2 ^ A.length) B
  | [], B, w, f => by simp [setAll]
  | p :: A, B, w, f => by
    simp only [List.cons_append, setAll, List.length_cons]
    rw [setAll_append A B, Nat.div_div_eq_div_mul, Nat.pow_succ, Nat.mul_comm]
theorem setAll_step (w f : Nat) {l : List Nat} {i p : Nat} (hp : l[i]? = some p) : setAll w f (l.take (i + 1)) = setB (setAll w f (l.take i)) p (f.testBit i) := by
  have hlt := (List.getElem?_eq_some_iff.1 hp).1
  rw [List.take_add_one, hp]
  simp only [Option.toList]
  rw [setAll_append, List.length_take, Nat.min_eq_left (Nat.le_of_lt hlt)]
  simp only [setAll]
  rw [Nat.testBit_div_two_pow, Nat.zero_add]
theorem setAll_range (w f p : Nat) : ∀ l j, (setAll w f ((List.range l).map (p + ·))).testBit j = if p ≤ j ∧ j < p + l then f.testBit (j - p) else w.testBit j
  | 0, j => by simp only [List.range_zero, List.map_nil, setAll]; rw [if_neg (by omega)]
  | l + 1, j => by
    rw [List.range_succ, List.map_append, setAll_append, List.length_map, List.length_range]
    simp only [List.map_cons, List.map_nil, setAll]
    rw [setB_bit, Nat.testBit_div_two_pow, Nat.zero_add, setAll_range w f p l j]
    by_cases e : j = p + l
    · subst e
      rw [if_pos rfl, if_pos (by omega)]
      congr 1; omega
    · rw [if_neg e]
      by_cases h : p ≤ j ∧ j < p + l
      · rw [if_pos h, if_pos (by omega)]
      · rw [if_neg h, if_neg (by omega)]
theorem putN_set : ∀ (L : List MPiece) (w f : Nat), putN w f L = setAll w f (placesL L)
  | [], w, f => rfl
  | x :: L, w, f => by
    simp only [putN, placesL]
    rw [setAll_append, putN_set L, List.length_map, List.length_range]
    congr 1
    apply Nat.eq_of_testBit_eq
    intro j
    rw [pstep_bit, setAll_range]
    by_cases h : x.has j = true
    · rw [if_pos h, if_pos (has_iff.1 h)]
    · rw [if_neg h, if_neg (fun q => h (has_iff.2 q))]
theorem setB_lt {w p : Nat} {b : Bool} (hw : w < 18446744073709551616) (hp : p < 64) : setB w p b < 18446744073709551616 := by
  apply Nat.lt_pow_two_of_testBit (n := 64)
  intro j hj
  rw [setB_bit, if_neg (by omega)]
  exact Nat.testBit_lt_two_pow (Nat.lt_of_lt_of_le hw (Nat.pow_le_pow_right (n := 2) (by omega) hj))

/- Overlapping. -/
theorem maskN_snoc : ∀ (L : List MPiece) (m : Nat) (x : MPiece), maskN m (L ++ [x]) = maskN m L ||| pcM x
  | [], m, x => rfl
  | y :: L, m, x => maskN_snoc L _ x
def overlap (x y : MPiece) : Prop := y.pos < x.pos + x.len ∧ x.pos < y.pos + y.len
theorem clash_of {size : Int} {L : List MPiece} {x y : MPiece} {i k : Nat} (hi : pcOk size x = true) (hk : pcOk size y = true) (hx : L[k]? = some y) (hki : k < i) (h : overlap x y) : maskN 0 (L.take i) &&& pcM x ≠ 0 := by
  obtain ⟨c1, c2, c3, c4⟩ := pcOk_iff.1 hi
  obtain ⟨d1, d2, d3, d4⟩ := pcOk_iff.1 hk
  intro h0
  have hj := and_zero.1 h0 (max x.p y.p)
  apply hj
  rw [maskN_bit, pcM_bit]
  unfold overlap at h
  have hbit : y.has (max x.p y.p) = true := has_iff.2 (by unfold MPiece.p MPiece.l; omega)
  refine ⟨?_, has_iff.2 (by unfold MPiece.p MPiece.l; omega)⟩
  rw [Nat.zero_testBit, Bool.false_or]
  unfold hasL
  rw [List.any_eq_true]
  refine ⟨y, ?_, hbit⟩
  apply List.mem_of_getElem? (i := k)
  rw [List.getElem?_take, if_pos hki]; exact hx
theorem free_of {size : Int} {L : List MPiece} {x : MPiece} {i : Nat} (hi : pcOk size x = true) (hall : ∀ k y, k < i → L[k]? = some y → pcOk size y = true ∧ ¬ overlap x y) : maskN 0 (L.take i) &&& pcM x = 0 := by
  rw [and_zero]
  rintro j ⟨h1, h2⟩
  rw [maskN_bit, Nat.zero_testBit, Bool.false_or] at h1
  rw [pcM_bit] at h2
  unfold hasL at h1
  rw [List.any_eq_true] at h1
  obtain ⟨y, hy, hb⟩ := h1
  obtain ⟨k, hk⟩ := List.getElem?_of_mem hy
  rw [List.getElem?_take] at hk
  split at hk
  · rename_i hki
    obtain ⟨hyo, hno⟩ := hall k y hki hk
    obtain ⟨c1, c2, c3, c4⟩ := pcOk_iff.1 hi
    obtain ⟨d1, d2, d3, d4⟩ := pcOk_iff.1 hyo
    have a := has_iff.1 hb
    have b := has_iff.1 h2
    apply hno
    unfold overlap
    unfold MPiece.p MPiece.l at a b
    omega
  · cases hk
end Go.Proofs.Ytjbapjgagiaefaa
