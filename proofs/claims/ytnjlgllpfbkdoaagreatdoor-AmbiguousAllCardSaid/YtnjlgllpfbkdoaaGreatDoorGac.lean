/- Merged texts: AmbAllCount, AmbAllMath, AmbAllSum, AmbAllEnd. -/
import Derived.Test.YtnjlgllpfbkdoaaGreatDoorGy
import Derived.Test.YtnjlgllpfbkdoaaGreatDoorGt
import Derived.Test.YtnjlgllpfbkdoaaGreatDoorGu
namespace Go.Proofs.YtnjlgllpfbkdoaaGreatDoor
open Go.RowKit
set_option linter.unusedVariables false
set_option linter.unusedSimpArgs false
set_option maxRecDepth 100000

theorem nodup_sub : ∀ {l1 l2 : List Nat}, l1.Nodup → (∀ x ∈ l1, x ∈ l2) → l1.length ≤ l2.length
  | [], _, _, _ => Nat.zero_le _
  | a :: l1, l2, h, hs => by
    obtain ⟨h1, h2⟩ := List.nodup_cons.1 h
    have ha : a ∈ l2 := hs a (by simp)
    have ih := nodup_sub (l2 := l2.erase a) h2 fun x hx => (List.mem_erase_of_ne (by intro e; subst e; exact h1 hx)).2 (hs x (by simp [hx]))
    rw [List.length_erase_of_mem ha] at ih
    have := List.length_pos_of_mem ha
    rw [List.length_cons]
    omega
theorem cnt_filter (p : Nat → Bool) : ∀ n, cnt p n = ((List.range n).filter p).length
  | 0 => rfl
  | n + 1 => by
    rw [List.range_succ, List.filter_append, List.length_append, ← cnt_filter p n, cnt]
    congr 1
    cases h : p n <;> simp [h]
theorem cnt_inj {p q : Nat → Bool} {N M : Nat} (f g : Nat → Nat) (h : ∀ x, x < N → p x = true → f x < M ∧ q (f x) = true ∧ g (f x) = x) : cnt p N ≤ cnt q M := by
  rw [cnt_filter, cnt_filter, ← List.length_map (f := f)]
  apply nodup_sub
  · unfold List.Nodup
    rw [List.pairwise_map]
    have hn : ((List.range N).filter p).Nodup := List.Pairwise.filter _ List.nodup_range
    refine List.Pairwise.imp_of_mem ?_ hn
    intro a b ha hb hab e
    simp only [List.mem_filter, List.mem_range] at ha hb
    have h1 := (h a ha.1 ha.2).2.2
    have h2 := (h b hb.1 hb.2).2.2
    rw [e, h2] at h1
    exact hab h1.symm
  · intro y hy
    obtain ⟨x, hx, rfl⟩ := List.mem_map.1 hy
    simp only [List.mem_filter, List.mem_range] at hx ⊢
    have := h x hx.1 hx.2
    exact ⟨this.1, this.2.1⟩
theorem put_put {L : List MPiece} (w f f' : Nat) : putN (putN w f L) f' L = putN w f' L := by
  apply Nat.eq_of_testBit_eq
  intro j
  rw [putN_bit, putN_bit, putN_bit]
  split <;> rfl
/-- A field that is left out counts as one value. -/
theorem cnt_field {size : Int} {L : List MPiece} {t : Nat} (hg : GoodM size t L) (Q : Nat → Bool) (hQ : ∀ x v, Q (putN x v L) = Q x) : ∀ V, V ≤ 2 ^ widthL L → cnt (fun x => Q x && decide (getN x L < V)) (2 ^ size.toNat) = V * cnt (fun x => Q x && decide (getN x L < 1)) (2 ^ size.toNat)
  | 0, _ => by
    have h : cnt (fun x => Q x && decide (getN x L < 0)) (2 ^ size.toNat) = cnt (fun _ => false) (2 ^ size.toNat) := cnt_same _ fun i _ => by simp
    have h0 : ∀ n, cnt (fun _ => false) n = 0 := by intro n; induction n with | zero => rfl | succ n ih => simp [cnt, ih]
    rw [h, h0, Nat.zero_mul]
  | V + 1, hV => by
    have ih := cnt_field hg Q hQ V (by omega)
    have e : cnt (fun x => Q x && decide (getN x L < V + 1)) (2 ^ size.toNat) = cnt (fun x => (Q x && decide (getN x L < V)) || (Q x && decide (getN x L = V))) (2 ^ size.toNat) := cnt_same _ fun i _ => by
      cases Q i
      · rfl
      · simp only [Bool.true_and]
        by_cases h1 : getN i L < V
        · have h2 : getN i L < V + 1 := by omega
          simp [h1, h2]
        · by_cases h3 : getN i L = V
          · simp [h3]
          · have h2 : ¬ getN i L < V + 1 := by omega
            simp [h1, h2, h3]
    rw [e, cnt_or _ (by
      rintro i _ ⟨a, b⟩
      simp only [Bool.and_eq_true, decide_eq_true_eq] at a b
      omega), ih, Nat.succ_mul]
    congr 1
    have hpos : 0 < 2 ^ widthL L := Nat.two_pow_pos _
    apply Nat.le_antisymm
    · refine cnt_inj (fun x => putN x 0 L) (fun x => putN x V L) fun x hx hp => ?_
      simp only [Bool.and_eq_true, decide_eq_true_eq] at hp
      refine ⟨putN_lt hg hx, ?_, ?_⟩
      · simp only [Bool.and_eq_true, decide_eq_true_eq]
        exact ⟨by rw [hQ]; exact hp.1, by rw [get_put _ _ hg hpos]; omega⟩
      · show putN (putN x 0 L) V L = x
        rw [put_put, ← hp.2, put_get]
    · refine cnt_inj (fun x => putN x V L) (fun x => putN x 0 L) fun x hx hp => ?_
      simp only [Bool.and_eq_true, decide_eq_true_eq] at hp
      refine ⟨putN_lt hg hx, ?_, ?_⟩
      · simp only [Bool.and_eq_true, decide_eq_true_eq]
        exact ⟨by rw [hQ]; exact hp.1, by rw [get_put _ _ hg (by omega)]⟩
      · show putN (putN x V L) 0 L = x
        have : getN x L = 0 := by omega
        rw [put_put, ← this, put_get]
/-- The fields lie beside one another. -/
def Apart : List Fld → Prop
  | [] => True
  | f :: l => (∀ g ∈ l, ∀ j, hasL f.pieces j = true → hasL g.pieces j = false) ∧ Apart l
def prodF : List Fld → Nat | [] => 1 | f :: l => f.values * prodF l
theorem get_put_other {L M : List MPiece} (h : ∀ j, hasL L j = true → hasL M j = false) (x v : Nat) : getN (putN x v M) L = getN x L := getN_same L fun j hj => by rw [putN_bit, if_neg (by rw [h j hj]; decide)]
theorem cnt_fields {size : Int} : ∀ (l : List Fld) (B : Nat → Bool), Apart l → (∀ f ∈ l, GoodM size 0 f.pieces ∧ f.values ≤ 2 ^ widthL f.pieces ∧ ∀ x v, B (putN x v f.pieces) = B x) →
    cnt (fun x => B x && l.all fun f => decide (getN x f.pieces < f.values)) (2 ^ size.toNat) = prodF l * cnt (fun x => B x && l.all fun f => decide (getN x f.pieces < 1)) (2 ^ size.toNat)
  | [], B, _, _ => by simp [prodF]
  | f :: l, B, hA, h => by
    obtain ⟨hg, hv, hB⟩ := h f (by simp)
    have ih := cnt_fields (size := size) l (fun x => B x && decide (getN x f.pieces < 1)) hA.2 fun g hgm => by
      obtain ⟨k1, k2, k3⟩ := h g (by simp [hgm])
      refine ⟨k1, k2, fun x v => ?_⟩
      show (B (putN x v g.pieces) && decide (getN (putN x v g.pieces) f.pieces < 1)) = _
      rw [k3, get_put_other (hA.1 g hgm)]
    have e1 : cnt (fun x => B x && (f :: l).all fun f => decide (getN x f.pieces < f.values)) (2 ^ size.toNat) = cnt (fun x => (B x && l.all fun f => decide (getN x f.pieces < f.values)) && decide (getN x f.pieces < f.values)) (2 ^ size.toNat) := cnt_same _ fun i _ => by
      simp only [List.all_cons]
      cases B i <;> cases decide (getN i f.pieces < f.values) <;> simp
    have e2 := cnt_field hg (fun x => B x && l.all fun f => decide (getN x f.pieces < f.values)) (fun x v => by
      show (B (putN x v f.pieces) && l.all fun g => decide (getN (putN x v f.pieces) g.pieces < g.values)) = _
      rw [hB]
      congr 1
      have : ∀ (l : List Fld), (∀ g ∈ l, ∀ j, hasL f.pieces j = true → hasL g.pieces j = false) → (l.all fun g => decide (getN (putN x v f.pieces) g.pieces < g.values)) = l.all fun g => decide (getN x g.pieces < g.values) := by
        intro l
        induction l with
        | nil => intro _; rfl
        | cons g l ih =>
          intro hl
          rw [List.all_cons, List.all_cons, ih fun g hg => hl g (by simp [hg]), get_put_other fun j hj => by
            cases hf : hasL f.pieces j with
            | false => rfl
            | true => rw [hl g (by simp) j hf] at hj; cases hj]
      exact this l hA.1) f.values hv
    have e3 : cnt (fun x => (B x && l.all fun f => decide (getN x f.pieces < f.values)) && decide (getN x f.pieces < 1)) (2 ^ size.toNat) = cnt (fun x => (B x && decide (getN x f.pieces < 1)) && l.all fun f => decide (getN x f.pieces < f.values)) (2 ^ size.toNat) := cnt_same _ fun i _ => by
      cases B i <;> cases decide (getN i f.pieces < 1) <;> simp
    have e4 : cnt (fun x => (B x && decide (getN x f.pieces < 1)) && l.all fun f => decide (getN x f.pieces < 1)) (2 ^ size.toNat) = cnt (fun x => B x && (f :: l).all fun f => decide (getN x f.pieces < 1)) (2 ^ size.toNat) := cnt_same _ fun i _ => by
      simp only [List.all_cons]
      cases B i <;> cases decide (getN i f.pieces < 1) <;> simp
    rw [e1, e2, e3, ih, e4, prodF, Nat.mul_assoc]
theorem cnt_one {q : Nat → Bool} {k N : Nat} (hk : k < N) (h : ∀ x, x < N → (q x = true ↔ x = k)) : cnt q N = 1 := by
  have h1 : cnt (fun i => decide (k ≤ i ∧ i < k + 1)) N = 1 := by rw [cnt_int]; omega
  rw [← h1]
  refine cnt_same N fun i hi => ?_
  have := h i hi
  by_cases e : i = k
  · rw [this.2 e]; subst e; simp
  · have hq : q i = false := by cases hq : q i with | false => rfl | true => exact absurd (this.1 hq) e
    rw [hq]
    symm
    rw [decide_eq_false_iff_not]
    omega
end Go.Proofs.YtnjlgllpfbkdoaaGreatDoor
namespace Go.Proofs.YtnjlgllpfbkdoaaGreatDoor
open Go.RowKit
set_option linter.unusedVariables false
set_option linter.unusedSimpArgs false
set_option maxRecDepth 100000

def sumC (L : List (Nat → Bool)) (n : Nat) : Nat := (L.map fun p => cnt p n).sum
theorem sumC_succ (n : Nat) : ∀ L : List (Nat → Bool), sumC L (n + 1) = sumC L n + L.countP fun p => p n
  | [] => rfl
  | p :: L => by
    have ih := sumC_succ n L
    unfold sumC at ih ⊢
    rw [List.map_cons, List.sum_cons, List.map_cons, List.sum_cons, ih, List.countP_cons]
    simp only [cnt]
    omega
/-- The holes and the words of each are at least all words, and just all where no word has two. -/
theorem cover (L : List (Nat → Bool)) : ∀ n, n ≤ cnt (fun x => !(L.any fun p => p x)) n + sumC L n ∧ (cnt (fun x => !(L.any fun p => p x)) n + sumC L n = n ↔ ∀ x, x < n → L.countP (fun p => p x) ≤ 1)
  | 0 => by
    have : sumC L 0 = 0 := by
      unfold sumC
      induction L with
      | nil => rfl
      | cons p L ih => simp [cnt] at ih ⊢; exact ih
    rw [this]
    simp [cnt]
  | n + 1 => by
    obtain ⟨h1, h2⟩ := cover L n
    rw [sumC_succ]
    obtain ⟨c, hc⟩ : ∃ z, L.countP (fun p => p n) = z := ⟨_, rfl⟩
    have hany : (L.any fun p => p n) = decide (0 < c) := by
      rw [← hc]
      cases h : L.any fun p => p n with
      | true =>
        obtain ⟨p, hp, hq⟩ := List.any_eq_true.1 h
        symm
        rw [decide_eq_true_eq]
        exact List.countP_pos_iff.2 ⟨p, hp, hq⟩
      | false =>
        symm
        rw [decide_eq_false_iff_not]
        intro h3
        obtain ⟨p, hp, hq⟩ := List.countP_pos_iff.1 h3
        rw [List.any_eq_false] at h
        exact h p hp hq
    have hstep0 : cnt (fun x => !(L.any fun p => p x)) (n + 1) = cnt (fun x => !(L.any fun p => p x)) n + (if c = 0 then 1 else 0) := by
      show cnt (fun x => !(L.any fun p => p x)) n + (if (!(L.any fun p => p n)) = true then 1 else 0) = _
      simp only [hany]
      by_cases h : c = 0
      · subst h; simp
      · have : 0 < c := by omega
        simp [this, h]
    rw [hc, hstep0]
    obtain ⟨X, hX⟩ : ∃ z, cnt (fun x => !(L.any fun p => p x)) n = z := ⟨_, rfl⟩
    obtain ⟨Y, hY⟩ : ∃ z, sumC L n = z := ⟨_, rfl⟩
    rw [hX, hY] at h1 h2 ⊢
    have hstep : X + (if c = 0 then 1 else 0) + (Y + c) = X + Y + (if c = 0 then 1 else c) := by split <;> omega
    rw [hstep]
    have hge : 1 ≤ (if c = 0 then 1 else c) ∧ ((if c = 0 then 1 else c) = 1 ↔ c ≤ 1) := by split <;> omega
    obtain ⟨d, hd⟩ : ∃ z, (if c = 0 then 1 else c) = z := ⟨_, rfl⟩
    rw [hd] at hge ⊢
    refine ⟨by omega, ⟨fun he x hx => ?_, fun hall => ?_⟩⟩
    · rcases Nat.lt_or_ge x n with h | h
      · exact h2.1 (by omega) x h
      · obtain rfl : x = n := by omega
        rw [hc]
        exact hge.2.1 (by omega)
    · have e1 := h2.2 fun x hx => hall x (by omega)
      have e2 := hge.2.2 (by have := hall n (by omega); rw [hc] at this; exact this)
      omega
/-- The field of a word with fewer bits is not greater. -/
theorem getN_mono {w x : Nat} (h : w ||| x = x) : ∀ L : List MPiece, getN w L ≤ getN x L
  | [] => Nat.le_refl _
  | p :: L => by
    have ih := getN_mono h L
    simp only [getN]
    have h1 : w / 2 ^ p.p % 2 ^ p.l ≤ x / 2 ^ p.p % 2 ^ p.l := by
      have : (w / 2 ^ p.p % 2 ^ p.l) ||| (x / 2 ^ p.p % 2 ^ p.l) = x / 2 ^ p.p % 2 ^ p.l := by
        apply Nat.eq_of_testBit_eq
        intro i
        have h2 := congrArg (fun z => z.testBit (i + p.p)) h
        simp only [Nat.testBit_or] at h2
        rw [Nat.testBit_or, Nat.testBit_mod_two_pow, Nat.testBit_mod_two_pow, Nat.testBit_div_two_pow, Nat.testBit_div_two_pow]
        by_cases hi : i < p.l
        · simpa [hi] using h2
        · simp [hi]
      rw [← this]
      exact Nat.left_le_or
    have h2 := Nat.mul_le_mul_left (2 ^ p.l) ih
    omega
/-- If both have a word, both have their matches together. -/
theorem has_common {s t : Shp} {x : Nat} (hs : hasR s x = true) (ht : hasR t x = true) : hasR s (comW s t) = true := by
  unfold hasR at hs ht ⊢
  simp only [Bool.and_eq_true, decide_eq_true_eq, List.all_eq_true] at hs ht ⊢
  have hb : ∀ {k m : Nat}, x &&& k = m → ∀ j, m.testBit j = true → x.testBit j = true := fun h j hj => by
    rw [← h, Nat.testBit_and, Bool.and_eq_true] at hj
    exact hj.1
  have hw : comW s t ||| x = x := by
    apply Nat.eq_of_testBit_eq
    intro j
    unfold comW
    rw [Nat.testBit_or, Nat.testBit_or]
    cases h1 : s.mtch.testBit j with
    | true => rw [hb hs.1 j h1]; rfl
    | false =>
      cases h2 : t.mtch.testBit j with
      | true => rw [hb ht.1 j h2]; rfl
      | false => rfl
  refine ⟨?_, fun f hf => Nat.lt_of_le_of_lt (getN_mono hw f.pieces) (hs.2 f hf)⟩
  apply Nat.eq_of_testBit_eq
  intro j
  have hj := congrArg (fun z => z.testBit j) hs.1
  simp only [Nat.testBit_and] at hj
  have hwj := congrArg (fun z => z.testBit j) hw
  simp only [Nat.testBit_or] at hwj
  rw [Nat.testBit_and]
  have hsw : s.mtch.testBit j = true → (comW s t).testBit j = true := fun h => by unfold comW; rw [Nat.testBit_or, h]; rfl
  cases h1 : (18446744073709551615 - s.free).testBit j with
  | false => rw [h1] at hj; simp at hj; simp [hj]
  | true =>
    rw [h1] at hj
    simp only [Bool.and_true] at hj ⊢
    cases h2 : s.mtch.testBit j with
    | true => exact hsw h2
    | false =>
      rw [h2] at hj
      cases h3 : (comW s t).testBit j with
      | false => rfl
      | true => rw [h3] at hwj; rw [hj] at hwj; simp at hwj
theorem comW_swap (s t : Shp) : comW s t = comW t s := by unfold comW; rw [Nat.or_comm]
theorem comB_of {s t : Shp} {x : Nat} (hs : hasR s x = true) (ht : hasR t x = true) : comB s t = true := by
  unfold comB
  rw [has_common hs ht, comW_swap, has_common ht hs]
  rfl
/-- A word with two owners, and a place for each. -/
theorem countP_two {α : Type} (p : α → Bool) : ∀ L : List α, 2 ≤ L.countP p ↔ ∃ (i j : Nat) (a b : α), i < j ∧ L[i]? = some a ∧ L[j]? = some b ∧ p a = true ∧ p b = true
  | [] => by simp
  | a :: L => by
    rw [List.countP_cons]
    constructor
    · intro h
      by_cases h2 : 2 ≤ L.countP p
      · obtain ⟨i, j, x, y, h3, h4, h5, h6⟩ := (countP_two p L).1 h2
        exact ⟨i + 1, j + 1, x, y, by omega, by simpa using h4, by simpa using h5, h6⟩
      · cases hp : p a with
        | false => rw [hp] at h; simp at h; omega
        | true =>
          rw [hp, if_pos rfl] at h
          obtain ⟨b, hb, hq⟩ := List.countP_pos_iff.1 (show 0 < L.countP p by omega)
          obtain ⟨j, hj, e⟩ := List.getElem_of_mem hb
          exact ⟨0, j + 1, a, b, by omega, by simp, by simp [List.getElem?_eq_getElem hj, e], hp, hq⟩
    · rintro ⟨i, j, x, y, hij, hi, hj, hx, hy⟩
      obtain ⟨j, rfl⟩ : ∃ k, j = k + 1 := ⟨j - 1, by omega⟩
      rw [List.getElem?_cons_succ] at hj
      rcases i with _ | i
      · obtain rfl : a = x := by simpa using hi
        have := List.countP_pos_iff.2 ⟨y, List.mem_of_getElem? hj, hy⟩
        rw [hx, if_pos rfl]
        omega
      · rw [List.getElem?_cons_succ] at hi
        have := (countP_two p L).2 ⟨i, j, x, y, by omega, hi, hj, hx, hy⟩
        omega
theorem mem_restP {a n : Nat} {x : Nat × Nat} : x ∈ restP a n ↔ a ≤ x.1 ∧ x.1 < x.2 ∧ x.2 < n := by
  unfold restP rowP
  simp only [List.mem_flatten, List.mem_map, List.mem_range'_1]
  constructor
  · rintro ⟨l, ⟨i, hi, rfl⟩, hx⟩
    simp only [List.mem_map, List.mem_range'_1] at hx
    obtain ⟨j, hj, rfl⟩ := hx
    simp only
    omega
  · rintro ⟨h1, h2, h3⟩
    refine ⟨_, ⟨x.1, by omega, rfl⟩, ?_⟩
    simp only [List.mem_map, List.mem_range'_1]
    exact ⟨x.2, by omega, rfl⟩
/-- No clash: no word has two. -/
theorem clash_nil {L : List Shp} {N : Nat} (hw : ∀ s ∈ L, ∀ t ∈ L, comW s t < N) : clL L (pairsN L.length) = [] ↔ ∀ x, x < N → L.countP (fun s => hasR s x) ≤ 1 := by
  constructor
  · intro h x hx
    rcases Nat.lt_or_ge (L.countP fun s => hasR s x) 2 with h2 | h2
    · omega
    · obtain ⟨i, j, a, b, hij, hi, hj, ha, hb⟩ := (countP_two _ L).1 h2
      have hjl := (List.getElem?_eq_some_iff.1 hj).1
      have hm : (i, j) ∈ pairsN L.length := mem_restP.2 ⟨Nat.zero_le _, hij, hjl⟩
      unfold clL at h
      rw [List.filterMap_eq_nil_iff] at h
      have := h (i, j) hm
      simp only [hi, hj, comB_of ha hb] at this
      cases this
  · intro h
    unfold clL
    rw [List.filterMap_eq_nil_iff]
    rintro ⟨i, j⟩ hm
    obtain ⟨_, hij, hj⟩ := mem_restP.1 hm
    simp only at hij hj ⊢
    have hi1 : L[i]? = some (L[i]'(by omega)) := List.getElem?_eq_getElem _
    have hj1 : L[j]? = some (L[j]'hj) := List.getElem?_eq_getElem _
    obtain ⟨a, ha⟩ : ∃ a, L[i]? = some a := ⟨_, hi1⟩
    obtain ⟨b, hb⟩ : ∃ b, L[j]? = some b := ⟨_, hj1⟩
    rw [ha, hb]
    simp only
    cases hc : comB a b with
    | false => simp
    | true =>
      have h2 : 2 ≤ L.countP (fun s => hasR s (comW a b)) := (countP_two _ L).2 ⟨i, j, a, b, hij, ha, hb, by unfold comB at hc; rw [Bool.and_eq_true] at hc; exact hc⟩
      have := h (comW a b) (hw a (List.mem_of_getElem? ha) b (List.mem_of_getElem? hb))
      omega
end Go.Proofs.YtnjlgllpfbkdoaaGreatDoor
namespace Go.Proofs.YtnjlgllpfbkdoaaGreatDoor
open Go.RowKit
set_option linter.unusedVariables false
set_option linter.unusedSimpArgs false
set_option maxRecDepth 100000

/-- The bits of a layout's mask. -/
theorem pop_mask {size : Int} (hs : size ≤ 64) : ∀ {L : List MPiece} {t : Nat}, GoodM size t L → pop (maskN t L) 64 = pop t 64 + widthL L
  | [], t, _ => rfl
  | x :: L, t, h => by
    obtain ⟨c1, c2, c3, c4⟩ := pcOk_iff.1 h.1
    rw [maskN, pop_mask hs h.2.2, pop_or 64 h.2.1 (by unfold MPiece.p MPiece.l; omega), widthL]
    omega
theorem ones_width {size : Int} (hs : size ≤ 64) {L : List MPiece} (h : GoodM size 0 L) : ocR (maskN 0 L) = widthL L := by
  have h1 := pop_mask hs h
  unfold ocR
  rw [ones_cnt]
  have h0 : pop 0 64 = 0 := by decide
  rw [h0, Nat.zero_add] at h1
  exact h1
theorem fwR_width {size : Int} (hs : size ≤ 64) : ∀ {L : List MPiece} {t : Nat} (a : Nat), GoodM size t L → a + widthL L ≤ 1000 → fwR (a : Int) L = ((a + widthL L : Nat) : Int)
  | [], t, a, _, _ => rfl
  | x :: L, t, a, h, ha => by
    obtain ⟨c1, c2, c3, c4⟩ := pcOk_iff.1 h.1
    rw [widthL] at ha ⊢
    have hx : x.len = ((x.l : Nat) : Int) := by unfold MPiece.l; omega
    have hw : wrap64 ((a : Int) + x.len) = ((a + x.l : Nat) : Int) := by rw [hx, wrap64_small _ (by omega) (by omega)]; omega
    rw [fwR, hw, fwR_width hs (a + x.l) h.2.2 (by omega)]
    omega
/-- An operand's field holds its values. -/
theorem valR_le {m : Mach} (h : chkR m = 0) {i : MIns} (hi : i ∈ m.instrs) {o : MOper} (ho : o ∈ i.opers) : valR m o ≤ 2 ^ widthL o.pieces := by
  obtain ⟨hw, _, _, _, _, hP, hO⟩ := ins_good h hi
  obtain ⟨before, hb⟩ := hO o ho
  have hg := (hP o ho).2.2
  have hwd := (hP o ho).width
  unfold valR
  split
  · rename_i hk
    unfold operOk at hb
    rw [if_pos hk.1] at hb
    by_cases hb0 : 0 ≤ o.bank
    · rw [if_pos hb0] at hb
      cases hq : m.banks[o.bank.toNat]? with
      | none => rw [hq] at hb; cases hb
      | some b =>
        rw [hq] at hb
        simp only at hb
        split at hb
        · cases hb
        · rw [if_pos hk.2] at hb
          unfold bitsOkR okB at hb
          have hf := fwR_width (size := 8 * m.word) (by omega) 0 hg (by omega)
          simp only [Bool.and_eq_true, decide_eq_true_eq] at hb
          have h2 := hb.2.2
          rw [show ((0 : Nat) : Int) = 0 from rfl] at hf
          rw [hf, Nat.zero_add, Int.toNat_natCast] at h2
          simp only [Option.map_some, Option.getD_some]
          omega
    · rw [if_neg hb0] at hb; cases hb
  · rw [ones_width (size := 8 * m.word) (by omega) hg]
    exact Nat.mod_le _ _
theorem apart_of {size : Int} {V : MOper → Nat} : ∀ {l : List MOper} {t : Nat}, LaysOk size t l → Apart (l.map fun o => ⟨o.pieces, V o⟩)
  | [], _, _ => trivial
  | o :: l, t, h => by
    refine ⟨fun g hg j hj => ?_, apart_of h.2⟩
    obtain ⟨q, hq, rfl⟩ := List.mem_map.1 hg
    show hasL q.pieces j = false
    cases hh : hasL q.pieces j with
    | false => rfl
    | true =>
      have := (h.2.each q hq).2 j hh
      rw [maskN_bit] at this
      have hj' : hasL o.pieces j = true := hj
      rw [hj'] at this
      simp at this
theorem prodF_pos_le : ∀ (l : List Fld) (B : Nat), B * prodF l < 18446744073709551616 → (∀ f ∈ l, 0 < f.values) → l.foldl (fun a f => a * f.values % 18446744073709551616) B = B * prodF l
  | [], B, _, _ => by simp [prodF]
  | f :: l, B, h, hp => by
    rw [prodF, ← Nat.mul_assoc] at h
    have hl : 0 < prodF l := by
      have : ∀ l : List Fld, (∀ f ∈ l, 0 < f.values) → 0 < prodF l := by
        intro l
        induction l with
        | nil => intro _; decide
        | cons f l ih => intro h; exact Nat.mul_pos (h f (by simp)) (ih fun g hg => h g (by simp [hg]))
      exact this l fun g hg => hp g (by simp [hg])
    have hlt : B * f.values < 18446744073709551616 := Nat.lt_of_le_of_lt (Nat.le_mul_of_pos_right _ hl) h
    rw [List.foldl_cons, Nat.mod_eq_of_lt hlt, prodF_pos_le l (B * f.values) h fun g hg => hp g (by simp [hg]), prodF, Nat.mul_assoc]
/-- The words of an instruction's shape are its count. -/
theorem count_words {w : World} {v : Value} {m : Mach} (hm : MachV w v m) (h : chkR m = 0) {k : Nat} {i : MIns} (hi : m.instrs[k]? = some i) : cntR m (k : Int) = cnt (fun x => hasR (shapeR m i) x) (2 ^ (8 * m.word).toNat) := by
  have him := List.mem_of_getElem? hi
  obtain ⟨hwd, _, h3, h4, hLay, hP, _⟩ := ins_good h him
  have hmt := ins_mtch hm h him
  have hself := self_has hm h him
  have hp32 : 2 ^ (8 * m.word).toNat ≤ 4294967296 := pow_le32 (by omega)
  obtain ⟨B, hB⟩ : ∃ B, B = fun x : Nat => decide (x &&& (18446744073709551615 - freeR i.opers) = i.mtch) := ⟨_, rfl⟩
  have hfree : freeR i.opers < 18446744073709551616 := by
    have := freeK_lt hP i.opers.length
    unfold freeK at this
    rw [List.take_length] at this
    omega
  have hBp : ∀ o ∈ i.opers, ∀ x v, B (putN x v o.pieces) = B x := fun o ho x v => by
    have e : putN x v o.pieces &&& (18446744073709551615 - freeR i.opers) = x &&& (18446744073709551615 - freeR i.opers) := by
      apply Nat.eq_of_testBit_eq
      intro j
      rw [Nat.testBit_and, Nat.testBit_and, putN_bit]
      by_cases hj : hasL o.pieces j = true
      · have hf : (freeR i.opers).testBit j = true := by
          unfold freeR
          rw [free_bit, Nat.zero_testBit, Bool.false_or, List.any_eq_true]
          exact ⟨o, ho, hj⟩
        have hn : (18446744073709551615 - freeR i.opers).testBit j = false := by rw [not_bit hfree (bit_lt64 hfree hf), hf]; rfl
        rw [hn]
        simp
      · rw [if_neg hj]
    rw [hB]
    simp only [e]
  have hc := cnt_fields (size := 8 * m.word) (shapeR m i).fields B (apart_of hLay) (fun f hf => by
    obtain ⟨o, ho, rfl⟩ := List.mem_map.1 hf
    exact ⟨(hP o ho).2.2, valR_le h him ho, hBp o ho⟩)
  have hone : cnt (fun x => B x && (shapeR m i).fields.all fun f => decide (getN x f.pieces < 1)) (2 ^ (8 * m.word).toNat) = 1 := by
    refine cnt_one hmt fun x hx => ?_
    have hx64 : x < 18446744073709551616 := by omega
    rw [Bool.and_eq_true, List.all_eq_true]
    constructor
    · rintro ⟨k1, k2⟩
      rw [hB] at k1
      simp only [decide_eq_true_eq] at k1
      rw [← k1]
      apply Nat.eq_of_testBit_eq
      intro j
      rw [Nat.testBit_and]
      cases hj : x.testBit j with
      | false => rfl
      | true =>
        rw [not_bit hfree (bit_lt64 hx64 hj)]
        cases hf : (freeR i.opers).testBit j with
        | false => rfl
        | true =>
          unfold freeR at hf
          rw [free_bit, Nat.zero_testBit, Bool.false_or, List.any_eq_true] at hf
          obtain ⟨o, ho, hob⟩ := hf
          have k3 := k2 ⟨o.pieces, valR m o⟩ (List.mem_map.2 ⟨o, ho, rfl⟩)
          simp only [decide_eq_true_eq] at k3
          have k4 : getN x o.pieces = 0 := by omega
          have k5 := put_get o.pieces x
          rw [k4] at k5
          rw [← k5, putN_bit, if_pos hob] at hj
          have : ∀ (L : List MPiece) (j : Nat), valJ 0 L j = false := by
            intro L
            induction L with
            | nil => intro j; rfl
            | cons y L ih => intro j; unfold valJ; simp [ih]
          rw [this] at hj
          cases hj
    · rintro rfl
      unfold hasR at hself
      rw [Bool.and_eq_true] at hself
      refine ⟨?_, fun f hf => ?_⟩
      · rw [hB]; exact hself.1
      · obtain ⟨o, ho, rfl⟩ := List.mem_map.1 hf
        rw [decide_eq_true_eq]
        show getN i.mtch o.pieces < 1
        have e : getN i.mtch o.pieces = getN 0 o.pieces := getN_same o.pieces fun j hj => by
          rw [Nat.zero_testBit]
          cases hq : i.mtch.testBit j with
          | false => rfl
          | true =>
            have h2 := congrArg (fun z => z.testBit j) h4
            have hmk64 : i.mask < 18446744073709551616 := by omega
            simp only [Nat.testBit_and, Nat.zero_testBit, hq, Bool.true_and, not_bit hmk64 (bit_lt64 (by omega) hq)] at h2
            rw [(hLay.each o ho).2 j hj] at h2
            cases h2
        rw [e, getN_zero]
        omega
  rw [hone, Nat.mul_one] at hc
  have hle := cnt_le (fun x => hasR (shapeR m i) x) (2 ^ (8 * m.word).toNat)
  have hsame : cnt (fun x => hasR (shapeR m i) x) (2 ^ (8 * m.word).toNat) = prodF (shapeR m i).fields := by
    rw [← hc]
    refine cnt_same _ fun x _ => ?_
    rw [hB]
    rfl
  rw [hsame] at hle ⊢
  have ham : amErr m [(k : Int)] = 0 := by
    unfold amErr
    rw [if_pos h]
    have hk := (List.getElem?_eq_some_iff.1 hi).1
    have : insIdx m (k : Int) = true := by unfold insIdx; simp; omega
    simp [this]
  unfold cntR
  rw [if_pos ham, Int.toNat_natCast, hi]
  show prodK _ _ = _
  unfold prodK
  rw [List.take_length, prodF_pos_le _ 1 (by rw [Nat.one_mul]; omega) (fun f hf => by
    obtain ⟨o, ho, rfl⟩ := List.mem_map.1 hf
    exact valR_pos h him ho), Nat.one_mul]
end Go.Proofs.YtnjlgllpfbkdoaaGreatDoor
namespace Go.Proofs.YtnjlgllpfbkdoaaGreatDoor
open Go.RowKit
set_option linter.unusedVariables false
set_option linter.unusedSimpArgs false
set_option maxRecDepth 100000

/-- The holes and the first counts. -/
noncomputable def allS (m : Mach) (k : Nat) : Nat := (holL m 0 256).length + ((List.range k).map fun (j : Nat) => cntR m (j : Int)).sum
theorem allS_succ (m : Mach) (k : Nat) : allS m (k + 1) = allS m k + cntR m (k : Int) := by
  unfold allS
  rw [List.range_succ, List.map_append, List.sum_append]
  simp
  omega
theorem all_le {w : World} {v : Value} {m : Mach} (hm : MachV w v m) (h : chkR m = 0) (h1 : m.word = 1) {k : Nat} (hk : k < m.instrs.length) : cntR m (k : Int) ≤ 256 := by
  obtain ⟨i, hi⟩ : ∃ i, m.instrs[k]? = some i := ⟨_, List.getElem?_eq_getElem hk⟩
  rw [count_words hm h hi, h1]
  exact cnt_le _ _
theorem allS_le {w : World} {v : Value} {m : Mach} (hm : MachV w v m) (h : chkR m = 0) (h1 : m.word = 1) : ∀ k, k ≤ m.instrs.length → allS m k ≤ 256 * (k + 1)
  | 0, _ => by
    unfold allS holL
    split
    · have := holeK_len (m.instrs.map (shapeR m)) 0 (256 : Int).toNat
      simp
      exact this
    · simp
  | k + 1, hk => by
    have := allS_le hm h h1 k (by omega)
    have := all_le hm h h1 (k := k) (by omega)
    rw [allS_succ]
    omega
theorem holErr_zero' {m : Mach} {fr : Nat} {n : Int} (hc : chkR m = 0) (h1 : 0 ≤ n ∧ n ≤ 4096) (h2 : fr ≤ endR m ∧ n.toNat ≤ endR m - fr) : holErr m fr n = 0 := by
  unfold holErr
  rw [if_pos hc, if_pos h1, if_pos h2]
theorem all_err {m : Mach} (h : chkR m = 0) (h1 : m.word = 1) : holErr m 0 256 = 0 := holErr_zero' h ⟨by omega, by omega⟩ ⟨Nat.zero_le _, by unfold endR; rw [h1]; decide⟩
theorem all_cover {w : World} {v : Value} {m : Mach} (hm : MachV w v m) (h : chkR m = 0) (h1 : m.word = 1) : 256 ≤ allS m m.instrs.length ∧ (clashL m = [] ↔ allS m m.instrs.length = 256) := by
  obtain ⟨L, hL⟩ : ∃ L, L = m.instrs.map (shapeR m) := ⟨_, rfl⟩
  have hlen : L.length = m.instrs.length := by rw [hL, List.length_map]
  obtain ⟨k1, k2⟩ := cover (L.map hasR) 256
  have e1 : (holL m 0 256).length = cnt (fun x => !((L.map hasR).any fun p => p x)) 256 := by
    unfold holL
    rw [if_pos (all_err h h1)]
    unfold holeK plK
    rw [List.length_map, ← cnt_filter, ← hL]
    refine cnt_same _ fun x _ => ?_
    unfold holeB
    rw [Nat.zero_add, List.any_map]
    rfl
  have e2 : ((List.range m.instrs.length).map fun (j : Nat) => cntR m (j : Int)).sum = sumC (L.map hasR) 256 := by
    unfold sumC
    congr 1
    apply List.ext_getElem?
    intro j
    rw [List.getElem?_map, List.getElem?_map, List.getElem?_map, hL, List.getElem?_map]
    rcases Nat.lt_or_ge j m.instrs.length with hj | hj
    · obtain ⟨i, hi⟩ : ∃ i, m.instrs[j]? = some i := ⟨_, List.getElem?_eq_getElem hj⟩
      rw [List.getElem?_range hj, hi]
      simp only [Option.map_some]
      rw [count_words hm h hi, h1]
      rfl
    · rw [List.getElem?_eq_none (by simpa using hj), List.getElem?_eq_none hj]; rfl
  have e3 : clashL m = [] ↔ ∀ x, x < 256 → (L.map hasR).countP (fun p => p x) ≤ 1 := by
    unfold clashL
    rw [if_pos h, ← hL, ← hlen]
    rw [clash_nil (N := 256) (fun s hs t ht => by
      rw [hL] at hs ht
      obtain ⟨i, hi, rfl⟩ := List.mem_map.1 hs
      obtain ⟨i', hi', rfl⟩ := List.mem_map.1 ht
      have h2 := ins_mtch hm h hi
      have h3 := ins_mtch hm h hi'
      rw [h1] at h2 h3
      exact Nat.or_lt_two_pow (n := 8) h2 h3)]
    constructor
    · intro hh x hx
      rw [List.countP_map]
      exact hh x hx
    · intro hh x hx
      have := hh x hx
      rw [List.countP_map] at this
      exact this
  have e4 : allS m m.instrs.length = cnt (fun x => !((L.map hasR).any fun p => p x)) 256 + sumC (L.map hasR) 256 := by unfold allS; rw [e1, e2]
  rw [e4, e3]
  exact ⟨k1, k2.symm⟩
end Go.Proofs.YtnjlgllpfbkdoaaGreatDoor
