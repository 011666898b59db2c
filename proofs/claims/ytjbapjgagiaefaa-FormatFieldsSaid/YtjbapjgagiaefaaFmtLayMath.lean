/- Plain mathematics of layouts: masks, fields, words. -/
import Derived.Test.YtjbapjgagiaefaaFmtMask
namespace Go.Proofs.Ytjbapjgagiaefaa
open Go.RowKit
set_option linter.unusedVariables false
set_option linter.unusedSimpArgs false

def MPiece.p (x : MPiece) : Nat := x.pos.toNat
def MPiece.l (x : MPiece) : Nat := x.len.toNat
theorem pcM_eq (x : MPiece) : pcM x = (2 ^ x.l - 1) * 2 ^ x.p := rfl
/-- The piece has the bit j. -/
def MPiece.has (x : MPiece) (j : Nat) : Bool := decide (x.p ≤ j ∧ j < x.p + x.l)
def hasL (L : List MPiece) (j : Nat) : Bool := L.any (fun x => x.has j)
def widthL : List MPiece → Nat | [] => 0 | x :: L => x.l + widthL L
/-- The layout is valid beside the bits m. -/
def GoodM (size : Int) : Nat → List MPiece → Prop
  | _, [] => True
  | m, x :: L => pcOk size x = true ∧ m &&& pcM x = 0 ∧ GoodM size (m ||| pcM x) L
def maskN (m : Nat) : List MPiece → Nat | [] => m | x :: L => maskN (m ||| pcM x) L

theorem pcM_bit (x : MPiece) (j : Nat) : (pcM x).testBit j = x.has j := by
  rw [pcM_eq]
  unfold MPiece.has
  rw [Nat.testBit_mul_two_pow, Nat.testBit_two_pow_sub_one]
  rw [Bool.eq_iff_iff]
  simp
  omega
theorem goodM_go {size : Int} : ∀ (L : List MPiece) (m : Nat), ((maskGo size m L).2 = 0 ↔ GoodM size m L) ∧ (GoodM size m L → maskGo size m L = (maskN m L, 0)) ∧ ((maskGo size m L).2 = 0 ∨ maskGo size m L = (0, 8))
  | [], m => ⟨by simp [maskGo, GoodM], fun _ => rfl, by simp [maskGo]⟩
  | x :: L, m => by
    have ih := goodM_go (size := size) L (m ||| pcM x)
    by_cases h1 : pcOk size x = true
    · by_cases h2 : m &&& pcM x = 0
      · have e : maskGo size m (x :: L) = maskGo size (m ||| pcM x) L := by simp only [maskGo]; rw [if_pos h1, if_pos h2]
        rw [e]
        exact ⟨⟨(fun h => ⟨h1, h2, ih.1.1 h⟩), (fun h => ih.1.2 h.2.2)⟩, (fun h => ih.2.1 h.2.2), ih.2.2⟩
      · have e : maskGo size m (x :: L) = (0, 8) := by simp only [maskGo]; rw [if_pos h1, if_neg h2]
        rw [e]
        exact ⟨⟨(fun h => by cases h), (fun h => absurd h.2.1 h2)⟩, (fun h => absurd h.2.1 h2), .inr rfl⟩
    · have e : maskGo size m (x :: L) = (0, 8) := by simp only [maskGo]; rw [if_neg h1]
      rw [e]
      exact ⟨⟨(fun h => by cases h), (fun h => absurd h.1 h1)⟩, (fun h => absurd h.1 h1), .inr rfl⟩
theorem pcOk_iff {size : Int} {x : MPiece} : pcOk size x = true ↔ 1 ≤ x.len ∧ x.len ≤ size ∧ 0 ≤ x.pos ∧ x.pos ≤ size - x.len := by
  unfold pcOk inB; simp [and_assoc]
theorem and_zero {a b : Nat} : a &&& b = 0 ↔ ∀ j, ¬ (a.testBit j = true ∧ b.testBit j = true) := by
  constructor
  · intro h j ⟨h1, h2⟩
    have := congrArg (fun z => z.testBit j) h
    simp [h1, h2] at this
  · intro h
    apply Nat.eq_of_testBit_eq
    intro j
    have := h j
    simp only [Nat.testBit_and, Nat.zero_testBit]
    cases h1 : a.testBit j <;> cases h2 : b.testBit j <;> simp_all
theorem GoodM.mem {size : Int} : ∀ {L : List MPiece} {m : Nat}, GoodM size m L → ∀ x ∈ L, pcOk size x = true ∧ m &&& pcM x = 0
  | y :: L, m, h, x, hx => by
    cases hx with
    | head => exact ⟨h.1, h.2.1⟩
    | tail _ hx =>
      obtain ⟨h1, h2⟩ := GoodM.mem h.2.2 x hx
      refine ⟨h1, and_zero.2 fun j ⟨a, b⟩ => and_zero.1 h2 j ⟨?_, b⟩⟩
      rw [Nat.testBit_or, a]; rfl
/-- Nothing of the layout meets m. -/
theorem GoodM.free {size : Int} {L : List MPiece} {m : Nat} (h : GoodM size m L) (j : Nat) (hj : hasL L j = true) : m.testBit j = false := by
  unfold hasL at hj
  rw [List.any_eq_true] at hj
  obtain ⟨x, hx, hb⟩ := hj
  have := and_zero.1 (h.mem x hx).2 j
  rw [pcM_bit, hb] at this
  simpa using this
theorem GoodM.sub {size : Int} : ∀ {L : List MPiece} {m m' : Nat}, GoodM size m L → (∀ j, m'.testBit j = true → m.testBit j = true) → GoodM size m' L
  | [], _, _, _, _ => trivial
  | x :: L, m, m', h, hs => ⟨h.1, and_zero.2 fun j ⟨a, b⟩ => and_zero.1 h.2.1 j ⟨hs j a, b⟩, GoodM.sub h.2.2 fun j hj => by
      rw [Nat.testBit_or, Bool.or_eq_true] at hj ⊢
      exact hj.imp (hs j) id⟩
theorem maskN_bit : ∀ (L : List MPiece) (m j : Nat), (maskN m L).testBit j = (m.testBit j || hasL L j)
  | [], m, j => by simp [maskN, hasL]
  | x :: L, m, j => by
    rw [maskN, maskN_bit L, Nat.testBit_or, pcM_bit, Bool.or_assoc]
    rfl

/- The sum of the lengths. -/
def cnt (p : Nat → Bool) : Nat → Nat | 0 => 0 | n + 1 => cnt p n + if p n = true then 1 else 0
theorem cnt_le (p : Nat → Bool) : ∀ n, cnt p n ≤ n
  | 0 => Nat.le_refl _
  | n + 1 => by have := cnt_le p n; simp only [cnt]; split <;> omega
theorem cnt_or {p q : Nat → Bool} : ∀ n, (∀ i, i < n → ¬ (p i = true ∧ q i = true)) → cnt (fun i => p i || q i) n = cnt p n + cnt q n
  | 0, _ => rfl
  | n + 1, h => by
    have ih := cnt_or (p := p) (q := q) n (fun i hi => h i (by omega))
    have h0 := h n (by omega)
    simp only [cnt, ih, Bool.or_eq_true]
    by_cases hp : p n = true <;> by_cases hq : q n = true
    · exact absurd ⟨hp, hq⟩ h0
    · simp [hp, hq]; omega
    · simp [hp, hq]; omega
    · simp [hp, hq]
theorem cnt_int (a l : Nat) : ∀ n, cnt (fun i => decide (a ≤ i ∧ i < a + l)) n = min n (a + l) - min n a
  | 0 => by simp [cnt]
  | n + 1 => by
    have ih := cnt_int a l n
    simp only [cnt, ih, decide_eq_true_eq]
    split <;> omega
def pop (m n : Nat) : Nat := cnt (fun i => m.testBit i) n
theorem pop_or {m : Nat} {x : MPiece} (n : Nat) (h : m &&& pcM x = 0) (hx : x.p + x.l ≤ n) : pop (m ||| pcM x) n = pop m n + x.l := by
  unfold pop
  have e : (fun i => (m ||| pcM x).testBit i) = fun i => m.testBit i || decide (x.p ≤ i ∧ i < x.p + x.l) := by
    funext i
    rw [Nat.testBit_or, pcM_bit]; rfl
  rw [e, cnt_or n, cnt_int]
  · have e9 : cnt (fun i => m.testBit i) n = cnt m.testBit n := rfl
    omega
  · rintro i _ ⟨a, b⟩
    exact and_zero.1 h i ⟨a, by rw [pcM_bit]; exact b⟩
theorem GoodM.width {size : Int} : ∀ {L : List MPiece} {m : Nat}, GoodM size m L → pop m size.toNat + widthL L ≤ size.toNat
  | [], m, _ => by have := cnt_le (fun i => m.testBit i) size.toNat; unfold pop widthL; omega
  | x :: L, m, h => by
    have ih := GoodM.width h.2.2
    obtain ⟨c1, c2, c3, c4⟩ := pcOk_iff.1 h.1
    rw [pop_or _ h.2.1 (by unfold MPiece.p MPiece.l; omega)] at ih
    simp only [widthL]
    omega

/- Fields and words. -/
def getN (w : Nat) : List MPiece → Nat | [] => 0 | x :: L => w / 2 ^ x.p % 2 ^ x.l + 2 ^ x.l * getN w L
/-- The bits of x become the lowest bits of f. -/
def pstep (w f : Nat) (x : MPiece) : Nat := (w - (w &&& pcM x)) ||| (f % 2 ^ x.l * 2 ^ x.p)
def putN (w f : Nat) : List MPiece → Nat | [] => w | x :: L => putN (pstep w f x) (f / 2 ^ x.l) L
theorem add_or : ∀ {a b : Nat}, a &&& b = 0 → a + b = a ||| b := by
  intro a
  induction a using Nat.strongRecOn with
  | _ a ih =>
    intro b h
    by_cases ha : a = 0
    · subst ha; simp
    · have h2 : (a / 2) &&& (b / 2) = 0 := by rw [← Nat.and_div_two, h]
      have e := ih (a / 2) (by omega) h2
      have h0 := and_zero.1 h 0
      rw [Nat.testBit_zero, Nat.testBit_zero] at h0
      simp at h0
      have e2 : (a ||| b) / 2 = a / 2 ||| b / 2 := Nat.or_div_two
      have e3 : (a ||| b) % 2 = a % 2 + b % 2 := by
        have e4 := Nat.testBit_or a b 0
        rw [Nat.testBit_zero, Nat.testBit_zero, Nat.testBit_zero] at e4
        rcases Nat.mod_two_eq_zero_or_one a with u | u <;> rcases Nat.mod_two_eq_zero_or_one b with v | v <;> rcases Nat.mod_two_eq_zero_or_one (a ||| b) with t | t <;> simp_all
      omega
theorem sub_and_bit (w m j : Nat) : (w - (w &&& m)).testBit j = (w.testBit j && !m.testBit j) := by
  have e : w - (w &&& m) = w ^^^ (w &&& m) := by
    have h : (w &&& m) + (w ^^^ (w &&& m)) = w := by
      have h1 : (w &&& m) &&& (w ^^^ (w &&& m)) = 0 := by
        rw [and_zero]; intro i; simp only [Nat.testBit_and, Nat.testBit_xor]; cases w.testBit i <;> cases m.testBit i <;> simp
      rw [add_or h1]
      apply Nat.eq_of_testBit_eq; intro i
      simp only [Nat.testBit_or, Nat.testBit_and, Nat.testBit_xor]; cases w.testBit i <;> cases m.testBit i <;> simp
    omega
  rw [e, Nat.testBit_xor, Nat.testBit_and]
  cases w.testBit j <;> cases m.testBit j <;> simp
theorem has_iff {x : MPiece} {j : Nat} : x.has j = true ↔ x.p ≤ j ∧ j < x.p + x.l := by unfold MPiece.has; simp
theorem pstep_bit (w f : Nat) (x : MPiece) (j : Nat) : (pstep w f x).testBit j = if x.has j = true then f.testBit (j - x.p) else w.testBit j := by
  unfold pstep
  rw [Nat.testBit_or, sub_and_bit, pcM_bit, Nat.testBit_mul_two_pow, Nat.testBit_mod_two_pow]
  by_cases h : x.has j = true
  · obtain ⟨a, b⟩ := has_iff.1 h
    rw [if_pos h, h]
    have e1 : decide (j ≥ x.p) = true := by simpa using a
    have e2 : decide (j - x.p < x.l) = true := by simp; omega
    rw [e1, e2]; simp
  · have h' := fun q => h (has_iff.2 q)
    rw [if_neg h, (by simpa using h : x.has j = false)]
    by_cases e1 : x.p ≤ j
    · have e2 : decide (j - x.p < x.l) = false := by
        have : ¬ (j < x.p + x.l) := fun q => h' ⟨e1, q⟩
        simp; omega
      rw [e2]; simp
    · have e2 : decide (j ≥ x.p) = false := by simp; omega
      rw [e2]; simp
/-- What a layout's bit j becomes. -/
def valJ (f : Nat) : List MPiece → Nat → Bool | [], _ => false | x :: L, j => if hasL L j = true then valJ (f / 2 ^ x.l) L j else f.testBit (j - x.p)
theorem putN_bit : ∀ (L : List MPiece) (w f j : Nat), (putN w f L).testBit j = if hasL L j = true then valJ f L j else w.testBit j
  | [], w, f, j => by simp [putN, hasL]
  | x :: L, w, f, j => by
    rw [putN, putN_bit L, pstep_bit]
    have e : hasL (x :: L) j = (x.has j || hasL L j) := rfl
    simp only [valJ]
    rw [e]
    cases x.has j <;> cases hasL L j <;> simp
theorem getN_lt (w : Nat) : ∀ L : List MPiece, getN w L < 2 ^ widthL L
  | [] => by simp [getN, widthL]
  | x :: L => by
    have ih := getN_lt w L
    have h1 := Nat.mod_lt (w / 2 ^ x.p) (Nat.two_pow_pos x.l)
    simp only [getN, widthL]
    rw [Nat.pow_add]
    calc w / 2 ^ x.p % 2 ^ x.l + 2 ^ x.l * getN w L < 2 ^ x.l + 2 ^ x.l * getN w L := by omega
      _ = 2 ^ x.l * (getN w L + 1) := by rw [Nat.mul_add, Nat.mul_one, Nat.add_comm]
      _ ≤ 2 ^ x.l * 2 ^ widthL L := Nat.mul_le_mul_left _ ih
/-- The field depends on the layout's bits only. -/
theorem getN_same {w w' : Nat} : ∀ L : List MPiece, (∀ j, hasL L j = true → w.testBit j = w'.testBit j) → getN w L = getN w' L
  | [], _ => rfl
  | x :: L, h => by
    have ih := getN_same L (fun j hj => h j (by simp only [hasL, List.any_cons] at hj ⊢; rw [hj]; simp))
    simp only [getN]
    rw [ih]
    congr 1
    apply Nat.eq_of_testBit_eq
    intro i
    rw [Nat.testBit_mod_two_pow, Nat.testBit_mod_two_pow, Nat.testBit_div_two_pow, Nat.testBit_div_two_pow]
    by_cases hi : i < x.l
    · rw [h (i + x.p) (by simp only [hasL, List.any_cons, Bool.or_eq_true]; left; exact has_iff.2 (by omega))]
    · simp [hi]
theorem pstep_get (w f : Nat) (x : MPiece) : pstep w f x / 2 ^ x.p % 2 ^ x.l = f % 2 ^ x.l := by
  apply Nat.eq_of_testBit_eq
  intro i
  rw [Nat.testBit_mod_two_pow, Nat.testBit_mod_two_pow, Nat.testBit_div_two_pow, pstep_bit]
  by_cases hi : i < x.l
  · have e : x.has (i + x.p) = true := has_iff.2 (by omega)
    rw [if_pos e]; simp
  · simp [hi]
theorem hasL_disj {size : Int} {x : MPiece} {L : List MPiece} {m : Nat} (h : GoodM size m (x :: L)) (j : Nat) (hx : x.has j = true) : hasL L j = false := by
  cases hj : hasL L j
  · rfl
  · have := h.2.2.free j hj
    rw [Nat.testBit_or, pcM_bit, hx] at this
    simp at this
/-- What was put is got. -/
theorem get_put {size : Int} : ∀ {L : List MPiece} {m : Nat} (w f : Nat), GoodM size m L → f < 2 ^ widthL L → getN (putN w f L) L = f
  | [], m, w, f, _, hf => by simp [widthL] at hf; simp [getN, hf]
  | x :: L, m, w, f, h, hf => by
    simp only [widthL, Nat.pow_add] at hf
    have ih := get_put (pstep w f x) (f / 2 ^ x.l) h.2.2 (Nat.div_lt_of_lt_mul hf)
    simp only [getN, putN]
    rw [ih]
    have e : putN (pstep w f x) (f / 2 ^ x.l) L / 2 ^ x.p % 2 ^ x.l = pstep w f x / 2 ^ x.p % 2 ^ x.l := by
      apply Nat.eq_of_testBit_eq
      intro i
      rw [Nat.testBit_mod_two_pow, Nat.testBit_mod_two_pow, Nat.testBit_div_two_pow, Nat.testBit_div_two_pow]
      by_cases hi : i < x.l
      · rw [putN_bit, if_neg (by rw [hasL_disj h (i + x.p) (has_iff.2 (by omega))]; decide)]
      · simp [hi]
    rw [e, pstep_get]
    exact Nat.mod_add_div f _
/-- Putting the field that is there changes nothing. -/
theorem put_get : ∀ (L : List MPiece) (w : Nat), putN w (getN w L) L = w
  | [], w => rfl
  | x :: L, w => by
    simp only [getN, putN]
    have hl := Nat.mod_lt (w / 2 ^ x.p) (Nat.two_pow_pos x.l)
    have e1 : (w / 2 ^ x.p % 2 ^ x.l + 2 ^ x.l * getN w L) / 2 ^ x.l = getN w L := by
      rw [Nat.add_mul_div_left _ _ (Nat.two_pow_pos x.l), Nat.div_eq_of_lt hl, Nat.zero_add]
    have e2 : pstep w (w / 2 ^ x.p % 2 ^ x.l + 2 ^ x.l * getN w L) x = w := by
      apply Nat.eq_of_testBit_eq
      intro j
      rw [pstep_bit]
      by_cases h : x.has j = true
      · rw [if_pos h]
        have h := has_iff.1 h
        have e3 : (w / 2 ^ x.p % 2 ^ x.l + 2 ^ x.l * getN w L).testBit (j - x.p) = (w / 2 ^ x.p % 2 ^ x.l).testBit (j - x.p) := by
          have a1 := Nat.testBit_mod_two_pow (w / 2 ^ x.p % 2 ^ x.l + 2 ^ x.l * getN w L) x.l (j - x.p)
          rw [Nat.add_mul_mod_self_left, Nat.mod_mod] at a1
          have hd : decide (j - x.p < x.l) = true := by simp; omega
          rw [hd, Bool.true_and] at a1
          exact a1.symm
        rw [e3, Nat.testBit_mod_two_pow, Nat.testBit_div_two_pow]
        have hd : decide (j - x.p < x.l) = true := by simp; omega
        rw [hd, Bool.true_and, Nat.sub_add_cancel h.1]
      · rw [if_neg h]
    rw [e1, e2]
    exact put_get L w
theorem putN_lt {size : Int} {L : List MPiece} {m w f : Nat} (h : GoodM size m L) (hw : w < 2 ^ size.toNat) : putN w f L < 2 ^ size.toNat := by
  apply Nat.lt_pow_two_of_testBit
  intro j hj
  rw [putN_bit]
  have hn : hasL L j = false := by
    cases hh : hasL L j
    · rfl
    · unfold hasL at hh
      rw [List.any_eq_true] at hh
      obtain ⟨x, hx, hb⟩ := hh
      obtain ⟨c1, c2, c3, c4⟩ := pcOk_iff.1 (h.mem x hx).1
      have hb := has_iff.1 hb
      unfold MPiece.p MPiece.l at hb
      omega
  rw [if_neg (by rw [hn]; decide)]
  exact Nat.testBit_lt_two_pow (Nat.lt_of_lt_of_le hw (Nat.pow_le_pow_right (by omega) hj))
end Go.Proofs.Ytjbapjgagiaefaa
