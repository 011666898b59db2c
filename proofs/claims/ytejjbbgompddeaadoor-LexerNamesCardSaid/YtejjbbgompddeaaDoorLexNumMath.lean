/- Numbers as plain mathematics: what the library reads and writes against the document's forms. -/
import Derived.Test.YtejjbbgompddeaaDoorLexMath
import Derived.Lib.ParseIntB
import Derived.Lib.ItoaNum
namespace Go.Proofs.YtejjbbgompddeaaDoor
open Go.Lib
set_option linter.unusedVariables false
set_option linter.unusedSimpArgs false

def Digs (d : List UInt8) : Prop := ∀ c ∈ d, 48 ≤ c.toNat ∧ c.toNat ≤ 57
theorem decV_snoc (d : List UInt8) (c : UInt8) : decV (d ++ [c]) = 10 * decV d + (c.toNat - 48) := by simp [decV]
theorem snoc_cases (d : List UInt8) : d = [] ∨ ∃ e c, d = e ++ [c] := by
  rcases List.eq_nil_or_concat d with h | ⟨e, c, h⟩
  · exact .inl h
  · exact .inr ⟨e, c, by simpa using h⟩
theorem headD_snoc (e : List UInt8) (c : UInt8) (h : 1 ≤ e.length) : (e ++ [c]).headD 0 = e.headD 0 := by
  cases e with
  | nil => simp at h
  | cons x t => rfl
theorem ofNat_digit (c : UInt8) (h : 48 ≤ c.toNat) : UInt8.ofNat (48 + (c.toNat - 48)) = c := by
  rw [show 48 + (c.toNat - 48) = c.toNat by omega]; simp

theorem dec_back : ∀ (n : Nat) (d : List UInt8), d.length = n → 1 ≤ n → (n ≤ 1 ∨ d.headD 0 ≠ 48) → Digs d → decDigits (decV d) = d ∧ (2 ≤ n → 10 ≤ decV d) ∧ (d.headD 0 ≠ 48 → 1 ≤ decV d) := by
  intro n
  induction n with
  | zero => intro d _ h; omega
  | succ n ih =>
    intro d hl _ hc hd
    rcases snoc_cases d with rfl | ⟨e, c, rfl⟩
    · simp at hl
    · have hel : e.length = n := by simpa using hl
      have hcd := hd c (by simp)
      rw [decV_snoc]
      by_cases h0 : n = 0
      · obtain rfl : e = [] := List.eq_nil_of_length_eq_zero (by omega)
        have hv : 10 * decV [] + (c.toNat - 48) = c.toNat - 48 := by simp [decV]
        rw [hv]
        refine ⟨?_, by omega, ?_⟩
        · rw [decDigits_one (by omega), ofNat_digit c hcd.1]; rfl
        · intro h
          have : c.toNat ≠ 48 := fun e' => h (by show c = 48; exact UInt8.toNat_inj.1 e')
          omega
      · have hh : e.headD 0 ≠ 48 := by
          rcases hc with hc | hc
          · omega
          · rwa [headD_snoc e c (by omega)] at hc
        obtain ⟨h1, h2, h3⟩ := ih e hel (by omega) (.inr hh) (fun x hx => hd x (by simp [hx]))
        have hv := h3 hh
        refine ⟨?_, fun _ => by omega, fun _ => by omega⟩
        rw [decDigits, dif_neg (by omega), show (10 * decV e + (c.toNat - 48)) / 10 = decV e by omega, show (10 * decV e + (c.toNat - 48)) % 10 = c.toNat - 48 by omega, h1, ofNat_digit c hcd.1]

theorem toNat_dig (k : Nat) (h : k < 10) : (UInt8.ofNat (48 + k)).toNat = 48 + k := by
  simp; omega
theorem decDigits_canon : ∀ v : Nat, 1 ≤ (decDigits v).length ∧ Digs (decDigits v) ∧ (1 ≤ v → (decDigits v).headD 0 ≠ 48) ∧ decV (decDigits v) = v := by
  intro v
  induction v using Nat.strongRecOn with
  | ind v ih =>
    by_cases h : v < 10
    · rw [decDigits_one h]
      refine ⟨by simp, ?_, ?_, ?_⟩
      · intro c hc
        simp only [List.mem_singleton] at hc
        rw [hc, toNat_dig v h]; omega
      · intro h1 e
        have := congrArg UInt8.toNat e
        simp only [List.headD_cons] at this
        rw [toNat_dig v h] at this
        have h48 : (48 : UInt8).toNat = 48 := rfl
        omega
      · show 10 * 0 + ((UInt8.ofNat (48 + v)).toNat - 48) = v
        rw [toNat_dig v h]; omega
    · rw [decDigits, dif_neg h]
      obtain ⟨h1, h2, h3, h4⟩ := ih (v / 10) (by omega)
      refine ⟨by simp, ?_, ?_, ?_⟩
      · intro c hc
        rcases List.mem_append.1 hc with hc | hc
        · exact h2 c hc
        · simp only [List.mem_singleton] at hc
          rw [hc, toNat_dig _ (Nat.mod_lt _ (by decide))]
          have := Nat.mod_lt v (show 0 < 10 by decide)
          omega
      · intro _
        rw [headD_snoc _ _ h1]
        exact h3 (by omega)
      · rw [decV_snoc, h4, toNat_dig _ (Nat.mod_lt _ (by decide))]
        omega
theorem decDigits_len : ∀ (k v : Nat), v < 10 ^ (k + 1) → (decDigits v).length ≤ k + 1
  | 0, v, h => by rw [decDigits_one (by simpa using h)]; simp
  | k + 1, v, h => by
    by_cases h10 : v < 10
    · rw [decDigits_one h10]; simp
    · rw [decDigits, dif_neg h10]
      have := decDigits_len k (v / 10) (by rw [Nat.div_lt_iff_lt_mul (by decide)]; rw [Nat.pow_succ] at h; exact h)
      simp; omega
theorem decV_lt : ∀ (n : Nat) (d : List UInt8), d.length = n → Digs d → decV d < 10 ^ n := by
  intro n
  induction n with
  | zero => intro d h _; obtain rfl := List.eq_nil_of_length_eq_zero h; decide
  | succ n ih =>
    intro d hl hd
    rcases snoc_cases d with rfl | ⟨e, c, rfl⟩
    · simp at hl
    · have := ih e (by simpa using hl) (fun x hx => hd x (by simp [hx]))
      have hc := hd c (by simp)
      rw [decV_snoc, Nat.pow_succ]
      omega
theorem decOk_iff {d : List UInt8} : decOk d = true ↔ 1 ≤ d.length ∧ d.length ≤ 18 ∧ (d.length ≤ 1 ∨ d.headD 0 ≠ 48) ∧ Digs d := by
  unfold decOk Digs digN
  simp only [Bool.and_eq_true, Bool.or_eq_true, decide_eq_true_eq, bne_iff_ne, List.all_eq_true]
  constructor
  · rintro ⟨⟨⟨a, b⟩, c⟩, e⟩; exact ⟨a, b, c, e⟩
  · rintro ⟨a, b, c, e⟩; exact ⟨⟨⟨a, b⟩, c⟩, e⟩
theorem decOk_digits (v : Nat) (h : v < 10 ^ 18) : decOk (decDigits v) = true := by
  obtain ⟨h1, h2, h3, h4⟩ := decDigits_canon v
  refine decOk_iff.2 ⟨h1, decDigits_len 17 v h, ?_, h2⟩
  by_cases hv : 1 ≤ v
  · exact .inr (h3 hv)
  · obtain rfl : v = 0 := by omega
    left; rw [decDigits_one (by decide)]; simp

theorem take2_dig {d : List UInt8} (hd : Digs d) : d.take 2 ≠ [48, 120] := by
  intro h
  have : (120 : UInt8) ∈ d := List.mem_of_mem_take (i := 2) (by rw [h]; simp)
  have := hd _ this
  have h120 : (120 : UInt8).toNat = 120 := rfl
  omega
theorem head_dig {d : List UInt8} (h1 : 1 ≤ d.length) (hd : Digs d) : d.headD 0 ≠ 45 := by
  cases d with
  | nil => simp at h1
  | cons x t =>
    intro h
    have := hd x (by simp)
    have hx : x = 45 := h
    rw [hx] at this
    have h45 : (45 : UInt8).toNat = 45 := rfl
    omega
theorem numV_itoa (v : Int) (h0 : -999999999999999999 ≤ v) (h1 : v ≤ 999999999999999999) : numV (itoa v) = some v := by
  have p18 : (10 : Nat) ^ 18 = 1000000000000000000 := by decide
  by_cases hn : v < 0
  · have hc := decDigits_canon v.natAbs
    have hok := decOk_digits v.natAbs (by omega)
    unfold itoa numV
    rw [if_pos hn, if_neg (by intro h; simp at h), if_pos (show (45 :: decDigits v.natAbs).headD 0 = 45 from rfl)]
    simp only [List.drop_succ_cons, List.drop_zero]
    rw [if_pos (by rw [hok]; simpa using hc.2.2.1 (by omega)), hc.2.2.2]
    congr 1; omega
  · have hc := decDigits_canon v.toNat
    have hok := decOk_digits v.toNat (by omega)
    unfold itoa numV
    rw [if_neg hn, if_neg (take2_dig hc.2.1), if_neg (head_dig hc.1 hc.2.1), if_pos hok, hc.2.2.2]
    congr 1; omega

/-- What a number of base ten says. -/
theorem numV_dec {s : List UInt8} {n : Int} (h2 : s.take 2 ≠ [48, 120]) (h : numV s = some n) : -999999999999999999 ≤ n ∧ n ≤ 999999999999999999 ∧ itoa n = s ∧ parseIntB 64 s = .ok n := by
  have p18 : (10 : Nat) ^ 18 = 1000000000000000000 := by decide
  have pm : ∀ (l : List UInt8) (acc : Nat), Digs l → (∀ k, k ≤ l.length → True) → acc * 10 ^ l.length + 10 ^ l.length ≤ 10 ^ 18 → parseUintM (2 ^ 64 - 1) acc l = .ok (l.foldl (fun n c => 10 * n + (c.toNat - 48)) acc) := by
    intro l
    induction l with
    | nil => intro acc _ _ _; rfl
    | cons c t ih =>
      intro acc hd _ hb
      have hc := hd c (by simp)
      have hp : 1 ≤ 10 ^ t.length := Nat.one_le_pow _ _ (by decide)
      have e1 : acc * 10 ^ (t.length + 1) = (acc * 10) * 10 ^ t.length := by rw [Nat.pow_succ, Nat.mul_comm (10 ^ t.length) 10, Nat.mul_assoc]
      have e2 : (10 : Nat) ^ (t.length + 1) = 10 * 10 ^ t.length := by rw [Nat.pow_succ]; omega
      simp only [List.length_cons] at hb
      rw [e1, e2] at hb
      have e3 : (acc * 10 + (c.toNat - 48)) * 10 ^ t.length + 10 ^ t.length ≤ 10 ^ 18 := by
        have : (acc * 10 + (c.toNat - 48)) * 10 ^ t.length ≤ (acc * 10 + 9) * 10 ^ t.length := Nat.mul_le_mul_right _ (by omega)
        have : (acc * 10 + 9) * 10 ^ t.length = acc * 10 * 10 ^ t.length + 9 * 10 ^ t.length := by rw [Nat.add_mul]
        omega
      have e4 : acc * 10 ≤ acc * 10 * 10 ^ t.length := Nat.le_mul_of_pos_right _ hp
      have := ih (acc * 10 + (c.toNat - 48)) (fun x hx => hd x (by simp [hx])) (fun _ _ => trivial) e3
      rw [parseUintM, if_pos hc]
      simp only [List.foldl_cons]
      rw [show 10 * acc + (c.toNat - 48) = acc * 10 + (c.toNat - 48) by omega, ← this]
      repeat' split
      all_goals first | rfl | (exfalso; omega)
  have key : ∀ d : List UInt8, decOk d = true → decV d < 10 ^ 18 ∧ decDigits (decV d) = d ∧ parseUintB 64 d = .ok (decV d) ∧ Digs d ∧ d ≠ [] ∧ (d.headD 0 ≠ 48 → 1 ≤ decV d) := by
    intro d hok
    obtain ⟨h1, h2, h3, h4⟩ := decOk_iff.1 hok
    have hb := dec_back d.length d rfl h1 h3 h4
    have hne : d ≠ [] := by intro e; rw [e] at h1; simp at h1
    refine ⟨Nat.lt_of_lt_of_le (decV_lt d.length d rfl h4) (Nat.pow_le_pow_right (by decide) h2), hb.1, ?_, h4, hne, hb.2.2⟩
    unfold parseUintB
    rw [if_neg hne, pm d 0 h4 (fun _ _ => trivial) (by simpa using Nat.pow_le_pow_right (show 0 < 10 by decide) h2)]
    rfl
  unfold numV at h
  rw [if_neg h2] at h
  by_cases h45 : s.headD 0 = 45
  · rw [if_pos h45] at h
    cases s with
    | nil => simp at h45
    | cons c d =>
      have hc : c = 45 := h45
      subst hc
      simp only [List.drop_succ_cons, List.drop_zero] at h
      by_cases hq : (decOk d && d.headD 0 != 48) = true
      · rw [if_pos hq] at h
        simp only [Bool.and_eq_true, bne_iff_ne] at hq
        obtain ⟨k1, k2, k3, k4, k5, k6⟩ := key d hq.1
        have k7 := k6 hq.2
        cases h
        refine ⟨by omega, by omega, ?_, ?_⟩
        · unfold itoa
          rw [if_pos (by omega), show (-((decV d : Nat) : Int)).natAbs = decV d by omega, k2]
        · unfold parseIntB
          simp only
          rw [if_pos (by right; rfl), k3]
          simp only
          rw [if_neg (by intro h; exact h.1 rfl), if_neg (by intro h; have := h.2; omega), if_pos (show UInt8.toNat 45 = 45 from rfl)]
      · rw [if_neg hq] at h; cases h
  · rw [if_neg h45] at h
    by_cases hq : decOk s = true
    · rw [if_pos hq] at h
      obtain ⟨k1, k2, k3, k4, k5, k6⟩ := key s hq
      cases h
      refine ⟨by omega, by omega, ?_, ?_⟩
      · unfold itoa
        rw [if_neg (by omega), show ((decV s : Nat) : Int).toNat = decV s by omega, k2]
      · cases s with
        | nil => exact absurd rfl k5
        | cons c d =>
          have hc := k4 c (by simp)
          unfold parseIntB
          simp only
          rw [if_neg (by omega), k3]
          simp only
          rw [if_neg (by omega), if_neg (by omega), if_neg (by omega)]
    · rw [if_neg hq] at h; cases h

/-- The library's answers at base ten decide whether a word is a number. -/
theorem dec_decides {s : List UInt8} {v : Int} (h2 : s.take 2 ≠ [48, 120]) (h0 : -999999999999999999 ≤ v) (h1 : v ≤ 999999999999999999) (hi : itoa v = s) : numV s = some v := by
  rw [← hi]; exact numV_itoa v h0 h1

/-! ## Base sixteen -/
def hx (d : Nat) : UInt8 := UInt8.ofNat (if d < 10 then 48 + d else 87 + d)
def hexDigits (u : Nat) : List UInt8 := if h : u < 16 then [hx u] else hexDigits (u / 16) ++ [hx (u % 16)]
termination_by u
decreasing_by omega
theorem hexDigits_one {u : Nat} (h : u < 16) : hexDigits u = [hx u] := by rw [hexDigits, dif_pos h]
theorem hx_nat (d : Nat) (h : d < 16) : (hx d).toNat = if d < 10 then 48 + d else 87 + d := by
  unfold hx; split <;> simp <;> omega
theorem hx_hex (d : Nat) (h : d < 16) : hexN (hx d).toNat = true ∧ hexD1 (hx d).toNat = d := by
  rw [hx_nat d h]
  unfold hexN hexD1 digN
  split
  · simp; omega
  · simp; omega
theorem hx_back (c : UInt8) (h : hexN c.toNat = true) : hx (hexD1 c.toNat) = c ∧ hexD1 c.toNat < 16 := by
  unfold hexN digN at h
  simp only [Bool.or_eq_true, Bool.and_eq_true, decide_eq_true_eq] at h
  have : hexD1 c.toNat < 16 ∧ (if hexD1 c.toNat < 10 then 48 + hexD1 c.toNat else 87 + hexD1 c.toNat) = c.toNat := by
    unfold hexD1 digN
    simp only [Bool.and_eq_true, decide_eq_true_eq]
    split <;> split <;> omega
  refine ⟨UInt8.toNat_inj.1 ?_, this.1⟩
  rw [hx_nat _ this.1, this.2]
def Hexs (d : List UInt8) : Prop := ∀ c ∈ d, hexN c.toNat = true
theorem hexV_snoc (d : List UInt8) (c : UInt8) : hexV (d ++ [c]) = 16 * hexV d + hexD1 c.toNat := by simp [hexV]
theorem hexD1_zero {c : UInt8} (h : hexN c.toNat = true) (h0 : hexD1 c.toNat = 0) : c = 48 := by
  have := hx_back c h
  rw [h0] at this
  rw [← this.1]; rfl
theorem hex_back : ∀ (n : Nat) (d : List UInt8), d.length = n → 1 ≤ n → (n ≤ 1 ∨ d.headD 0 ≠ 48) → Hexs d → hexDigits (hexV d) = d ∧ (d.headD 0 ≠ 48 → 1 ≤ hexV d) := by
  intro n
  induction n with
  | zero => intro d _ h; omega
  | succ n ih =>
    intro d hl _ hc hd
    rcases snoc_cases d with rfl | ⟨e, c, rfl⟩
    · simp at hl
    · have hel : e.length = n := by simpa using hl
      have hcd := hx_back c (hd c (by simp))
      rw [hexV_snoc]
      by_cases h0 : n = 0
      · obtain rfl : e = [] := List.eq_nil_of_length_eq_zero (by omega)
        have hv : 16 * hexV [] + hexD1 c.toNat = hexD1 c.toNat := by simp [hexV]
        rw [hv]
        refine ⟨?_, ?_⟩
        · rw [hexDigits_one hcd.2, hcd.1]; rfl
        · intro h
          rcases Nat.eq_zero_or_pos (hexD1 c.toNat) with h' | h'
          · exact absurd (hexD1_zero (hd c (by simp)) h') h
          · exact h'
      · have hh : e.headD 0 ≠ 48 := by
          rcases hc with hc | hc
          · omega
          · rwa [headD_snoc e c (by omega)] at hc
        obtain ⟨h1, h3⟩ := ih e hel (by omega) (.inr hh) (fun x hx => hd x (by simp [hx]))
        have hv := h3 hh
        refine ⟨?_, fun _ => by omega⟩
        rw [hexDigits, dif_neg (by omega), show (16 * hexV e + hexD1 c.toNat) / 16 = hexV e by omega, show (16 * hexV e + hexD1 c.toNat) % 16 = hexD1 c.toNat by omega, h1, hcd.1]
theorem hexDigits_canon : ∀ v : Nat, 1 ≤ (hexDigits v).length ∧ Hexs (hexDigits v) ∧ (1 ≤ v → (hexDigits v).headD 0 ≠ 48) ∧ hexV (hexDigits v) = v := by
  intro v
  induction v using Nat.strongRecOn with
  | ind v ih =>
    by_cases h : v < 16
    · rw [hexDigits_one h]
      have hh := hx_hex v h
      refine ⟨by simp, ?_, ?_, ?_⟩
      · intro c hc
        simp only [List.mem_singleton] at hc
        rw [hc]; exact hh.1
      · intro h1 e
        have e' : hx v = 48 := e
        rw [e'] at hh
        have : hexD1 (48 : UInt8).toNat = 0 := by decide
        omega
      · show 16 * 0 + hexD1 (hx v).toNat = v
        rw [hh.2]; omega
    · rw [hexDigits, dif_neg h]
      obtain ⟨h1, h2, h3, h4⟩ := ih (v / 16) (by omega)
      have hh := hx_hex (v % 16) (Nat.mod_lt _ (by decide))
      refine ⟨by simp, ?_, ?_, ?_⟩
      · intro c hc
        rcases List.mem_append.1 hc with hc | hc
        · exact h2 c hc
        · simp only [List.mem_singleton] at hc
          rw [hc]; exact hh.1
      · intro _
        rw [headD_snoc _ _ h1]
        exact h3 (by omega)
      · rw [hexV_snoc, h4, hh.2]
        omega
theorem hexDigits_len : ∀ (k v : Nat), v < 16 ^ (k + 1) → (hexDigits v).length ≤ k + 1
  | 0, v, h => by rw [hexDigits_one (by simpa using h)]; simp
  | k + 1, v, h => by
    by_cases h10 : v < 16
    · rw [hexDigits_one h10]; simp
    · rw [hexDigits, dif_neg h10]
      have := hexDigits_len k (v / 16) (by rw [Nat.div_lt_iff_lt_mul (by decide)]; rw [Nat.pow_succ] at h; exact h)
      simp; omega
theorem hexV_lt : ∀ (n : Nat) (d : List UInt8), d.length = n → Hexs d → hexV d < 16 ^ n := by
  intro n
  induction n with
  | zero => intro d h _; obtain rfl := List.eq_nil_of_length_eq_zero h; decide
  | succ n ih =>
    intro d hl hd
    rcases snoc_cases d with rfl | ⟨e, c, rfl⟩
    · simp at hl
    · have := ih e (by simpa using hl) (fun x hx => hd x (by simp [hx]))
      have hc := hx_back c (hd c (by simp))
      rw [hexV_snoc, Nat.pow_succ]
      omega
theorem hexOk_iff {d : List UInt8} : hexOk d = true ↔ 1 ≤ d.length ∧ d.length ≤ 15 ∧ (d.length ≤ 1 ∨ d.headD 0 ≠ 48) ∧ Hexs d := by
  unfold hexOk Hexs
  simp only [Bool.and_eq_true, Bool.or_eq_true, decide_eq_true_eq, bne_iff_ne, List.all_eq_true]
  constructor
  · rintro ⟨⟨⟨a, b⟩, c⟩, e⟩; exact ⟨a, b, c, e⟩
  · rintro ⟨a, b, c, e⟩; exact ⟨⟨⟨a, b⟩, c⟩, e⟩
theorem hexOk_digits (v : Nat) (h : v < 1152921504606846976) : hexOk (hexDigits v) = true := by
  obtain ⟨h1, h2, h3, h4⟩ := hexDigits_canon v
  have p15 : (16 : Nat) ^ 15 = 1152921504606846976 := by decide
  refine hexOk_iff.2 ⟨h1, hexDigits_len 14 v (by rw [p15]; exact h), ?_, h2⟩
  by_cases hv : 1 ≤ v
  · exact .inr (h3 hv)
  · obtain rfl : v = 0 := by omega
    left; rw [hexDigits_one (by decide)]; simp
/-- What a number of base sixteen says. -/
theorem hexOk_back {d : List UInt8} (h : hexOk d = true) : hexDigits (hexV d) = d ∧ hexV d < 1152921504606846976 := by
  obtain ⟨h1, h2, h3, h4⟩ := hexOk_iff.1 h
  have p15 : (16 : Nat) ^ 15 = 1152921504606846976 := by decide
  exact ⟨(hex_back d.length d rfl h1 h3 h4).1, by rw [← p15]; exact Nat.lt_of_lt_of_le (hexV_lt d.length d rfl h4) (Nat.pow_le_pow_right (by decide) h2)⟩
end Go.Proofs.YtejjbbgompddeaaDoor
