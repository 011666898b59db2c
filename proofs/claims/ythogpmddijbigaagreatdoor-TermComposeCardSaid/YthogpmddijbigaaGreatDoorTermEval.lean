/- The value of a term, in plain words: that it is of the term's width, and that the operations of its parts have no errors. -/
import Derived.Test.YthogpmddijbigaaGreatDoorTermKnown
import Derived.Test.YthogpmddijbigaaGreatDoorBitsExtend
import Derived.Test.YthogpmddijbigaaGreatDoorTermLoads
namespace Go.Proofs.YthogpmddijbigaaGreatDoor
open Go.RowKit
set_option linter.unusedVariables false
set_option linter.unusedSimpArgs false

/-- The value of a node: V of its name, L of loads, v0 .. v2 the values of its parts, x and y the first widths. -/
def valK (L : Nat → Nat → Nat → Nat) (k : Nat) (w : Int) (b vn : Nat) (lo : Int) (v0 v1 v2 : Nat) (x y : Int) : Nat :=
  if k = 1 then b else if k = 2 then vn else if k = 3 ∨ k = 4 then (opR 3 4 k x v0 0).1 else if k = 19 then (if v0 = 1 then v1 else v2) else if k = 20 then (catR x v0 y v1).1
  else if k = 21 then (exR x v0 lo w).1 else if k = 22 ∨ k = 23 then (extR x v0 w (k == 23)).1 else if k = 24 then L x.toNat v0 (w.toNat / 8) else (opR 5 18 k x v0 v1).1
/-- The error of the operation of a node. -/
def errK (k : Nat) (w : Int) (lo : Int) (v0 v1 : Nat) (x y : Int) : Int :=
  if k = 1 then 0 else if k = 2 then 0 else if k = 3 ∨ k = 4 then (opR 3 4 k x v0 0).2 else if k = 19 then 0 else if k = 20 then (catR x v0 y v1).2
  else if k = 21 then (exR x v0 lo w).2 else if k = 22 ∨ k = 23 then (extR x v0 w (k == 23)).2 else if k = 24 then 0 else (opR 5 18 k x v0 v1).2
def at0 (l : List Nat) (i : Nat) : Nat := l[i]?.getD 0
mutual
def Tm.val (V : ByteArray → Nat) (L : Nat → Nat → Nat → Nat) : Tm → Nat
  | .mk k w b s lo l => valK L k w b (V s) lo (at0 (Tm.vals V L l) 0) (at0 (Tm.vals V L l) 1) (at0 (Tm.vals V L l) 2) (wdAt l 0) (wdAt l 1)
def Tm.vals (V : ByteArray → Nat) (L : Nat → Nat → Nat → Nat) : List Tm → List Nat
  | [] => []
  | t :: l => t.val V L :: Tm.vals V L l
end
theorem Tm.vals_eq (V : ByteArray → Nat) (L : Nat → Nat → Nat → Nat) (l : List Tm) : Tm.vals V L l = l.map (Tm.val V L) := by
  induction l with
  | nil => simp [Tm.vals]
  | cons t l ih => simp [Tm.vals, ih]
/-- The value of the i-th part. -/
def vAt (V : ByteArray → Nat) (L : Nat → Nat → Nat → Nat) (l : List Tm) (i : Nat) : Nat := at0 (l.map (Tm.val V L)) i
theorem vAt_some {V : ByteArray → Nat} {L : Nat → Nat → Nat → Nat} {l : List Tm} {i : Nat} {u : Tm} (h : l[i]? = some u) : vAt V L l i = u.val V L := by simp [vAt, at0, h]
theorem vAt_none {V : ByteArray → Nat} {L : Nat → Nat → Nat → Nat} {l : List Tm} {i : Nat} (h : l.length ≤ i) : vAt V L l i = 0 := by simp [vAt, at0, List.getElem?_eq_none h]
theorem wdAt_some {l : List Tm} {i : Nat} {u : Tm} (h : l[i]? = some u) : wdAt l i = u.width := by unfold wdAt; rw [h]
theorem wdAt_none {l : List Tm} {i : Nat} (h : l.length ≤ i) : wdAt l i = 0 := by unfold wdAt; rw [List.getElem?_eq_none h]
theorem Tm.val_eq (V : ByteArray → Nat) (L : Nat → Nat → Nat → Nat) (t : Tm) : t.val V L = valK L t.kind t.width t.bits (V t.name) t.low (vAt V L t.sub 0) (vAt V L t.sub 1) (vAt V L t.sub 2) (wdAt t.sub 0) (wdAt t.sub 1) := by
  cases t
  simp only [Tm.val, Tm.vals_eq, Tm.kind, Tm.width, Tm.bits, Tm.name, Tm.low, Tm.sub, vAt]

theorem okW_iff (w : Int) (x : Nat) : okW w x = true ↔ (1 ≤ w ∧ w ≤ 64) ∧ x < 2 ^ w.toNat := by
  unfold okW
  by_cases h : 1 ≤ w ∧ w ≤ 64
  · rw [if_pos h, okB_iff]; exact ⟨fun q => ⟨h, q⟩, fun q => q.2⟩
  · rw [if_neg h]; exact ⟨fun q => (by cases q), fun q => absurd q.1 h⟩
theorem opR_fine (lo hi k : Nat) (n : Int) (a b : Nat) (hn : 1 ≤ n ∧ n ≤ 64) (hk : lo ≤ k ∧ k ≤ hi) (ha : a < 2 ^ n.toNat) (hb : b < 2 ^ n.toNat) : opR lo hi k n a b = (opv k n.toNat a b, 0) := by
  unfold opR
  rw [if_neg (by omega), if_neg (by omega), if_neg (chk2_zero _ _ _ ha hb)]
theorem chk1_zero (n a : Nat) (ha : a < 2 ^ n) : ¬ chk1 n a = 8 := by unfold chk1; rw [if_pos ((okB_iff _ _).2 ha)]; decide
theorem catR_fine (h l : Int) (a b : Nat) (h0 : 1 ≤ h) (l0 : 1 ≤ l) (hl : h + l ≤ 64) (ha : a < 2 ^ h.toNat) (hb : b < 2 ^ l.toNat) : catR h a l b = (a * 2 ^ l.toNat + b, 0) := by
  unfold catR
  rw [if_neg (by omega), if_neg (by omega), if_neg (chk1_zero _ _ ha), if_neg (by rw [(okB_iff _ _).2 hb]; simp)]
theorem exR_fine (n : Int) (x : Nat) (low many : Int) (hn : 1 ≤ n ∧ n ≤ 64) (hx : x < 2 ^ n.toNat) (hl : 0 ≤ low) (hm : 1 ≤ many) (hh : many ≤ n - low) : exR n x low many = (x / 2 ^ low.toNat % 2 ^ many.toNat, 0) := by
  unfold exR
  rw [if_neg (by omega), if_neg (chk1_zero _ _ hx), if_neg (by omega)]
theorem extR_fine (n : Int) (x : Nat) (to : Int) (sign : Bool) (hn : 1 ≤ n) (hx : x < 2 ^ n.toNat) (ht : n ≤ to) (h6 : to ≤ 64) : (extR n x to sign).2 = 0 ∧ (extR n x to sign).1 < 2 ^ to.toNat := by
  have hp : (0 : Int) < 2 ^ to.toNat := by have := pow_pos' to.toNat; have e : ((2 : Int) ^ to.toNat) = ((2 ^ to.toNat : Nat) : Int) := by simp
                                           rw [e]; omega
  unfold extR
  rw [if_neg (by omega), if_neg (by omega), if_neg (chk1_zero _ _ hx)]
  cases sign
  · refine ⟨rfl, Nat.lt_of_lt_of_le hx (Nat.pow_le_pow_right (by decide) (by omega))⟩
  · refine ⟨rfl, ?_⟩
    have h1 := Int.emod_lt_of_pos (sg n.toNat x) hp
    have h2 := Int.emod_nonneg (sg n.toNat x) (Int.ne_of_gt hp)
    have e : ((2 : Int) ^ to.toNat) = ((2 ^ to.toNat : Nat) : Int) := by simp
    simp only [if_true]
    rw [e] at h1 h2 ⊢
    omega
theorem opv_lt (k n a b : Nat) : opv k n a b < 2 ^ n := Nat.mod_lt _ (pow_pos' n)
theorem opv_one (k n a b : Nat) (hk : k = 16 ∨ k = 17 ∨ k = 18) : opv k n a b < 2 ^ 1 := by
  have h : raw k n a b ≤ 1 := by
    rcases hk with rfl | rfl | rfl
    · show (if a = b then 1 else 0) ≤ 1; split <;> omega
    · show (if a < b then 1 else 0) ≤ 1; split <;> omega
    · show (if sg n a < sg n b then 1 else 0) ≤ 1; split <;> omega
  have := Nat.mod_le (raw k n a b) (2 ^ n)
  unfold opv
  omega

/-- What formed says of the widths. -/
theorem formedR_parts {t : Tm} (h : formedR t = true) : 1 ≤ t.kind ∧ t.kind ≤ 24 ∧ (1 ≤ t.width ∧ t.width ≤ 64) ∧ t.sub.length = partsK t.kind ∧ tidyR t = true ∧ fitsR t = true := by
  unfold formedR at h
  simp only [Bool.and_eq_true, decide_eq_true_eq, beq_iff_eq] at h
  obtain ⟨a, b, c, d, e, f⟩ := h
  exact ⟨a, b, ((okW_iff _ _).1 c).1, d, e, f⟩

theorem loadW_iff (w : Int) : loadW w = true ↔ w = 8 ∨ w = 16 ∨ w = 32 ∨ w = 64 := by
  unfold loadW
  simp only [Bool.or_eq_true, beq_iff_eq, or_assoc]
/-- One node: its value is of its width, and its operation has no error. -/
theorem node_fine {L : Nat → Nat → Nat → Nat} (hL : ∀ a b k, L a b k < 2 ^ (8 * k)) {t : Tm} (hf : formedR t = true) (v0 v1 v2 vn : Nat)
    (hsub : ∀ i, i < t.sub.length → 1 ≤ wdAt t.sub i ∧ wdAt t.sub i ≤ 64)
    (h0 : 0 < t.sub.length → v0 < 2 ^ (wdAt t.sub 0).toNat) (h1 : 1 < t.sub.length → v1 < 2 ^ (wdAt t.sub 1).toNat) (h2 : 2 < t.sub.length → v2 < 2 ^ (wdAt t.sub 2).toNat)
    (hv : t.kind = 2 → vn < 2 ^ t.width.toNat) :
    valK L t.kind t.width t.bits vn t.low v0 v1 v2 (wdAt t.sub 0) (wdAt t.sub 1) < 2 ^ t.width.toNat ∧ errK t.kind t.width t.low v0 v1 (wdAt t.sub 0) (wdAt t.sub 1) = 0 := by
  obtain ⟨k1, k24, hw, hlen, _, hfit⟩ := formedR_parts hf
  unfold fitsR fitsK at hfit
  unfold valK errK
  generalize t.kind = k at *
  generalize t.width = w at *
  generalize t.low = lo at *
  generalize t.sub.length = len at *
  generalize hx : wdAt t.sub 0 = x at *
  generalize hy : wdAt t.sub 1 = y at *
  generalize hz : wdAt t.sub 2 = z at *
  unfold partsK at hlen
  by_cases e1 : k = 1
  · rw [if_pos e1] at hfit ⊢; rw [if_pos e1]
    exact ⟨((okW_iff _ _).1 hfit).2, rfl⟩
  rw [if_neg e1] at hfit ⊢; rw [if_neg e1]
  by_cases e2 : k = 2
  · rw [if_pos e2]; rw [if_pos e2]
    exact ⟨hv e2, rfl⟩
  rw [if_neg e2] at hfit ⊢; rw [if_neg e2]
  rw [if_neg (by omega)] at hlen
  by_cases e3 : k = 3 ∨ k = 4
  · rw [if_pos e3] at hfit ⊢; rw [if_pos e3]
    rw [if_pos (by omega)] at hlen
    have hxw : x = w := by simpa using hfit
    subst hxw
    rw [opR_fine 3 4 k x v0 0 hw (by omega) (h0 (by omega)) (pow_pos' _)]
    exact ⟨opv_lt _ _ _ _, rfl⟩
  rw [if_neg e3] at hfit ⊢; rw [if_neg e3]
  rw [if_neg (by omega)] at hlen
  have hx0 := hsub 0
  have hx1 := hsub 1
  rw [hx] at hx0
  rw [hy] at hx1
  by_cases e4 : k = 16 ∨ k = 17 ∨ k = 18
  · rw [if_pos e4] at hfit
    rw [if_neg (by omega), if_neg (by omega), if_neg (by omega), if_neg (by omega), if_neg (by omega)]
    rw [if_neg (by omega), if_neg (by omega), if_neg (by omega), if_neg (by omega), if_neg (by omega)]
    rw [if_pos (by omega)] at hlen
    simp only [Bool.and_eq_true, beq_iff_eq] at hfit
    obtain ⟨q1, q2⟩ := hfit
    subst q1; subst q2
    rw [opR_fine 5 18 k x v0 v1 (hx0 (by omega)) (by omega) (h0 (by omega)) (h1 (by omega))]
    exact ⟨opv_one _ _ _ _ e4, rfl⟩
  rw [if_neg e4] at hfit
  by_cases e5 : k = 19
  · rw [if_pos e5] at hfit ⊢; rw [if_pos e5]
    subst e5
    simp only [Bool.and_eq_true, beq_iff_eq] at hfit
    simp at hlen
    obtain ⟨_, q1, q2⟩ := hfit
    subst q1
    subst q2
    refine ⟨?_, rfl⟩
    split
    · exact h1 (by omega)
    · exact h2 (by omega)
  rw [if_neg e5] at hfit ⊢; rw [if_neg e5]
  by_cases e6 : k = 20
  · rw [if_pos e6] at hfit ⊢; rw [if_pos e6]
    subst e6
    simp at hlen
    have a0 := hx0 (by omega)
    have a1 := hx1 (by omega)
    have hs : x + y = w := by
      have := wrap64_small (x + y) (by omega) (by omega)
      rw [this] at hfit
      simpa using hfit
    have b0 := h0 (by omega)
    have b1 := h1 (by omega)
    rw [catR_fine x y v0 v1 a0.1 a1.1 (by omega) b0 b1]
    refine ⟨?_, rfl⟩
    have e : w.toNat = x.toNat + y.toNat := by omega
    rw [e, Nat.pow_add]
    have h3 : v0 * 2 ^ y.toNat + 2 ^ y.toNat ≤ 2 ^ x.toNat * 2 ^ y.toNat := by
      have := Nat.mul_le_mul_right (2 ^ y.toNat) (show v0 + 1 ≤ 2 ^ x.toNat by omega)
      rw [Nat.add_mul, Nat.one_mul] at this
      exact this
    show v0 * 2 ^ y.toNat + v1 < _
    omega
  rw [if_neg e6] at hfit ⊢; rw [if_neg e6]
  by_cases e7 : k = 21
  · rw [if_pos e7] at hfit ⊢; rw [if_pos e7]
    subst e7
    simp at hlen
    have a0 := hx0 (by omega)
    simp only [Bool.and_eq_true, decide_eq_true_eq] at hfit
    have := wrap64_small (x - w) (by omega) (by omega)
    rw [this] at hfit
    rw [exR_fine x v0 lo w a0 (h0 (by omega)) hfit.1 hw.1 (by omega)]
    exact ⟨Nat.mod_lt _ (pow_pos' _), rfl⟩
  rw [if_neg e7] at hfit ⊢; rw [if_neg e7]
  by_cases e8 : k = 22 ∨ k = 23
  · rw [if_pos e8] at hfit ⊢; rw [if_pos e8]
    rw [if_neg (by omega), if_neg (by omega), if_neg (by omega)] at hlen
    have a0 := hx0 (by omega)
    have q : x ≤ w := by simpa using hfit
    have := extR_fine x v0 w (k == 23) a0.1 (h0 (by omega)) q hw.2
    exact ⟨this.2, this.1⟩
  rw [if_neg e8] at hfit ⊢; rw [if_neg e8]
  by_cases e9 : k = 24
  · rw [if_pos e9] at hfit ⊢; rw [if_pos e9]
    refine ⟨?_, rfl⟩
    have hq := hL x.toNat v0 (w.toNat / 8)
    have e : 8 * (w.toNat / 8) = w.toNat := by rcases (loadW_iff w).1 hfit with rfl | rfl | rfl | rfl <;> rfl
    rwa [e] at hq
  rw [if_neg e9] at hfit ⊢; rw [if_neg e9]
  rw [if_pos (by omega)] at hlen
  simp only [Bool.and_eq_true, beq_iff_eq] at hfit
  obtain ⟨q1, q2⟩ := hfit
  subst q1
  rw [opR_fine 5 18 k x v0 v1 (hx0 (by omega)) (by omega) (h0 (by omega)) (by rw [← q2]; exact h1 (by omega))]
  exact ⟨opv_lt _ _ _ _, rfl⟩

/-- The variables' values are of the variables' widths. -/
def VarsFit (V : ByteArray → Nat) (t : Tm) : Prop := ∀ u ∈ t.nodes, u.kind = 2 → V u.name < 2 ^ u.width.toNat
theorem VarsFit.sub {V : ByteArray → Nat} {t u : Tm} (h : VarsFit V t) (hu : u ∈ t.sub) : VarsFit V u := fun v hv => h v (Tm.nodes_sub hu hv)
theorem Tm.Valid.formed {t : Tm} (h : t.Valid) : formedR t = true := h.2.2.1 t t.nodes_self
theorem Tm.Valid.fine {V : ByteArray → Nat} {L : Nat → Nat → Nat → Nat} (hL : ∀ a b k, L a b k < 2 ^ (8 * k)) : ∀ (z : Nat) (t : Tm), t.sz ≤ z → t.Valid → VarsFit V t →
    t.val V L < 2 ^ t.width.toNat ∧ errK t.kind t.width t.low (vAt V L t.sub 0) (vAt V L t.sub 1) (wdAt t.sub 0) (wdAt t.sub 1) = 0 := by
  intro z
  induction z with
  | zero => intro t ht; rw [Tm.sz_eq] at ht; omega
  | succ z ih =>
    intro t ht hv hV
    have part : ∀ (i : Nat), i < t.sub.length → (1 ≤ wdAt t.sub i ∧ wdAt t.sub i ≤ 64) ∧ vAt V L t.sub i < 2 ^ (wdAt t.sub i).toNat := fun i hi => by
      have hu : t.sub[i]? = some t.sub[i] := List.getElem?_eq_getElem hi
      have hm : t.sub[i] ∈ t.sub := List.getElem_mem hi
      rw [wdAt_some hu, vAt_some hu]
      have hs := Tm.sz_mem hm
      have he := Tm.sz_eq t
      exact ⟨(formedR_parts (hv.sub hm).formed).2.2.1, (ih _ (by omega) (hv.sub hm) (hV.sub hm)).1⟩
    have := node_fine hL hv.formed (vAt V L t.sub 0) (vAt V L t.sub 1) (vAt V L t.sub 2) (V t.name) (fun i hi => (part i hi).1) (fun h => (part 0 h).2) (fun h => (part 1 h).2) (fun h => (part 2 h).2) (fun h => hV t t.nodes_self h)
    rw [Tm.val_eq]
    exact this
end Go.Proofs.YthogpmddijbigaaGreatDoor
