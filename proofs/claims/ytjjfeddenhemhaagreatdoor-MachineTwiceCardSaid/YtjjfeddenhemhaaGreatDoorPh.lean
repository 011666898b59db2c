import Derived.Test.YtjjfeddenhemhaaGreatDoorPf
import Derived.Test.YtjjfeddenhemhaaGreatDoorGp
import Derived.Test.YtjjfeddenhemhaaGreatDoorPe
namespace Go.Proofs.YtjjfeddenhemhaaGreatDoor
open Go.RowKit Go.Instr
set_option linter.unusedVariables false
set_option linter.unusedSimpArgs false
set_option maxRecDepth 100000
theorem zk1 (m : Mach) (a b : Int) : zz m [b, a] = zz m [a, b] := by
 unfold zz
 simp only [List.all_cons, List.all_nil, Bool.and_true]
 rw [Bool.and_comm]
theorem zqc (R : List MReg) (i j : Nat) (x y : MReg) : z5o R j i y x = z5o R i j x y := by
 unfold z5o
 rw [show (z1f R j y == z1f R i x) = (z1f R i x == z1f R j y) from Bool.eq_iff_iff.2 ⟨fun h => by simp at h ⊢; omega, fun h => by simp at h ⊢; omega⟩]
 congr 1
 exact Bool.and_comm _ _
theorem zwr {m : Mach} {a b : Int} (h : zz m [a, b] = 0) : chkR m = 0 ∧ ∃ (i j : Nat) (x y : MReg), a = (i : Int) ∧ b = (j : Int) ∧ m.regs[i]? = some x ∧ m.regs[j]? = some y := by
 unfold zz at h
 by_cases hc : chkR m = 0
 ·rw [if_pos hc] at h
  refine ⟨hc, ?_⟩
  by_cases h2 : [a, b].all (idxM m) = true
  ·simp only [List.all_cons, List.all_nil, Bool.and_true, Bool.and_eq_true, idxM, decide_eq_true_eq] at h2
   obtain ⟨⟨p1, p2⟩, p3, p4⟩ := h2
   exact ⟨a.toNat, b.toNat, _, _, by omega, by omega, List.getElem?_eq_getElem (by omega), List.getElem?_eq_getElem (by omega)⟩
  ·rw [if_neg h2] at h; cases h
 ·rw [if_neg hc] at h; exact absurd h hc
theorem z7s {m : Mach} (hc : chkR m = 0) {i j : Nat} {x y : MReg} (hx : m.regs[i]? = some x) (hy : m.regs[j]? = some y) : zz m [(i : Int), (j : Int)] = 0 := by
 have h1 := (List.getElem?_eq_some_iff.1 hx).1
 have h2 := (List.getElem?_eq_some_iff.1 hy).1
 unfold zz
 rw [if_pos hc, if_pos]
 simp only [List.all_cons, List.all_nil, Bool.and_true, Bool.and_eq_true, idxM, decide_eq_true_eq]
 omega
theorem zi8 {m : Mach} (hc : chkR m = 0) {i : Nat} {x : MReg} (hx : m.regs[i]? = some x) : zz m [(i : Int)] = 0 := by
 have h1 := (List.getElem?_eq_some_iff.1 hx).1
 unfold zz
 rw [if_pos hc, if_pos]
 simp only [List.all_cons, List.all_nil, Bool.and_true, idxM, decide_eq_true_eq]
 omega
theorem zax {m : Mach} (hc : chkR m = 0) {i j : Nat} {x y : MReg} (hx : m.regs[i]? = some x) (hy : m.regs[j]? = some y) : ovB m (i : Int) (j : Int) = z5o m.regs i j x y := by
 unfold ovB
 rw [if_pos (z7s hc hx hy), Int.toNat_natCast, Int.toNat_natCast, hx, hy]
theorem zj7 {m : Mach} (hc : chkR m = 0) {i : Nat} {x : MReg} (hx : m.regs[i]? = some x) : ∃ (r : Nat) (q : MReg), ofR i x = (r : Int) ∧ m.regs[r]? = some q ∧ ofR r q = (r : Int) ∧ q.low = 0 ∧ 0 ≤ x.low ∧ 1 ≤ x.width ∧ x.low + x.width ≤ q.width ∧ q.width ≤ 64 := by
 have hr := (z2t hc).2.2.1
 unfold z5p at hr
 simp only [Bool.and_eq_true, List.all_eq_true] at hr
 have hmx := List.mem_of_getElem? hx
 have hb := z27 hc x hmx
 cases hq : z42 x with
 | true =>
   have e : ofR i x = (i : Int) := by unfold ofR; rw [hq]; rfl
   have hl : x.low = 0 := by unfold z42 at hq; simp only [decide_eq_true_eq] at hq; exact hq.2
   exact ⟨i, x, e, hx, e, hl, by omega, hb.1, by omega, hb.2.1⟩
 | false =>
   have h3 := hr.2 x hmx
   unfold z9m at h3
   simp only [Bool.and_eq_true, Bool.or_eq_true, hq] at h3
   have h4 : z8o m.regs x = true := by simpa using h3.2
   unfold z8o at h4
   by_cases h5 : 0 ≤ x.par
   ·rw [if_pos h5] at h4
    cases hp : m.regs[x.par.toNat]? with
    | none => rw [hp] at h4; simp at h4
    | some q =>
      rw [hp] at h4
      simp only [Bool.and_eq_true, decide_eq_true_eq] at h4
      obtain ⟨h6, h7, h8, h9⟩ := h4
      have hbq := z27 hc q (List.mem_of_getElem? hp)
      rw [zg _ (by omega) (by omega)] at h9
      have hl : q.low = 0 := by unfold z42 at h6; simp only [decide_eq_true_eq] at h6; exact h6.2
      exact ⟨x.par.toNat, q, by unfold ofR; rw [hq]; simp; omega, hp, by unfold ofR; rw [h6]; rfl, hl, h8, hb.1, by omega, hbq.2.1⟩
   ·rw [if_neg h5] at h4; simp at h4
theorem z41 {m : Mach} (hc : chkR m = 0) {i : Nat} {x : MReg} (hx : m.regs[i]? = some x) : ∃ p : Nat, z1f m.regs i x = (p : Int) ∧ (z1d m)[p]? = some (ofR i x) := by
 have hb := z53 hc hx
 unfold z1f ixF at hb ⊢
 unfold z1d
 cases h : List.findIdx? (fun z : Int => decide (z = ofR i x)) ((z1p m.regs).map fun (z : Nat) => (z : Int)) with
 | none => rw [h] at hb; simp at hb
 | some p =>
   obtain ⟨h1, h2, _⟩ := List.findIdx?_eq_some_iff_getElem.1 h
   refine ⟨p, rfl, ?_⟩
   rw [List.getElem?_eq_getElem h1]
   simp only [decide_eq_true_eq] at h2
   rw [h2]
theorem zte {R : List MReg} {i j : Nat} {x y : MReg} (h : ofR i x = ofR j y) : z1f R i x = z1f R j y := by unfold z1f; rw [h]
theorem zqd {m : Mach} (hc : chkR m = 0) {i : Nat} {x : MReg} (hx : m.regs[i]? = some x) {r : Nat} {q : MReg} (h : ofR i x = (r : Int)) (hq : ofR r q = (r : Int)) (hl : q.low = 0) (h0 : 0 ≤ x.low) (h1 : 1 ≤ x.width) (h2 : x.low + x.width ≤ q.width) : z5o m.regs i r x q = true := by
 unfold z5o
 rw [zte (R := m.regs) (h.trans hq.symm)]
 simp
 omega
theorem zqe {m : Mach} {i : Nat} {x : MReg} (h1 : 1 ≤ x.width) : z5o m.regs i i x x = true := by
 unfold z5o
 simp
 omega
theorem z45 {p : Int → Nat → Bool} {L : List Int} {V : List Nat} : eqF p L V = true ↔ L.length = V.length ∧ ∀ (k : Nat) z x, L[k]? = some z → V[k]? = some x → p z x = true := by
 unfold eqF
 rw [Bool.and_eq_true, decide_eq_true_eq, List.all_eq_true]
 refine ⟨fun ⟨h1, h2⟩ => ⟨h1, fun k z x hz hx => ?_⟩, fun ⟨h1, h2⟩ => ⟨h1, fun q hq => ?_⟩⟩
 ·exact h2 (z, x) (List.mem_of_getElem? (i := k) (by rw [List.getElem?_zip_eq_some]; exact ⟨hz, hx⟩))
 ·obtain ⟨k, hk⟩ := List.getElem?_of_mem hq
  rw [List.getElem?_zip_eq_some] at hk
  exact h2 k _ _ hk.1 hk.2
theorem zkq {m : Mach} : eqF (okV m) (z1d m) (List.replicate (z1p m.regs).length 0) = true := by
 rw [z45]
 refine ⟨by unfold z1d; simp, fun k z x hz hx => ?_⟩
 obtain rfl : 0 = x := by
  rw [List.getElem?_replicate] at hx
  split at hx
  ·simpa using hx
  ·cases hx
 obtain ⟨i, rfl, hi⟩ := zg4 (List.mem_of_getElem? hz)
 unfold okV
 rw [Int.toNat_natCast, List.getElem?_eq_getElem hi, z2y]
 exact Nat.two_pow_pos _
theorem zk9 (l w t : Nat) : (mk w * 2 ^ l).testBit t = (decide (l ≤ t) && decide (t < l + w)) := by
 unfold mk
 rw [Nat.testBit_mul_two_pow, Nat.testBit_two_pow_sub_one]
 by_cases h : l ≤ t
 ·simp [h]; omega
 ·simp [h]
theorem zqo (l w l' w' : Nat) (hw : 1 ≤ w) (hw' : 1 ≤ w') : mk w * 2 ^ l / 2 ^ l' % 2 ^ w' = 0 ↔ ¬ (l < l' + w' ∧ l' < l + w) := by
 have hb : ∀ t, (mk w * 2 ^ l / 2 ^ l' % 2 ^ w').testBit t = (decide (t < w') && (decide (l ≤ t + l') && decide (t + l' < l + w))) := fun t => by
  rw [Nat.testBit_mod_two_pow, Nat.testBit_div_two_pow, zk9]
 constructor
 ·intro h ⟨h1, h2⟩
  have := hb (max l l' - l')
  rw [h] at this
  simp only [Nat.zero_testBit] at this
  have e1 : max l l' - l' < w' := by omega
  have e2 : l ≤ max l l' - l' + l' := by omega
  have e3 : max l l' - l' + l' < l + w := by omega
  simp [e1, e2, e3] at this
 ·intro h
  apply Nat.eq_of_testBit_eq
  intro t
  rw [hb, Nat.zero_testBit]
  by_cases e1 : t < w'
  ·by_cases e2 : l ≤ t + l'
   ·have e3 : ¬ t + l' < l + w := by omega
    simp [e3]
   ·simp [e2]
  ·simp [e1]
theorem zw6 (l w x : Nat) : wrV 0 l w x = x * 2 ^ l := by unfold wrV; simp
theorem zx2 (w : Nat) : okB w (mk w) = true := by
 rw [z2y]; unfold mk; have := Nat.two_pow_pos w; omega
theorem z8j {m : Mach} (hc : chkR m = 0) {i : Nat} {x : MReg} (hx : m.regs[i]? = some x) {V : List Nat} (h : eqF (okV m) (z1d m) V = true) : z1x m V (i : Int) = 0 := by
 unfold z1x
 rw [if_pos (zi8 hc hx), if_pos h]
theorem zt4 {m : Mach} (hc : chkR m = 0) {i j : Nat} {x y : MReg} (hx : m.regs[i]? = some x) (hy : m.regs[j]? = some y) :
 z29 m (List.replicate (z1p m.regs).length 0) (i : Int) (mk x.width.toNat) = 0 ∧
 z1x m (wrL m (List.replicate (z1p m.regs).length 0) (i : Int) (mk x.width.toNat)) (j : Int) = 0 ∧
 (z2i m (wrL m (List.replicate (z1p m.regs).length 0) (i : Int) (mk x.width.toNat)) (j : Int) = 0 ↔ z5o m.regs i j x y = false) := by
 have h1 : z29 m (List.replicate (z1p m.regs).length 0) (i : Int) (mk x.width.toNat) = 0 := by
  unfold z29
  rw [if_pos (z8j hc hx zkq), Int.toNat_natCast, hx]
  simp only
  rw [if_pos (zx2 _)]
 obtain ⟨p, hp, hpg⟩ := z41 hc hx
 obtain ⟨p', hp', hpg'⟩ := z41 hc hy
 have hlen : (z1d m).length = (z1p m.regs).length := by unfold z1d; simp
 have hpl : p < (z1p m.regs).length := by rw [← hlen]; exact (List.getElem?_eq_some_iff.1 hpg).1
 have hpl' : p' < (z1p m.regs).length := by rw [← hlen]; exact (List.getElem?_eq_some_iff.1 hpg').1
 have h2 : wrL m (List.replicate (z1p m.regs).length 0) (i : Int) (mk x.width.toNat) = (List.replicate (z1p m.regs).length 0).set p (mk x.width.toNat * 2 ^ x.low.toNat) := by
  unfold wrL
  rw [if_pos h1, Int.toNat_natCast, hx]
  simp only
  rw [hp, Int.toNat_natCast, List.getElem?_replicate, if_pos hpl, Option.getD_some, zw6]
 rw [h2]
 obtain ⟨r, q, o1, o2, o3, o4, o5, o6, o7, o8⟩ := zj7 hc hx
 have hby := z27 hc y (List.mem_of_getElem? hy)
 have hv : eqF (okV m) (z1d m) ((List.replicate (z1p m.regs).length 0).set p (mk x.width.toNat * 2 ^ x.low.toNat)) = true := by
  rw [z45]
  refine ⟨by simp [hlen], fun k z u hz hu => ?_⟩
  rw [List.getElem?_set] at hu
  by_cases e : p = k
  ·subst e
   rw [if_pos rfl, if_pos (by simpa using hpl)] at hu
   obtain rfl : mk x.width.toNat * 2 ^ x.low.toNat = u := by simpa using hu
   obtain rfl : z = (r : Int) := by rw [hpg, o1] at hz; simpa using hz.symm
   unfold okV
   rw [Int.toNat_natCast, o2]
   simp only
   rw [z2y]
   have a1 : mk x.width.toNat < 2 ^ x.width.toNat := by have := (z2y _ _).1 (zx2 x.width.toNat); exact this
   have a2 := Nat.mul_lt_mul_of_pos_right a1 (Nat.two_pow_pos x.low.toNat)
   rw [← Nat.pow_add] at a2
   exact Nat.lt_of_lt_of_le a2 (Nat.pow_le_pow_right (by omega) (by omega))
  ·rw [if_neg e] at hu
   exact (z45.1 (zkq (m := m))).2 k z u hz hu
 refine ⟨h1, z8j hc hy hv, ?_⟩
 have h3 : z2i m ((List.replicate (z1p m.regs).length 0).set p (mk x.width.toNat * 2 ^ x.low.toNat)) (j : Int) = (if p = p' then mk x.width.toNat * 2 ^ x.low.toNat else 0) / 2 ^ y.low.toNat % 2 ^ y.width.toNat := by
  unfold z2i
  rw [if_pos (z8j hc hy hv), Int.toNat_natCast, hy]
  simp only
  rw [hp', Int.toNat_natCast, List.getElem?_set]
  by_cases e : p = p'
  ·rw [if_pos e, if_pos e, if_pos (by simpa using hpl), Option.getD_some]
  ·rw [if_neg e, if_neg e, List.getElem?_replicate, if_pos hpl', Option.getD_some]
 rw [h3]
 unfold z5o
 rw [hp, hp']
 by_cases e : p = p'
 ·subst e
  rw [if_pos rfl, zqo _ _ _ _ (by omega) (by omega)]
  simp only [beq_self_eq_true, Bool.true_and, Bool.and_eq_false_iff, decide_eq_false_iff_not]
  omega
 ·rw [if_neg e, Nat.zero_div, Nat.zero_mod]
  simp [e]
  intro h; omega
end Go.Proofs.YtjjfeddenhemhaaGreatDoor
