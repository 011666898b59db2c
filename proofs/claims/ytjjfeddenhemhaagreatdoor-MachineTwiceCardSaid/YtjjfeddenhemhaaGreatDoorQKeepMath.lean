import Derived.Test.YtjjfeddenhemhaaGreatDoorPh
namespace Go.Proofs.YtjjfeddenhemhaaGreatDoor
open Go.RowKit Go.Instr
set_option linter.unusedVariables false
set_option linter.unusedSimpArgs false
set_option maxRecDepth 100000
theorem z63 {v l w x : Nat} (hx : x < 2 ^ w) (h : l + w ≤ 64) (hv : v < 18446744073709551616) (t : Nat) : (wrV v l w x).testBit t = if l ≤ t ∧ t < l + w then x.testBit (t - l) else v.testBit t := by
 obtain ⟨s2, s3⟩ := z9y hx h
 unfold wrV
 rw [Nat.testBit_or, Nat.testBit_and, Nat.testBit_mul_two_pow]
 have e : (18446744073709551615 - mk w * 2 ^ l).testBit t = (decide (t < 64) && !(mk w * 2 ^ l).testBit t) := by
  have := Nat.testBit_two_pow_sub_succ (n := 64) (x := mk w * 2 ^ l) (by simpa using s3) t
  rw [← this]
  congr 1
  omega
 rw [e, zk9]
 have hv64 : ∀ t, 64 ≤ t → v.testBit t = false := fun t ht => Nat.testBit_lt_two_pow (Nat.lt_of_lt_of_le hv (by rw [show (18446744073709551616 : Nat) = 2 ^ 64 by decide]; exact Nat.pow_le_pow_right (by omega) ht))
 have hxw : ∀ s, w ≤ s → x.testBit s = false := fun s hs => Nat.testBit_lt_two_pow (Nat.lt_of_lt_of_le hx (Nat.pow_le_pow_right (by omega) hs))
 by_cases h1 : l ≤ t
 ·by_cases h2 : t < l + w
  ·simp [h1, h2]
  ·have := hxw (t - l) (by omega)
   by_cases h3 : t < 64
   ·simp [h1, h2, h3, this]
   ·simp [h1, h2, h3, this, hv64 t (by omega)]
 ·by_cases h3 : t < 64
  ·simp [h1, h3]
  ·simp [h1, h3, hv64 t (by omega)]
theorem ztz {v l w x W : Nat} (hx : x < 2 ^ w) (h : l + w ≤ W) (hW : W ≤ 64) (hv : v < 2 ^ W) : wrV v l w x < 2 ^ W := by
 have hv64 : v < 18446744073709551616 := Nat.lt_of_lt_of_le hv (by rw [show (18446744073709551616 : Nat) = 2 ^ 64 by decide]; exact Nat.pow_le_pow_right (by omega) hW)
 refine Nat.lt_pow_two_of_testBit _ fun t ht => ?_
 rw [z63 hx (by omega) hv64, if_neg (by omega)]
 exact Nat.testBit_lt_two_pow (Nat.lt_of_lt_of_le hv (Nat.pow_le_pow_right (by omega) ht))
theorem z74 (v l w t : Nat) : (v / 2 ^ l % 2 ^ w).testBit t = (decide (t < w) && v.testBit (t + l)) := by
 rw [Nat.testBit_mod_two_pow, Nat.testBit_div_two_pow]
theorem zw3 {v l w x : Nat} (hx : x < 2 ^ w) (h : l + w ≤ 64) (hv : v < 18446744073709551616) : wrV v l w x / 2 ^ l % 2 ^ w = x := by
 apply Nat.eq_of_testBit_eq
 intro t
 rw [z74, z63 hx h hv]
 by_cases ht : t < w
 ·rw [if_pos (by omega)]
  simp [ht]
 ·have hz : x.testBit t = false := Nat.testBit_lt_two_pow (Nat.lt_of_lt_of_le hx (Nat.pow_le_pow_right (by omega) (by omega)))
  rw [hz]
  simp [ht]
theorem zw4 {v l w x l' w' : Nat} (hx : x < 2 ^ w) (h : l + w ≤ 64) (hv : v < 18446744073709551616) (ho : ¬ (l < l' + w' ∧ l' < l + w)) : wrV v l w x / 2 ^ l' % 2 ^ w' = v / 2 ^ l' % 2 ^ w' := by
 apply Nat.eq_of_testBit_eq
 intro t
 rw [z74, z74, z63 hx h hv]
 by_cases ht : t < w'
 ·rw [if_neg (by omega)]
 ·simp [ht]
theorem zke {m : Mach} (hc : chkR m = 0) {i : Nat} {x : MReg} (hx : m.regs[i]? = some x) : ∃ p l w W : Nat, z1f m.regs i x = (p : Int) ∧ x.low = (l : Int) ∧ x.width = (w : Int) ∧ 1 ≤ w ∧ l + w ≤ W ∧ W ≤ 64 ∧ p < (z1d m).length ∧
 ∀ (u : Nat), ((z1d m)[p]? = some (ofR i x) ∧ okV m (ofR i x) u = true) ↔ u < 2 ^ W := by
 obtain ⟨r, q, o1, o2, o3, o4, o5, o6, o7, o8⟩ := zj7 hc hx
 obtain ⟨p, hp, hpg⟩ := z41 hc hx
 refine ⟨p, x.low.toNat, x.width.toNat, q.width.toNat, hp, by omega, by omega, by omega, by omega, by omega, (List.getElem?_eq_some_iff.1 hpg).1, fun u => ?_⟩
 rw [← z2y]
 unfold okV
 rw [o1, Int.toNat_natCast, o2]
 simp only
 exact ⟨fun h => h.2, fun h => ⟨by rw [hpg, o1], h⟩⟩
theorem zrd {m : Mach} {V : List Nat} {a : Int} {u : Nat} (h : z29 m V a u = 0) : chkR m = 0 ∧ ∃ (i : Nat) (x : MReg) (p l w W : Nat), a = (i : Int) ∧ m.regs[i]? = some x ∧ z1f m.regs i x = (p : Int) ∧ x.low = (l : Int) ∧ x.width = (w : Int) ∧ 1 ≤ w ∧ l + w ≤ W ∧ W ≤ 64 ∧ p < V.length ∧ u < 2 ^ w ∧
 wrL m V a u = V.set p (wrV ((V[p]?).getD 0) l w u) ∧ (V[p]?).getD 0 < 2 ^ W ∧ eqF (okV m) (z1d m) V = true ∧ eqF (okV m) (z1d m) (wrL m V a u) = true := by
 have hv : z1x m V a = 0 := by
  by_cases hv : z1x m V a = 0
  ·exact hv
  ·unfold z29 at h; rw [if_neg hv] at h; exact absurd h hv
 obtain ⟨hc, ⟨ha0, ha1⟩, hE⟩ := z3d hv
 obtain ⟨i, rfl⟩ : ∃ i : Nat, a = (i : Int) := ⟨a.toNat, by omega⟩
 obtain ⟨x, hx⟩ : ∃ x, m.regs[i]? = some x := ⟨_, List.getElem?_eq_getElem (by omega)⟩
 obtain ⟨p, l, w, W, e1, e2, e3, e4, e5, e6, e7, e8⟩ := zke hc hx
 have hpg : (z1d m)[p]? = some (ofR i x) := by
  obtain ⟨p', h1, h2⟩ := z41 hc hx
  obtain rfl : p = p' := by omega
  exact h2
 have hl := (z45.1 hE).1
 have hu : u < 2 ^ w := by
  have h' := h
  unfold z29 at h'
  rw [if_pos hv, Int.toNat_natCast, hx] at h'
  simp only [e3, Int.toNat_natCast] at h'
  by_cases ho : okB w u = true
  ·exact (z2y _ _).1 ho
  ·rw [if_neg ho] at h'; cases h'
 have hL : wrL m V (i : Int) u = V.set p (wrV ((V[p]?).getD 0) l w u) := by
  unfold wrL
  rw [if_pos h, Int.toNat_natCast, hx]
  simp only [e1, e2, e3, Int.toNat_natCast]
 obtain ⟨v, hvp⟩ : ∃ v, V[p]? = some v := ⟨_, List.getElem?_eq_getElem (by omega)⟩
 have hvW : (V[p]?).getD 0 < 2 ^ W := by
  rw [hvp, Option.getD_some]
  exact (e8 v).1 ⟨hpg, (z45.1 hE).2 p _ v hpg hvp⟩
 refine ⟨hc, i, x, p, l, w, W, rfl, hx, e1, e2, e3, e4, e5, e6, by omega, hu, hL, hvW, hE, ?_⟩
 rw [hL, z45]
 refine ⟨by simp [hl], fun k z y hz hy => ?_⟩
 rw [List.getElem?_set] at hy
 by_cases e : p = k
 ·subst e
  rw [if_pos rfl, if_pos (by omega)] at hy
  obtain rfl : wrV ((V[p]?).getD 0) l w u = y := by simpa using hy
  obtain rfl : ofR i x = z := by rw [hpg] at hz; simpa using hz
  exact ((e8 _).2 (ztz hu e5 e6 hvW)).2
 ·rw [if_neg e] at hy
  exact (z45.1 hE).2 k z y hz hy
theorem z84 {m : Mach} (hc : chkR m = 0) {V : List Nat} (hE : eqF (okV m) (z1d m) V = true) {i : Nat} {x : MReg} (hx : m.regs[i]? = some x) {p l w : Nat} (hp : z1f m.regs i x = (p : Int)) (hl : x.low = (l : Int)) (hw : x.width = (w : Int)) : z2i m V (i : Int) = (V[p]?).getD 0 / 2 ^ l % 2 ^ w := by
 unfold z2i
 rw [if_pos (z8j hc hx hE), Int.toNat_natCast, hx]
 simp only [hp, hl, hw, Int.toNat_natCast]
theorem keeps {m : Mach} {V : List Nat} {a : Int} {u : Nat} (h : z29 m V a u = 0) : chkR m = 0 ∧ (wrL m V a u).length = V.length ∧ z1x m (wrL m V a u) a = 0 ∧ z2i m (wrL m V a u) a = u ∧
 ∀ j : Nat, j < m.regs.length → zz m [a, (j : Int)] = 0 ∧ z1x m V (j : Int) = 0 ∧ z1x m (wrL m V a u) (j : Int) = 0 ∧ (ovB m a (j : Int) = false → z2i m (wrL m V a u) (j : Int) = z2i m V (j : Int)) := by
 obtain ⟨hc, i, x, p, l, w, W, rfl, hx, hp, hl, hw, h1, h2, h3, h4, h5, h6, h7, h8, h9⟩ := zrd h
 have h64 : (V[p]?).getD 0 < 18446744073709551616 := Nat.lt_of_lt_of_le h7 (by rw [show (18446744073709551616 : Nat) = 2 ^ 64 by decide]; exact Nat.pow_le_pow_right (by omega) h3)
 have hg : ((wrL m V (i : Int) u)[p]?).getD 0 = wrV ((V[p]?).getD 0) l w u := by
  rw [h6, List.getElem?_set, if_pos rfl, if_pos h4, Option.getD_some]
 refine ⟨hc, by rw [h6, List.length_set], z8j hc hx h9, ?_, fun j hj => ?_⟩
 ·rw [z84 hc h9 hx hp hl hw, hg]
  exact zw3 h5 (by omega) h64
 ·obtain ⟨y, hy⟩ : ∃ y, m.regs[j]? = some y := ⟨_, List.getElem?_eq_getElem hj⟩
  refine ⟨z7s hc hx hy, z8j hc hy h8, z8j hc hy h9, fun ho => ?_⟩
  rw [zax hc hx hy] at ho
  obtain ⟨p', l', w', W', f1, f2, f3, f4, f5, f6, f7, f8⟩ := zke hc hy
  rw [z84 hc h9 hy f1 f2 f3, z84 hc h8 hy f1 f2 f3]
  by_cases e : p = p'
  ·subst e
   rw [hg]
   refine zw4 h5 (by omega) h64 ?_
   unfold z5o at ho
   rw [hp, f1, hl, hw, f2, f3] at ho
   simp only [beq_self_eq_true, Bool.true_and, Bool.and_eq_false_iff, decide_eq_false_iff_not] at ho
   omega
  ·rw [h6, List.getElem?_set, if_neg e]
end Go.Proofs.YtjjfeddenhemhaaGreatDoor
