import Derived.Test.YtjjfeddenhemhaaGreatDoorQKeepMath
namespace Go.Proofs.YtjjfeddenhemhaaGreatDoor
open Go.RowKit Go.Instr
set_option linter.unusedVariables false
set_option linter.unusedSimpArgs false
set_option maxRecDepth 100000
theorem pow64 {v W : Nat} (hv : v < 2 ^ W) (hW : W ≤ 64) : v < 18446744073709551616 := Nat.lt_of_lt_of_le hv (by rw [show (18446744073709551616 : Nat) = 2 ^ 64 by decide]; exact Nat.pow_le_pow_right (by omega) hW)
theorem zw5 {v l w : Nat} (h : l + w ≤ 64) (hv : v < 18446744073709551616) : wrV v l w (v / 2 ^ l % 2 ^ w) = v := by
 apply Nat.eq_of_testBit_eq
 intro t
 rw [z63 (Nat.mod_lt _ (Nat.two_pow_pos _)) h hv]
 by_cases hc : l ≤ t ∧ t < l + w
 ·rw [if_pos hc, z74, show t - l + l = t by omega, show decide (t - l < w) = true by simp; omega, Bool.true_and]
 ·rw [if_neg hc]
theorem zty {v l w x W : Nat} (hx : x < 2 ^ w) (h : l + w ≤ W) (hW : W ≤ 64) (hv : v < 2 ^ W) : wrV (wrV v l w x) l w (v / 2 ^ l % 2 ^ w) = v := by
 apply Nat.eq_of_testBit_eq
 intro t
 rw [z63 (Nat.mod_lt _ (Nat.two_pow_pos _)) (by omega) (pow64 (ztz hx h hW hv) hW)]
 by_cases hc : l ≤ t ∧ t < l + w
 ·rw [if_pos hc, z74, show t - l + l = t by omega, show decide (t - l < w) = true by simp; omega, Bool.true_and]
 ·rw [if_neg hc, z63 hx (by omega) (pow64 hv hW), if_neg hc]
theorem zrc {v l w x l' w' y W : Nat} (hx : x < 2 ^ w) (hy : y < 2 ^ w') (h : l + w ≤ W) (h' : l' + w' ≤ W) (hW : W ≤ 64) (hv : v < 2 ^ W) (ho : ¬ (l < l' + w' ∧ l' < l + w)) (h1 : 1 ≤ w) (h1' : 1 ≤ w') : wrV (wrV v l w x) l' w' y = wrV (wrV v l' w' y) l w x := by
 apply Nat.eq_of_testBit_eq
 intro t
 rw [z63 hy (by omega) (pow64 (ztz hx h hW hv) hW), z63 hx (by omega) (pow64 hv hW), z63 hx (by omega) (pow64 (ztz hy h' hW hv) hW), z63 hy (by omega) (pow64 hv hW)]
 by_cases hc : l ≤ t ∧ t < l + w
 ·rw [if_pos hc, if_neg (show ¬ (l' ≤ t ∧ t < l' + w') by omega), if_pos hc]
 ·rw [if_neg hc, if_neg hc]
theorem zkn {m : Mach} (hc : chkR m = 0) {V : List Nat} (hE : eqF (okV m) (z1d m) V = true) {i : Nat} {x : MReg} (hx : m.regs[i]? = some x) {p l w u : Nat} (hp : z1f m.regs i x = (p : Int)) (hl : x.low = (l : Int)) (hw : x.width = (w : Int)) (hu : u < 2 ^ w) :
 z29 m V (i : Int) u = 0 ∧ wrL m V (i : Int) u = V.set p (wrV ((V[p]?).getD 0) l w u) := by
 have h : z29 m V (i : Int) u = 0 := by
  unfold z29
  rw [if_pos (z8j hc hx hE), Int.toNat_natCast, hx]
  simp only [hw, Int.toNat_natCast]
  rw [if_pos ((z2y _ _).2 hu)]
 refine ⟨h, ?_⟩
 unfold wrL
 rw [if_pos h, Int.toNat_natCast, hx]
 simp only [hp, hl, hw, Int.toNat_natCast]
theorem zr0 {V : List Nat} {p : Nat} (hp : p < V.length) : V.set p ((V[p]?).getD 0) = V := by
 rw [List.getElem?_eq_getElem hp, Option.getD_some]
 exact List.set_getElem_self hp
theorem zn4 {m : Mach} {V : List Nat} {a : Int} (h : z1x m V a = 0) : z29 m V a (z2i m V a) = 0 ∧ wrL m V a (z2i m V a) = V := by
 obtain ⟨hc, ⟨ha0, ha1⟩, hE⟩ := z3d h
 obtain ⟨i, rfl⟩ : ∃ i : Nat, a = (i : Int) := ⟨a.toNat, by omega⟩
 obtain ⟨x, hx⟩ : ∃ x, m.regs[i]? = some x := ⟨_, List.getElem?_eq_getElem (by omega)⟩
 obtain ⟨p, l, w, W, e1, e2, e3, e4, e5, e6, e7, e8⟩ := zke hc hx
 have hr := z84 hc hE hx e1 e2 e3
 obtain ⟨g1, g2⟩ := zkn hc hE hx e1 e2 e3 (u := z2i m V i) (by rw [hr]; exact Nat.mod_lt _ (Nat.two_pow_pos _))
 refine ⟨g1, ?_⟩
 have hl := (z45.1 hE).1
 have hpV : p < V.length := by omega
 have hpg : (z1d m)[p]? = some (ofR i x) := by
  obtain ⟨p', h1, h2⟩ := z41 hc hx
  obtain rfl : p = p' := by omega
  exact h2
 have hvW : (V[p]?).getD 0 < 2 ^ W := by
  rw [List.getElem?_eq_getElem hpV, Option.getD_some]
  exact (e8 _).1 ⟨hpg, (z45.1 hE).2 p _ _ hpg (List.getElem?_eq_getElem hpV)⟩
 rw [g2, hr, zw5 (by omega) (pow64 hvW e6), zr0 hpV]
theorem zjf {m : Mach} {V : List Nat} {a : Int} {u : Nat} (h : z29 m V a u = 0) : z29 m (wrL m V a u) a (z2i m V a) = 0 ∧ wrL m (wrL m V a u) a (z2i m V a) = V := by
 obtain ⟨hc, i, x, p, l, w, W, rfl, hx, hp, hl, hw, h1, h2, h3, h4, h5, h6, h7, h8, h9⟩ := zrd h
 have hr := z84 hc h8 hx hp hl hw
 obtain ⟨g1, g2⟩ := zkn hc h9 hx hp hl hw (u := z2i m V i) (by rw [hr]; exact Nat.mod_lt _ (Nat.two_pow_pos _))
 refine ⟨g1, ?_⟩
 have hg : ((wrL m V (i : Int) u)[p]?).getD 0 = wrV ((V[p]?).getD 0) l w u := by
  rw [h6, List.getElem?_set, if_pos rfl, if_pos h4, Option.getD_some]
 rw [g2, hg, hr, zty h5 h2 h3 h7, h6, List.set_set, zr0 h4]
theorem zn5 {m : Mach} {V : List Nat} {a b : Int} {u v : Nat} (h : z29 m V a u = 0) (h' : z29 m V b v = 0) : zz m [a, b] = 0 ∧ (ovB m a b = false → z29 m (wrL m V a u) b v = 0 ∧ z29 m (wrL m V b v) a u = 0 ∧ wrL m (wrL m V a u) b v = wrL m (wrL m V b v) a u) := by
 obtain ⟨hc, i, x, p, l, w, W, rfl, hx, hp, hl, hw, h1, h2, h3, h4, h5, h6, h7, h8, h9⟩ := zrd h
 obtain ⟨_, j, y, p', l', w', W', rfl, hy, hp', hl', hw', f1, f2, f3, f4, f5, f6, f7, f8, f9⟩ := zrd h'
 refine ⟨z7s hc hx hy, fun ho => ?_⟩
 rw [zax hc hx hy] at ho
 obtain ⟨g1, g2⟩ := zkn hc h9 hy hp' hl' hw' f5
 obtain ⟨k1, k2⟩ := zkn hc f9 hx hp hl hw h5
 refine ⟨g1, k1, ?_⟩
 rw [g2, k2, h6, f6, List.getElem?_set, List.getElem?_set]
 by_cases e : p = p'
 ·subst e
  have hWW : W = W' ∨ W < W' ∨ W' < W := by omega
  unfold z5o at ho
  rw [hp, hp', hl, hw, hl', hw'] at ho
  simp only [beq_self_eq_true, Bool.true_and, Bool.and_eq_false_iff, decide_eq_false_iff_not] at ho
  have hno : ¬ (l < l' + w' ∧ l' < l + w) := by omega
  rw [if_pos rfl, if_pos rfl, if_pos h4, if_pos h4, Option.getD_some, Option.getD_some, List.set_set, List.set_set]
  congr 1
  rcases Nat.le_total W W' with hq | hq
  ·exact zrc h5 f5 (Nat.le_trans h2 hq) f2 f3 f7 hno h1 f1
  ·exact zrc h5 f5 h2 (Nat.le_trans f2 hq) h3 h7 hno h1 f1
 ·rw [if_neg e, if_neg (fun q => e q.symm), List.set_comm _ _ (fun q => e q)]
theorem zun {m : Mach} {V : List Nat} {a : Int} {u : Nat} (h : z29 m V a u = 0) : (wrL m V a u).length = V.length := by
 obtain ⟨hc, i, x, p, l, w, W, rfl, hx, hp, hl, hw, h1, h2, h3, h4, h5, h6, h7, h8, h9⟩ := zrd h
 rw [h6, List.length_set]
end Go.Proofs.YtjjfeddenhemhaaGreatDoor
