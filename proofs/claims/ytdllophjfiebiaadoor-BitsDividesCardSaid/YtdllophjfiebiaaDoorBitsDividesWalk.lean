/- The walk of BitsDivides. -/
import Derived.Test.YtdllophjfiebiaaDoorBitsLawMath
namespace Go.Proofs.YtdllophjfiebiaaDoor.bitsDivides
open Go.RowKit Go.Sort
set_option linter.unusedVariables false

theorem div_zero (n a : Nat) (h1 : n ≤ 64) : opv 14 n a 0 = mk n := by
  have hs := pow_split n h1
  have hp := pow_pos' (64 - n)
  have hm := mk_succ n
  unfold opv
  simp only [raw, if_true]
  have e : 18446744073709551615 = mk n + 2 ^ n * (2 ^ (64 - n) - 1) := by
    rw [Nat.mul_sub, hs, Nat.mul_one]
    have := pow_le n h1
    omega
  rw [e, Nat.add_mul_mod_self_left]
  exact Nat.mod_eq_of_lt (by omega)
theorem rem_zero (n a : Nat) (ha : a < 2 ^ n) : opv 15 n a 0 = a := by
  unfold opv
  simp only [raw, if_true]
  exact Nat.mod_eq_of_lt ha
theorem div_pos (n a b : Nat) (ha : a < 2 ^ n) (hb : b ≠ 0) : opv 14 n a b = a / b := by
  unfold opv
  simp only [raw, if_neg hb]
  exact Nat.mod_eq_of_lt (Nat.lt_of_le_of_lt (Nat.div_le_self _ _) ha)
theorem rem_pos (n a b : Nat) (ha : a < 2 ^ n) (hb : b ≠ 0) : opv 15 n a b = a % b := by
  unfold opv
  simp only [raw, if_neg hb]
  exact Nat.mod_eq_of_lt (Nat.lt_of_le_of_lt (Nat.mod_le _ _) ha)
theorem lt_one (n r b : Nat) (h0 : 1 ≤ n) (h : r < b) : opv 17 n r b = 1 := by
  rw [opv17 n r b h0, decide_eq_true h]; rfl
theorem mul_small (n a b : Nat) (h1 : n ≤ 64) (h : a * b < 2 ^ n) : opv 7 n a b = a * b := by
  have := pow_le n h1
  unfold opv
  simp only [raw]
  rw [Nat.mod_eq_of_lt (show a * b < 18446744073709551616 by omega), Nat.mod_eq_of_lt h]
theorem add_small (n a b : Nat) (h1 : n ≤ 64) (h : a + b < 2 ^ n) : opv 5 n a b = a + b := by
  have := pow_le n h1
  unfold opv
  simp only [raw]
  rw [Nat.mod_eq_of_lt (show a + b < 18446744073709551616 by omega), Nat.mod_eq_of_lt h]

theorem core (wd x y n a b q r p : Nat) (w : World) (hx : x < 18446744073709551616) (hy : y < 18446744073709551616) (hn : n = wd % 64 + 1) (ha : a = x % 2 ^ n) (hb : b = y % 2 ^ n)
    (hq : q = opv 14 n a b) (hr : r = opv 15 n a b) (hp : p = q * b) :
    Calls Tryd.prog 6 #[.int .u8 wd, .int .u64 x, .int .u64 y] w fun e w' => e = .returned (.bool true) ∧ Below w.heap.size w w' := by
  have C1 := fun W => Lib.hid (cut_at wd x hx n a hn ha W)
  have C2 := fun W => Lib.hid (cut_at wd y hy n b hn hb W)
  have h0 : 1 ≤ n := by omega
  have h1 : n ≤ 64 := by omega
  have ha' : a < 2 ^ n := by rw [ha]; exact Nat.mod_lt _ (pow_pos' n)
  have hb' : b < 2 ^ n := by rw [hb]; exact Nat.mod_lt _ (pow_pos' n)
  have P1 := fun W => Lib.hid (op_as 14 n a b q 14 W rfl h0 h1 (by decide) (by decide) ha' hb' hq.symm)
  have P2 := fun W => Lib.hid (op_as 15 n a b r 15 W rfl h0 h1 (by decide) (by decide) ha' hb' hr.symm)
  have M := fun W => Lib.hid (mask_yes n W h0 h1)
  by_cases hz : b = 0
  · have e1 : q = mk n := by rw [hq, hz]; exact div_zero n a h1
    have e2 : r = a := by rw [hr, hz]; exact rem_zero n a ha'
    have tz : ((b : Int) == 0) = true := by simp [hz]
    rw [← e1] at M
    subst e2
    have HE1 := Lib.hid e1
    clear ha hb hn hx hy ha' hb' h0 h1 hq hr hp hz e1
    go_enter Tryd.func6, Tryd.ntmps6
    go_wp2_with (first
      | (go_at_call 25; (with_reducible refine (C1 _).out.mono ?_); rintro e w' ⟨rfl, rfl⟩)
      | (go_at_call 25; (with_reducible refine (C2 _).out.mono ?_); rintro e w' ⟨rfl, rfl⟩)
      | (go_at_call 27; (with_reducible refine (P1 _).out.mono ?_); rintro e w1 ⟨rfl, hb1⟩)
      | (go_at_call 27; (with_reducible refine (P2 _).out.mono ?_); rintro e w2 ⟨rfl, hb2⟩)
      | (go_at_call 18; (with_reducible refine (alive_any _).mono ?_); rintro e w3 ⟨rfl, hb3⟩)
      | (go_at_call 19; (with_reducible refine (M _).out.mono ?_); rintro e w' ⟨rfl, rfl⟩))
    go_ret
    exact ⟨rfl, thenB (thenB hb1 hb2) hb3⟩
  · have e1 : q = a / b := by rw [hq]; exact div_pos n a b ha' hz
    have e2 : r = a % b := by rw [hr]; exact rem_pos n a b ha' hz
    have tz : ((b : Int) == 0) = false := by simp [hz]
    have hqa : q ≤ a := by rw [e1]; exact Nat.div_le_self _ _
    have hrb : r < b := by rw [e2]; exact Nat.mod_lt _ (by omega)
    have hpa : p + r = a := by rw [hp, e1, e2, Nat.mul_comm]; exact Nat.div_add_mod a b
    have hqn : q < 2 ^ n := by omega
    have hrn : r < 2 ^ n := by omega
    have hpn : p < 2 ^ n := by omega
    have P3 := fun W => Lib.hid (op_as 17 n r b 1 17 W rfl h0 h1 (by decide) (by decide) hrn hb' (lt_one n r b h0 hrb))
    have P4 := fun W => Lib.hid (op_as 7 n q b p 7 W rfl h0 h1 (by decide) (by decide) hqn hb' (by rw [hp]; exact mul_small n q b h1 (by rw [← hp]; exact hpn)))
    have P5 := fun W => Lib.hid (op_as 5 n p r a 5 W rfl h0 h1 (by decide) (by decide) hpn hrn (by rw [add_small n p r h1 (by omega)]; exact hpa))
    clear ha hb hn hx hy ha' hb' h0 h1 hq hr hp hz e1 e2 hrb hpa hqn hrn hpn M
    go_enter Tryd.func6, Tryd.ntmps6
    go_wp2_with (first
      | (go_at_call 25; (with_reducible refine (C1 _).out.mono ?_); rintro e w' ⟨rfl, rfl⟩)
      | (go_at_call 25; (with_reducible refine (C2 _).out.mono ?_); rintro e w' ⟨rfl, rfl⟩)
      | (go_at_call 27; (with_reducible refine (P1 _).out.mono ?_); rintro e w1 ⟨rfl, hb1⟩)
      | (go_at_call 27; (with_reducible refine (P2 _).out.mono ?_); rintro e w2 ⟨rfl, hb2⟩)
      | (go_at_call 27; (with_reducible refine (P3 _).out.mono ?_); rintro e w4 ⟨rfl, hb4⟩)
      | (go_at_call 27; (with_reducible refine (P4 _).out.mono ?_); rintro e w5 ⟨rfl, hb5⟩)
      | (go_at_call 27; (with_reducible refine (P5 _).out.mono ?_); rintro e w6 ⟨rfl, hb6⟩)
      | (go_at_call 18; (with_reducible refine (alive_any _).mono ?_); rintro e w3 ⟨rfl, hb3⟩))
    go_ret
    exact ⟨rfl, thenB (thenB (thenB (thenB (thenB hb1 hb2) hb3) hb4) hb5) hb6⟩

theorem walk (a0 : Int) (a1 : Int) (a2 : Int) (w0 : (Lit.int .u8 a0).wf = true) (w1 : (Lit.int .u64 a1).wf = true) (w2 : (Lit.int .u64 a2).wf = true) (w : World) :
    Calls Tryd.prog 6 #[.int .u8 a0, .int .u64 a1, .int .u64 a2] w fun e w' => e = .returned (.bool true) ∧ Below w.heap.size w w' := by
  obtain ⟨wd, rfl, _⟩ := nat_u8 w0
  obtain ⟨x, rfl, hx⟩ := nat_u64 w1
  obtain ⟨y, rfl, hy⟩ := nat_u64 w2
  exact core wd x y _ _ _ _ _ _ w hx hy rfl rfl rfl rfl rfl rfl
end Go.Proofs.YtdllophjfiebiaaDoor.bitsDivides
