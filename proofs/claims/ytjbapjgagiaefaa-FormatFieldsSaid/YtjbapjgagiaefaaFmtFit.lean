/- The contract of package format's Fit, and plain facts on fields and numbers. -/
import Derived.Test.YtjbapjgagiaefaaFmtNumber
namespace Go.Proofs.Ytjbapjgagiaefaa
open Go.RowKit Go.Instr Go.Sort
set_option linter.unusedVariables false
set_option linter.unusedSimpArgs false
set_option maxRecDepth 100000
set_option maxHeartbeats 1000000

/-- What Fit gives: the least width. -/
def FitP (k s n z f : Int) : Prop :=
  (¬ chkK k 32 s = 0 ∧ z = 0 ∧ f = chkK k 32 s) ∨
  (chkK k 32 s = 0 ∧ ∃ w : Nat, 1 ≤ w ∧ w ≤ 32 ∧ z = w ∧ f = 0 ∧ numB (sgK k) w s.toNat n = true ∧ ∀ v, 1 ≤ v → v < w → numB (sgK k) v s.toNat n = false) ∨
  (chkK k 32 s = 0 ∧ z = 0 ∧ f = 24 ∧ ∀ v, 1 ≤ v → v ≤ 32 → numB (sgK k) v s.toNat n = false)
theorem FitP.one {k s n z f z' f' : Int} (h : FitP k s n z f) (h' : FitP k s n z' f') : z = z' ∧ f = f' := by
  rcases h with ⟨h1, rfl, rfl⟩ | ⟨h1, w, a1, a2, rfl, rfl, a3, a4⟩ | ⟨h1, rfl, rfl, a4⟩ <;>
    rcases h' with ⟨h2, rfl, rfl⟩ | ⟨h2, v, b1, b2, rfl, rfl, b3, b4⟩ | ⟨h2, rfl, rfl, b4⟩
  · exact ⟨rfl, rfl⟩
  · exact absurd h2 h1
  · exact absurd h2 h1
  · exact absurd h1 h2
  · have : w = v := by
      rcases Nat.lt_trichotomy w v with h | h | h
      · have := b4 w a1 h; rw [a3] at this; cases this
      · exact h
      · have := a4 v b1 h; rw [b3] at this; cases this
    exact ⟨by rw [this], rfl⟩
  · have := b4 w a1 a2; rw [a3] at this; cases this
  · exact absurd h1 h2
  · have := a4 v b1 b2; rw [b3] at this; cases this
  · exact ⟨rfl, rfl⟩
/-- Fit's answer. -/
def FitPost (k s n : Int) (wo : World) (e : Ending) (w' : World) : Prop := ∃ z f : Int, e = .returned (.tuple #[.int .i64 z, .int .i64 f]) ∧ FitP k s n z f ∧ Below wo.heap.size wo w'
theorem fit_any (k s n : Int) (wo : World) (hn : -9223372036854775808 ≤ n ∧ n ≤ 9223372036854775807) :
    Calls Try.prog 15 #[.int .u8 k, .int .i64 s, .int .i64 n] wo (FitPost k s n wo) := by
  have HC := Lib.hid (fun W => checkKind_any k 32 s W)
  by_cases hk : chkK k 32 s = 0
  · obtain ⟨_, h3, h4, _⟩ := chkK_ok hk
    have HK := Lib.hid hk
    rw [hk] at HC
    obtain ⟨t, rfl⟩ : ∃ t : Nat, s = t := ⟨s.toNat, by omega⟩
    have HS := Lib.hid (fun (m : Nat) (a : 1 ≤ m) (b : m ≤ 32) W => isNumber_any k n m t W a b (by omega) hn)
    have HP := Lib.hid (show ∀ z f W, FitP k t n z f → Below wo.heap.size wo W → FitPost k t n wo (.returned (.tuple #[.int .i64 z, .int .i64 f])) W from fun z f W a b => ⟨z, f, rfl, a, b⟩)
    generalize FitPost k t n wo = PP at *
    clear hk hn
    go_enter Try.func15, Try.ntmps15
    go_wp2_with (go_at_call 29; (with_reducible refine (HC.out _).mono ?_); rintro e w' ⟨rfl, hb⟩)
    go_loopw [9] (fun v wr => ∃ i : Nat, v = .int .i64 i ∧ 1 ≤ i ∧ i ≤ 33 ∧ Below wo.heap.size wo wr ∧ Hid (∀ v, 1 ≤ v → v < i → numB (sgK k) v t n = false)) (fun v _ => 33 - (intOf v).toNat)
    case atStart => exact ⟨1, rfl, Nat.le_refl _, by omega, hb, Lib.hid (fun v a b => by omega)⟩
    case round =>
      obtain ⟨i, rfl, hi, hi2, hbw, HI⟩ := hrel
      by_cases hlt : i ≤ 32
      · have HS2 := Lib.hid (HS.out i hi hlt)
        cases hq : numB (sgK k) i t n
        · rw [hq] at HS2
          have HQ := Lib.hid hq
          clear hq
          go_wp2_with (go_at_call 32; (with_reducible refine (HS2.out _).mono ?_); rintro e w2 ⟨rfl, hb2⟩)
          go_roundw
          case rel =>
            refine ⟨i + 1, by first | rfl | go_num | (congr 1), by omega, by omega, thenBel hbw hb2, Lib.hid (fun v a b => ?_)⟩
            by_cases e : v = i
            · subst e; exact HQ.out
            · exact HI.out v a (by omega)
          case measure => simp only [intOf]; omega
        · rw [hq] at HS2
          have HQ := Lib.hid hq
          clear hq
          go_wp2_with (go_at_call 32; (with_reducible refine (HS2.out _).mono ?_); rintro e w2 ⟨rfl, hb2⟩)
          exact HP.out i 0 _ (.inr (.inl ⟨HK.out, i, hi, hlt, rfl, rfl, by simpa using HQ.out, by simpa using HI.out⟩)) (thenBel hbw hb2)
      · obtain rfl : i = 33 := by omega
        go_wp2
        exact HP.out 0 24 _ (.inr (.inr ⟨HK.out, rfl, rfl, fun v a b => by simpa using HI.out v a (by omega)⟩)) hbw
  · have h2 := chkK_two hk
    have HP := Lib.hid (show ∀ W, Below wo.heap.size wo W → FitPost k s n wo (.returned (.tuple #[.int .i64 0, .int .i64 2])) W from fun W b => ⟨0, 2, rfl, .inl ⟨hk, rfl, h2.symm⟩, b⟩)
    rw [h2] at HC
    generalize FitPost k s n wo = PP at *
    clear hk h2
    go_enter Try.func15, Try.ntmps15
    go_wp2_with (go_at_call 29; (with_reducible refine (HC.out _).mono ?_); rintro e w' ⟨rfl, hb⟩)
    exact HP.out _ hb

/- Plain facts. -/
theorem emod_neg (v P : Int) (h1 : -P ≤ v) (h2 : v < 0) : v % P = v + P := by
  have := Int.add_mul_emod_self_left v P 1
  rw [Int.mul_one] at this
  rw [← this]
  exact Int.emod_eq_of_lt (by omega) (by omega)
theorem numB_iff {g : Bool} {w s : Nat} {n : Int} : numB g w s n = true ↔ n / 2 ^ s * 2 ^ s = n ∧ lowN g w ≤ n / 2 ^ s ∧ n / 2 ^ s ≤ highN g w := by
  unfold numB; simp
theorem castPow (w : Nat) : ((2 ^ w : Nat) : Int) = 2 ^ w := by simp
/-- The number of the field of a number. -/
theorem sg_field (g : Bool) (w : Nat) (v : Int) (h1 : 1 ≤ w) (h2 : w ≤ 32) (a : lowN g w ≤ v) (b : v ≤ highN g w) :
    (v % 2 ^ w).toNat < 2 ^ w ∧ (if g = true then sg w (v % 2 ^ w).toNat else ((v % 2 ^ w).toNat : Int)) = v := by
  have hd := powDbl w h1
  have hp := pow32 w h2
  have hH := castPow (w - 1)
  have hP := castPow w
  cases g
  · unfold lowN at a; unfold highN at b
    simp only [Bool.false_eq_true, if_false] at a b ⊢
    rw [Int.emod_eq_of_lt a (by omega)]
    omega
  · unfold lowN at a; unfold highN at b
    simp only [if_true] at a b ⊢
    unfold sg
    by_cases hv : v < 0
    · rw [emod_neg v _ (by omega) hv]
      rw [if_neg (by omega)]
      omega
    · rw [Int.emod_eq_of_lt (by omega) (by omega)]
      rw [if_pos (by omega)]
      omega
/-- The field of the number of a field. -/
theorem field_sg (g : Bool) (w y : Nat) (h1 : 1 ≤ w) (h2 : w ≤ 32) (hy : y < 2 ^ w) :
    lowN g w ≤ (if g = true then sg w y else (y : Int)) ∧ (if g = true then sg w y else (y : Int)) ≤ highN g w ∧ (((if g = true then sg w y else (y : Int)) % 2 ^ w).toNat) = y := by
  have hd := powDbl w h1
  have hp := pow32 w h2
  have hH := castPow (w - 1)
  have hP := castPow w
  cases g
  · unfold lowN highN
    simp only [Bool.false_eq_true, if_false]
    rw [Int.emod_eq_of_lt (by omega) (by omega)]
    omega
  · unfold lowN highN
    simp only [if_true]
    unfold sg
    split
    · rw [Int.emod_eq_of_lt (by omega) (by omega)]
      omega
    · rw [emod_neg _ _ (by omega) (by omega)]
      omega
theorem fieldR_err {k w s n : Int} (h : ¬ (fieldR k w s n).2 = 0) : (fieldR k w s n).1 = 0 ∧ ((fieldR k w s n).2 == 0) = false := by
  refine ⟨?_, by simpa using h⟩
  unfold fieldR at *
  split
  · split
    · rename_i h1 h2; rw [if_pos h1, if_pos h2] at h; exact absurd rfl h
    · rfl
  · rfl
theorem fieldR_ok {k w s n : Int} (h : (fieldR k w s n).2 = 0) : chkK k w s = 0 ∧ numB (sgK k) w.toNat s.toNat n = true ∧ (fieldR k w s n).1 = ((n / 2 ^ s.toNat) % 2 ^ w.toNat).toNat := by
  unfold fieldR at *
  split at h
  · rename_i h1
    rw [if_pos h1]
    split at h
    · rename_i h2; rw [if_pos h2]; exact ⟨h1, h2, rfl⟩
    · cases h
  · rename_i h1; exact absurd h h1
theorem fieldR_zero {k w s n : Int} : (fieldR k w s n).2 = 0 ↔ chkK k w s = 0 ∧ numB (sgK k) w.toNat s.toNat n = true := by
  constructor
  · intro h; exact ⟨(fieldR_ok h).1, (fieldR_ok h).2.1⟩
  · rintro ⟨h1, h2⟩; unfold fieldR; rw [if_pos h1, if_pos h2]
theorem back_one {k w s n : Int} (h : (fieldR k w s n).2 = 0) : numberR k w s (fieldR k w s n).1 = (n, 0) := by
  obtain ⟨h1, h2, h3⟩ := fieldR_ok h
  obtain ⟨⟨a1, a2⟩, a3, a4, _⟩ := chkK_ok h1
  obtain ⟨b1, b2, b3⟩ := numB_iff.1 h2
  obtain ⟨c1, c2⟩ := sg_field (sgK k) w.toNat _ (by omega) (by omega) b2 b3
  rw [h3]
  unfold numberR
  rw [if_pos h1, if_pos ((okB_iff _ _).2 c1), c2, b1]
theorem numberR_err {k w s : Int} {y : Nat} (h : ¬ (numberR k w s y).2 = 0) : (numberR k w s y).1 = 0 ∧ ((numberR k w s y).2 == 0) = false := by
  refine ⟨?_, by simpa using h⟩
  unfold numberR at *
  split
  · split
    · rename_i h1 h2; rw [if_pos h1, if_pos h2] at h; exact absurd rfl h
    · rfl
  · rfl
theorem back_two {k w s : Int} {y : Nat} (h : (numberR k w s y).2 = 0) : fieldR k w s (numberR k w s y).1 = (y, 0) := by
  have hc : chkK k w s = 0 ∧ okB w.toNat y = true := by
    unfold numberR at h
    split at h
    · rename_i h1
      split at h
      · rename_i h2; exact ⟨h1, h2⟩
      · cases h
    · rename_i h1; exact absurd h h1
  obtain ⟨⟨a1, a2⟩, a3, a4, _⟩ := chkK_ok hc.1
  have hn : (numberR k w s y).1 = (if sgK k = true then sg w.toNat y else (y : Int)) * 2 ^ s.toNat := by unfold numberR; rw [if_pos hc.1, if_pos hc.2]
  obtain ⟨b1, b2, b3⟩ := field_sg (sgK k) w.toNat y (by omega) (by omega) ((okB_iff _ _).1 hc.2)
  rw [hn]
  generalize (if sgK k = true then sg w.toNat y else (y : Int)) = v at *
  have e : v * 2 ^ s.toNat / 2 ^ s.toNat = v := Int.mul_ediv_cancel _ (by rcases pow3 s.toNat (by omega) with h | h | h | h <;> rw [h] <;> decide)
  unfold fieldR
  rw [if_pos hc.1, if_pos (numB_iff.2 ⟨by rw [e], by rw [e]; exact b1, by rw [e]; exact b2⟩), e, b3]
theorem numberR_bd {k w s : Int} {y : Nat} : -9223372036854775808 ≤ (numberR k w s y).1 ∧ (numberR k w s y).1 ≤ 9223372036854775807 := by
  unfold numberR
  split
  · rename_i h1
    obtain ⟨⟨a1, a2⟩, a3, a4, _⟩ := chkK_ok h1
    split
    · rename_i h2
      obtain ⟨b1, b2, _⟩ := field_sg (sgK k) w.toNat y (by omega) (by omega) ((okB_iff _ _).1 h2)
      have := low_bd (sgK k) w.toNat (by omega) (by omega)
      have := high_bd (sgK k) w.toNat (by omega) (by omega)
      generalize (if sgK k = true then sg w.toNat y else (y : Int)) = v at *
      rcases pow3 s.toNat (by omega) with h | h | h | h <;> rw [h] <;> omega
    · simp
  · simp
end Go.Proofs.Ytjbapjgagiaefaa
