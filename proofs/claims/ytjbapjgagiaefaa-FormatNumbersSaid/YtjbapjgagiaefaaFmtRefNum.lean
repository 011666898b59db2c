/- The reference's Range, Field, Number, Fit of layer 9. -/
import Derived.Test.YtjbapjgagiaefaaFmtRef
namespace Go.Proofs.Ytjbapjgagiaefaa
open Go.RowKit Go.Instr Go.Sort
set_option linter.unusedVariables false
set_option linter.unusedSimpArgs false
set_option maxRecDepth 100000
set_option maxHeartbeats 1000000

theorem tmod_iff (n : Int) (t : Nat) : (n.tmod (2 ^ t) == 0) = decide (n / 2 ^ t * 2 ^ t = n) := by
  have h : n.tmod (2 ^ t) = 0 ↔ n / 2 ^ t * 2 ^ t = n := by
    rw [← Int.dvd_iff_tmod_eq_zero]
    constructor
    · intro h; exact Int.ediv_mul_cancel h
    · intro h; exact ⟨n / 2 ^ t, by rw [Int.mul_comm]; exact h.symm⟩
  by_cases h2 : n / 2 ^ t * 2 ^ t = n
  · rw [h.2 h2]; simp [h2]
  · have : ¬ n.tmod (2 ^ t) = 0 := fun q => h2 (h.1 q)
    simp [h2, this]
theorem tdiv_ok (n : Int) (t : Nat) (h : n / 2 ^ t * 2 ^ t = n) : n.tdiv (2 ^ t) = n / 2 ^ t := by
  rw [Int.tdiv_eq_ediv_of_dvd]
  exact ⟨n / 2 ^ t, by rw [Int.mul_comm]; exact h.symm⟩
theorem refInF_any (k n : Int) (m t : Nat) (hk : sgK k = true ∨ k = 3) (h1 : 1 ≤ m) (h2 : m ≤ 32) (h3 : t ≤ 3) (hn : -9223372036854775808 ≤ n ∧ n ≤ 9223372036854775807) (wo : World) :
    Calls Try.prog 50 #[.int .u8 k, .int .i64 m, .int .i64 t, .int .i64 n] wo fun e w' => e = .returned (.bool (numB (sgK k) m t n)) ∧ wo = w' := by
  have HE := Lib.hid (fun W => refEnds_any k m hk h1 h2 W)
  have HP := Lib.hid (fun W => refPower_any t (by omega) W)
  have HI := Lib.hid (fun a b W => refIn_any (n.tdiv (2 ^ t)) a b W)
  have HR := Lib.hid (show numB (sgK k) m t n = (decide (n / 2 ^ t * 2 ^ t = n) && inB (n / 2 ^ t) (lowN (sgK k) m) (highN (sgK k) m)) from rfl)
  have hq := tmod_iff n t
  have HT := Lib.hid (tdiv_ok n t)
  have b1 := pow62 t (by omega)
  obtain ⟨b11, b12⟩ := b1
  obtain ⟨n1, n2⟩ := hn
  obtain ⟨v1, v2⟩ : -9223372036854775808 ≤ n / 2 ^ t ∧ n / 2 ^ t ≤ 9223372036854775807 := by rcases pow3 t h3 with h | h | h | h <;> rw [h] <;> omega
  clear hk h1 h2
  generalize sgK k = g at *
  generalize lowN g m = lo at *
  generalize highN g m = hi at *
  generalize n / 2 ^ t = v at *
  generalize (2 : Int) ^ t = T at *
  by_cases hv : v * T = n
  · have hD := HT.out hv
    rw [hD] at HI
    simp only [hv, decide_true, Bool.true_and] at hq HR
    have HH := Lib.hid hD
    clear HT hv hD
    go_enter Try.func50, Try.ntmps50
    go_wp2_with (first
      | (go_at_call 48; (with_reducible refine (HE.out _).mono ?_); rintro e w' ⟨rfl, rfl⟩)
      | (go_at_call 49; (with_reducible refine (HP.out _).mono ?_); rintro e w' ⟨rfl, rfl⟩; have hdd := HH.out)
      | (go_at_call 46; (with_reducible refine (HI.out _ _ _).mono ?_); rintro e w' ⟨rfl, rfl⟩))
    go_ret
    exact ⟨by rw [HR.out]; rfl, rfl⟩
  · simp only [hv, decide_false, Bool.false_and] at hq HR
    clear HT hv
    go_enter Try.func50, Try.ntmps50
    go_wp2_with (first
      | (go_at_call 48; (with_reducible refine (HE.out _).mono ?_); rintro e w' ⟨rfl, rfl⟩)
      | (go_at_call 49; (with_reducible refine (HP.out _).mono ?_); rintro e w' ⟨rfl, rfl⟩))
    go_ret
    exact ⟨by rw [HR.out]; rfl, rfl⟩
theorem refRange_any (k w s : Int) (wo : World) :
    Calls Try.prog 25 #[.int .u8 k, .int .i64 w, .int .i64 s] wo fun e w' => e = .returned (.tuple #[.int .i64 (rangeR k w s).1, .int .i64 (rangeR k w s).2.1, .int .i64 (rangeR k w s).2.2]) ∧ wo = w' := by
  have HC := Lib.hid (fun W => refNumber_any k w s W)
  by_cases hk : chkK k w s = 0
  · have hr : rangeR k w s = (lowN (sgK k) w.toNat * 2 ^ s.toNat, highN (sgK k) w.toNat * 2 ^ s.toNat, 0) := by unfold rangeR; rw [if_pos hk]
    obtain ⟨⟨h1, h2⟩, h3, h4, h5⟩ := chkK_ok hk
    obtain ⟨m, rfl⟩ : ∃ m : Nat, w = m := ⟨w.toNat, by omega⟩
    obtain ⟨t, rfl⟩ : ∃ t : Nat, s = t := ⟨s.toNat, by omega⟩
    simp only [Int.toNat_natCast] at hr
    simp only [hk, decide_true] at HC
    have b1 := low_bd (sgK k) m (by omega) (by omega)
    have b2 := high_bd (sgK k) m (by omega) (by omega)
    have A1 : Hid (wrap64 (2 ^ t * lowN (sgK k) m) = lowN (sgK k) m * 2 ^ t) := Lib.hid (by rw [Int.mul_comm]; apply wrap64_small <;> rcases pow3 t (by omega) with h | h | h | h <;> rw [h] <;> omega)
    have A2 : Hid (wrap64 (2 ^ t * highN (sgK k) m) = highN (sgK k) m * 2 ^ t) := Lib.hid (by rw [Int.mul_comm]; apply wrap64_small <;> rcases pow3 t (by omega) with h | h | h | h <;> rw [h] <;> omega)
    have HS := Lib.hid (fun W => refEnds_any k m h5 (by omega) (by omega) W)
    have HP := Lib.hid (fun W => refPower_any t (by omega) W)
    rw [hr]
    clear hr hk b1 b2 h5
    generalize lowN (sgK k) m = lo at *
    generalize highN (sgK k) m = hi at *
    generalize (2 : Int) ^ t = T at *
    go_enter Try.func25, Try.ntmps25
    go_wp2_with (first
      | (go_at_call 47; (with_reducible refine (HC.out _).mono ?_); rintro e w' ⟨rfl, rfl⟩)
      | (go_at_call 48; (with_reducible refine (HS.out _).mono ?_); rintro e w' ⟨rfl, rfl⟩)
      | (go_at_call 49; (with_reducible refine (HP.out _).mono ?_); rintro e w' ⟨rfl, rfl⟩))
    refine bodyPost_ret (v := .tuple #[.int .i64 (wrap64 (T * lo)), .int .i64 (wrap64 (T * hi)), .int .i64 0]) (by simp [results, Try.results25, go_sem]) rfl ⟨by rw [A1.out, A2.out], rfl⟩
  · have hr : rangeR k w s = (0, 0, 2) := by unfold rangeR; rw [if_neg hk, chkK_two hk]
    simp only [hk, decide_false] at HC
    rw [hr]
    clear hr hk
    go_enter Try.func25, Try.ntmps25
    go_wp2_with (go_at_call 47; (with_reducible refine (HC.out _).mono ?_); rintro e w' ⟨rfl, rfl⟩)
    refine bodyPost_ret (v := .tuple #[.int .i64 0, .int .i64 0, .int .i64 2]) (by simp [results, Try.results25, go_sem]) rfl ⟨rfl, rfl⟩
theorem refField_any (k w s n : Int) (wo : World) (hn : -9223372036854775808 ≤ n ∧ n ≤ 9223372036854775807) :
    Calls Try.prog 26 #[.int .u8 k, .int .i64 w, .int .i64 s, .int .i64 n] wo fun e w' => e = .returned (.tuple #[.int .u64 ((fieldR k w s n).1 : Nat), .int .i64 (fieldR k w s n).2]) ∧ wo = w' := by
  have HC := Lib.hid (fun W => refNumber_any k w s W)
  by_cases hk : chkK k w s = 0
  · have hr : fieldR k w s n = (if numB (sgK k) w.toNat s.toNat n = true then (((n / 2 ^ s.toNat) % 2 ^ w.toNat).toNat, 0) else (0, 24)) := by unfold fieldR; rw [if_pos hk]
    obtain ⟨⟨h1, h2⟩, h3, h4, h5⟩ := chkK_ok hk
    obtain ⟨m, rfl⟩ : ∃ m : Nat, w = m := ⟨w.toNat, by omega⟩
    obtain ⟨t, rfl⟩ : ∃ t : Nat, s = t := ⟨s.toNat, by omega⟩
    simp only [Int.toNat_natCast] at hr
    simp only [hk, decide_true] at HC
    have HS := Lib.hid (fun W => refInF_any k n m t h5 (by omega) (by omega) (by omega) hn W)
    have HP := Lib.hid (fun W => refPower_any t (by omega) W)
    have HM := Lib.hid (fun W => refPower_any m (by omega) W)
    have b1 := low_bd (sgK k) m (by omega) (by omega)
    have b2 := high_bd (sgK k) m (by omega) (by omega)
    have b3 := pow32 m (by omega)
    have b4 := pow62 t (by omega)
    have hd := powDbl m (by omega)
    rw [hr]
    clear hr hk h5
    cases hq : numB (sgK k) m t n
    · rw [if_neg (by decide)]
      rw [hq] at HS
      clear hq hn b1 b2 b3 b4 hd
      go_enter Try.func26, Try.ntmps26
      go_wp2_with (first
        | (go_at_call 47; (with_reducible refine (HC.out _).mono ?_); rintro e w' ⟨rfl, rfl⟩)
        | (go_at_call 50; (with_reducible refine (HS.out _).mono ?_); rintro e w2 ⟨rfl, rfl⟩))
      go_ret2
      exact ⟨rfl, rfl⟩
    · rw [if_pos rfl]
      obtain ⟨c1, c2, c3⟩ := numB_iff.1 hq
      have hD := tdiv_ok n t c1
      rw [hq] at HS
      have hlo : -2 ^ m ≤ lowN (sgK k) m := by unfold lowN; split <;> omega
      have hhi : highN (sgK k) m < 2 ^ m := by unfold highN; split <;> omega
      have hv1 : -4294967296 ≤ n / 2 ^ t := by omega
      have hv2 : n / 2 ^ t ≤ 4294967295 := by omega
      have HD := Lib.hid hD
      have HV : Hid ((n / 2 ^ t < 0 → ((n / 2 ^ t % 2 ^ m).toNat : Int) = n / 2 ^ t + 2 ^ m) ∧ (0 ≤ n / 2 ^ t → ((n / 2 ^ t % 2 ^ m).toNat : Int) = n / 2 ^ t)) := Lib.hid (by
        generalize n / 2 ^ t = v at *
        generalize lowN (sgK k) m = lo at *
        generalize highN (sgK k) m = hi at *
        generalize (2 : Int) ^ m = P at *
        constructor
        · intro hv
          rw [emod_neg v P (by omega) hv]; omega
        · intro hv
          rw [Int.emod_eq_of_lt (by omega) (by omega)]; omega)
      have hxb : (n / 2 ^ t % 2 ^ m).toNat < 4294967296 := by
        have := Int.emod_lt_of_pos (n / 2 ^ t) (show (0 : Int) < 2 ^ m by omega)
        have := Int.emod_nonneg (n / 2 ^ t) (show (2 : Int) ^ m ≠ 0 by omega)
        omega
      have HX := Lib.hid (show IntKind.u64.wrap (((n / 2 ^ t % 2 ^ m).toNat : Nat) : Int) = (((n / 2 ^ t % 2 ^ m).toNat : Nat) : Int) by rw [IntKind.wrap_u64]; omega)
      obtain ⟨b31, b32⟩ := b3
      obtain ⟨b41, b42⟩ := b4
      obtain ⟨n1, n2⟩ := hn
      clear hq hD c1 c2 c3 hlo hhi b1 b2 hd hxb
      generalize (n / 2 ^ t % 2 ^ m).toNat = x at *
      generalize n / 2 ^ t = v at *
      generalize (2 : Int) ^ t = T at *
      generalize (2 : Int) ^ m = P at *
      by_cases hv : v < 0
      · have HV2 := Lib.hid (HV.out.1 hv)
        go_enter Try.func26, Try.ntmps26
        go_wp2_with (first
          | (go_at_call 47; (with_reducible refine (HC.out _).mono ?_); rintro e w' ⟨rfl, rfl⟩)
          | (go_at_call 49; (with_reducible refine (HP.out _).mono ?_); rintro e w' ⟨rfl, rfl⟩; have hdd := HD.out)
          | (go_at_call 49; (with_reducible refine (HM.out _).mono ?_); rintro e w' ⟨rfl, rfl⟩)
          | (go_at_call 50; (with_reducible refine (HS.out _).mono ?_); rintro e w2 ⟨rfl, rfl⟩))
        go_ret2
        exact ⟨by first | (rw [← HX.out, HV2.out]; rfl) | (rw [HV2.out]; rfl), rfl⟩
      · have HV2 := Lib.hid (HV.out.2 (by omega))
        go_enter Try.func26, Try.ntmps26
        go_wp2_with (first
          | (go_at_call 47; (with_reducible refine (HC.out _).mono ?_); rintro e w' ⟨rfl, rfl⟩)
          | (go_at_call 49; (with_reducible refine (HP.out _).mono ?_); rintro e w' ⟨rfl, rfl⟩; have hdd := HD.out)
          | (go_at_call 50; (with_reducible refine (HS.out _).mono ?_); rintro e w2 ⟨rfl, rfl⟩))
        go_ret2
        exact ⟨by first | (rw [← HX.out, HV2.out]; rfl) | (rw [HV2.out]; rfl), rfl⟩
  · have hr : fieldR k w s n = (0, 2) := by unfold fieldR; rw [if_neg hk, chkK_two hk]
    simp only [hk, decide_false] at HC
    rw [hr]
    clear hr hk hn
    go_enter Try.func26, Try.ntmps26
    go_wp2_with (go_at_call 47; (with_reducible refine (HC.out _).mono ?_); rintro e w' ⟨rfl, rfl⟩)
    go_ret2
    exact ⟨rfl, rfl⟩
theorem sg_high (w x : Nat) (h1 : 1 ≤ w) (h2 : w ≤ 32) (hx : x < 2 ^ w) (g : Bool) :
    (if g = true then sg w x else (x : Int)) = if (x : Int) ≤ highN g w then (x : Int) else (x : Int) - 2 ^ w := by
  have hd := powDbl w h1
  have hH := castPow (w - 1)
  have hP := castPow w
  unfold sg highN
  cases g
  · simp; omega
  · simp only [if_true]
    by_cases h : x < 2 ^ (w - 1)
    · rw [if_pos h, if_pos (by omega)]
    · rw [if_neg h, if_neg (by omega)]
theorem refNumberF_any (k w s : Int) (x : Nat) (wo : World) (hx : x < 18446744073709551616) :
    Calls Try.prog 27 #[.int .u8 k, .int .i64 w, .int .i64 s, .int .u64 x] wo fun e w' => e = .returned (.tuple #[.int .i64 (numberR k w s x).1, .int .i64 (numberR k w s x).2]) ∧ wo = w' := by
  have HC := Lib.hid (fun W => refNumber_any k w s W)
  by_cases hk : chkK k w s = 0
  · have hr : numberR k w s x = (if okB w.toNat x = true then ((if sgK k = true then sg w.toNat x else x) * 2 ^ s.toNat, 0) else (0, 24)) := by unfold numberR; rw [if_pos hk]
    obtain ⟨⟨h1, h2⟩, h3, h4, h5⟩ := chkK_ok hk
    obtain ⟨m, rfl⟩ : ∃ m : Nat, w = m := ⟨w.toNat, by omega⟩
    obtain ⟨t, rfl⟩ : ∃ t : Nat, s = t := ⟨s.toNat, by omega⟩
    simp only [Int.toNat_natCast] at hr
    simp only [hk, decide_true] at HC
    have HB := Lib.hid (fun W => refBelow9_any x m (by omega) hx W)
    have HE := Lib.hid (fun W => refEnds_any k m h5 (by omega) (by omega) W)
    have HP := Lib.hid (fun W => refPower_any t (by omega) W)
    have HM := Lib.hid (fun W => refPower_any m (by omega) W)
    rw [hr]
    clear hr hk h5
    cases hq : okB m x
    · rw [if_neg (by decide)]
      rw [hq] at HB
      clear hq hx
      go_enter Try.func27, Try.ntmps27
      go_wp2_with (first
        | (go_at_call 47; (with_reducible refine (HC.out _).mono ?_); rintro e w' ⟨rfl, rfl⟩)
        | (go_at_call 44; (with_reducible refine (HB.out _).mono ?_); rintro e w2 ⟨rfl, rfl⟩))
      go_ret2
      exact ⟨rfl, rfl⟩
    · rw [if_pos rfl]
      rw [hq] at HB
      have hx1 := (okB_iff m x).1 hq
      have hsg := sg_high m x (by omega) (by omega) hx1 (sgK k)
      have hp := pow32 m (by omega)
      have hx2 : (x : Int) < 2 ^ m := by have := castPow m; omega
      obtain ⟨hb1, hb2, _⟩ := field_sg (sgK k) m x (by omega) (by omega) hx1
      have l1 := low_bd (sgK k) m (by omega) (by omega)
      have l2 := high_bd (sgK k) m (by omega) (by omega)
      have T1 : 1 ≤ (2 : Int) ^ t ∧ (2 : Int) ^ t ≤ 8 := by rcases pow3 t (by omega) with h | h | h | h <;> rw [h] <;> omega
      have HW : Hid (wrap64 ((if sgK k = true then sg m x else (x : Int)) * 2 ^ t) = (if sgK k = true then sg m x else (x : Int)) * 2 ^ t) := Lib.hid (by
        generalize (if sgK k = true then sg m x else (x : Int)) = v at *
        apply wrap64_small <;> rcases pow3 t (by omega) with h | h | h | h <;> rw [h] <;> omega)
      obtain ⟨X, hX⟩ : ∃ X : Int, (x : Int) = X := ⟨_, rfl⟩
      have hX1 : 0 ≤ X := by omega
      have hX2 : X ≤ 4294967296 := by omega
      obtain ⟨hp1, hp2⟩ := hp
      obtain ⟨l21, l22⟩ := l2
      clear hq hb1 hb2 l1 T1 hx hx1 hx2
      rw [hX] at HB hsg HW ⊢
      generalize highN (sgK k) m = hi at *
      generalize lowN (sgK k) m = lo at *
      generalize (if sgK k = true then sg m x else X) = v at *
      generalize (2 : Int) ^ t = T at *
      generalize (2 : Int) ^ m = P at *
      clear hX
      by_cases hle : X ≤ hi
      · rw [if_pos hle] at hsg
        subst hsg
        go_enter Try.func27, Try.ntmps27
        go_wp2_with (first
          | (go_at_call 47; (with_reducible refine (HC.out _).mono ?_); rintro e w' ⟨rfl, rfl⟩)
          | (go_at_call 44; (with_reducible refine (HB.out _).mono ?_); rintro e w2 ⟨rfl, rfl⟩)
          | (go_at_call 48; (with_reducible refine (HE.out _).mono ?_); rintro e w' ⟨rfl, rfl⟩)
          | (go_at_call 49; (with_reducible refine (HP.out _).mono ?_); rintro e w' ⟨rfl, rfl⟩))
        go_ret2
        exact ⟨by simp only [HW.out]; rfl, rfl⟩
      · rw [if_neg hle] at hsg
        have HG := Lib.hid hsg
        clear hsg
        go_enter Try.func27, Try.ntmps27
        go_wp2_with (first
          | (go_at_call 47; (with_reducible refine (HC.out _).mono ?_); rintro e w' ⟨rfl, rfl⟩)
          | (go_at_call 44; (with_reducible refine (HB.out _).mono ?_); rintro e w2 ⟨rfl, rfl⟩)
          | (go_at_call 48; (with_reducible refine (HE.out _).mono ?_); rintro e w' ⟨rfl, rfl⟩)
          | (go_at_call 49; (with_reducible refine (HP.out _).mono ?_); rintro e w' ⟨rfl, rfl⟩)
          | (go_at_call 49; (with_reducible refine (HM.out _).mono ?_); rintro e w' ⟨rfl, rfl⟩))
        go_ret2
        exact ⟨by have hw := HW.out; rw [HG.out] at hw; simp only [HG.out, hw]; rfl, rfl⟩
  · have hr : numberR k w s x = (0, 2) := by unfold numberR; rw [if_neg hk, chkK_two hk]
    simp only [hk, decide_false] at HC
    rw [hr]
    clear hr hk hx
    go_enter Try.func27, Try.ntmps27
    go_wp2_with (go_at_call 47; (with_reducible refine (HC.out _).mono ?_); rintro e w' ⟨rfl, rfl⟩)
    go_ret2
    exact ⟨rfl, rfl⟩
theorem chk_one (k s : Int) : chkK k 1 s = chkK k 32 s := by unfold chkK inB; simp
def RFitPost (k s n : Int) (wo : World) (e : Ending) (w' : World) : Prop := ∃ z f : Int, e = .returned (.tuple #[.int .i64 z, .int .i64 f]) ∧ FitP k s n z f ∧ wo = w'
theorem refFit_any (k s n : Int) (wo : World) (hn : -9223372036854775808 ≤ n ∧ n ≤ 9223372036854775807) :
    Calls Try.prog 28 #[.int .u8 k, .int .i64 s, .int .i64 n] wo (RFitPost k s n wo) := by
  have HC := Lib.hid (fun W => refNumber_any k 1 s W)
  rw [chk_one] at HC
  by_cases hk : chkK k 32 s = 0
  · obtain ⟨_, h3, h4, h5⟩ := chkK_ok hk
    have HK := Lib.hid hk
    simp only [hk, decide_true] at HC
    obtain ⟨t, rfl⟩ : ∃ t : Nat, s = t := ⟨s.toNat, by omega⟩
    have HS := Lib.hid (fun (m : Nat) (a : 1 ≤ m) (b : m ≤ 32) W => refInF_any k n m t h5 a b (by omega) hn W)
    have HP := Lib.hid (show ∀ z f, FitP k t n z f → RFitPost k t n wo (.returned (.tuple #[.int .i64 z, .int .i64 f])) wo from fun z f a => ⟨z, f, rfl, a, rfl⟩)
    generalize RFitPost k t n wo = PP at *
    clear hk hn h5
    go_enter Try.func28, Try.ntmps28
    go_wp2_with (go_at_call 47; (with_reducible refine (HC.out _).mono ?_); rintro e w' ⟨rfl, rfl⟩)
    go_loop [8] (fun v => ∃ i : Nat, v = .int .i64 i ∧ 1 ≤ i ∧ i ≤ 33 ∧ Hid (∀ v, 1 ≤ v → v < i → numB (sgK k) v t n = false)) (fun v => 33 - (intOf v).toNat)
    case atStart => exact ⟨1, rfl, Nat.le_refl _, by omega, Lib.hid (fun v a b => by omega)⟩
    case round =>
      obtain ⟨i, rfl, hi, hi2, HI⟩ := hrel
      by_cases hlt : i ≤ 32
      · have HS2 := Lib.hid (HS.out i hi hlt)
        cases hq : numB (sgK k) i t n
        · rw [hq] at HS2
          have HQ := Lib.hid hq
          clear hq
          go_wp2_with (go_at_call 50; (with_reducible refine (HS2.out _).mono ?_); rintro e w2 ⟨rfl, rfl⟩)
          go_round
          case rel =>
            refine ⟨i + 1, by first | rfl | go_num | (congr 1), by omega, by omega, Lib.hid (fun v a b => ?_)⟩
            by_cases e : v = i
            · subst e; exact HQ.out
            · exact HI.out v a (by omega)
          case measure => simp only [intOf]; omega
        · rw [hq] at HS2
          have HQ := Lib.hid hq
          clear hq
          go_wp2_with (go_at_call 50; (with_reducible refine (HS2.out _).mono ?_); rintro e w2 ⟨rfl, rfl⟩)
          exact HP.out i 0 (.inr (.inl ⟨HK.out, i, hi, hlt, rfl, rfl, by simpa using HQ.out, by simpa using HI.out⟩))
      · obtain rfl : i = 33 := by omega
        go_wp2
        exact HP.out 0 24 (.inr (.inr ⟨HK.out, rfl, rfl, fun v a b => by simpa using HI.out v a (by omega)⟩))
  · have h2 := chkK_two hk
    have HP := Lib.hid (show RFitPost k s n wo (.returned (.tuple #[.int .i64 0, .int .i64 2])) wo from ⟨0, 2, rfl, .inl ⟨hk, rfl, h2.symm⟩, rfl⟩)
    simp only [hk, decide_false] at HC
    generalize RFitPost k s n wo = PP at *
    clear hk h2
    go_enter Try.func28, Try.ntmps28
    go_wp2_with (go_at_call 47; (with_reducible refine (HC.out _).mono ?_); rintro e w' ⟨rfl, rfl⟩)
    exact HP.out
end Go.Proofs.Ytjbapjgagiaefaa
