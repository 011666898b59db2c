/- Contracts of the reference's Of, Extract, Concat and Extend, for all arguments. -/
import Derived.Test.YtdllophjfiebiaaRefMath
import Derived.Test.YtdllophjfiebiaaBitsExtend
namespace Go.Proofs.Ytdllophjfiebiaa
open Go.RowKit Go.Sort
set_option linter.unusedVariables false
set_option linter.unusedSimpArgs false

theorem refOf_any (n : Int) (z : Int) (w : World) (hz0 : -9223372036854775808 ≤ z) (hz1 : z ≤ 9223372036854775807) :
    Calls Try.prog 12 #[.int .i64 n, .int .i64 z] w fun e w' => e = .returned (.tuple #[.int .u64 (ofR n z).1, .int .i64 (ofR n z).2]) ∧ w = w' := by
  by_cases h : n < 1 ∨ 64 < n
  · rw [show ofR n z = (0, 14) by unfold ofR; rw [if_pos h]]
    have H := Lib.hid h
    clear h hz0 hz1
    go_enter Try.func12, Try.ntmps12
    go_wp2_with (go_at_call 24; refine (wide_no _ _ H.out).mono ?_; rintro e w' ⟨rfl, rfl⟩)
    go_ret2
    exact ⟨rfl, rfl⟩
  · obtain ⟨m, rfl⟩ : ∃ m : Nat, n = m := ⟨n.toNat, by omega⟩
    have h0 : 1 ≤ m := by omega
    have h1 : m ≤ 64 := by omega
    have HP := fun W => power_any (m - 1) W (by omega)
    rw [show ((m - 1 : Nat) : Int) = (m : Int) - 1 by omega] at HP
    have HP := Lib.hid HP
    have hin := ofR_in m z h0 h1
    have hout := ofR_out m z h0 h1
    have hpl : pw (m - 1) ≤ 9223372036854775808 := by
      have := Nat.pow_le_pow_right (n := 2) (by decide) (show m - 1 ≤ 63 by omega)
      simpa [pw] using this
    have hmk : 2 * pw (m - 1) = mk m + 1 := by rw [mk_succ]; exact (pow_half m h0).symm
    have hml := mk_lt m h1
    have HM := fun W => Lib.hid (refMask_yes m W h0 h1)
    generalize pw (m - 1) = p at *
    by_cases hs : 0 ≤ z
    · obtain ⟨y, rfl⟩ : ∃ y : Nat, z = y := ⟨z.toNat, by omega⟩
      have hc : IntKind.u64.wrap (y : Int) = (y : Int) := by rw [IntKind.wrap_u64]; omega
      by_cases hy : p ≤ y
      · rw [hout (by omega)]
        clear h hin hout hpl hmk hml
        go_enter Try.func12, Try.ntmps12
        go_wp2_with (first
          | (go_at_call 24; refine (wide_yes _ _ (by omega) (by omega)).mono ?_; rintro e w' ⟨rfl, rfl⟩)
          | (go_at_call 39; refine (HP.out _).mono ?_; rintro e w' ⟨rfl, rfl⟩))
        go_ret2
        exact ⟨rfl, rfl⟩
      · have E := hin (by omega) (by omega)
        rw [if_pos hs, Int.toNat_natCast] at E
        rw [E]
        clear h hin hout hpl hmk hml E
        go_enter Try.func12, Try.ntmps12
        go_wp2_with (first
          | (go_at_call 24; refine (wide_yes _ _ (by omega) (by omega)).mono ?_; rintro e w' ⟨rfl, rfl⟩)
          | (go_at_call 39; refine (HP.out _).mono ?_; rintro e w' ⟨rfl, rfl⟩))
        go_ret2
        exact ⟨rfl, rfl⟩
    · obtain ⟨y, hy0⟩ : ∃ y : Nat, -(z + 1) = (y : Int) := ⟨(-(z + 1)).toNat, by omega⟩
      have e3 : IntKind.u64.wrap (y : Int) = (y : Int) := by rw [IntKind.wrap_u64]; omega
      have tz : decide (0 ≤ z) = false := by simp; omega
      have hzn : z < 0 := by omega
      by_cases hy : p ≤ y
      · rw [hout (by omega)]
        clear h hin hout hpl hmk hml
        go_enter Try.func12, Try.ntmps12
        go_wp2_with (first
          | (go_at_call 24; refine (wide_yes _ _ (by omega) (by omega)).mono ?_; rintro e w' ⟨rfl, rfl⟩)
          | (go_at_call 39; refine (HP.out _).mono ?_; rintro e w' ⟨rfl, rfl⟩))
        go_ret2
        exact ⟨rfl, rfl⟩
      · have E := hin (by omega) (by omega)
        rw [if_neg hs] at E
        rw [E, hy0, Int.toNat_natCast]
        have HV := Lib.hid (show IntKind.u64.wrap (((mk m : Nat) : Int) - (y : Int)) = ((mk m - y : Nat) : Int) by rw [IntKind.wrap_u64]; omega)
        generalize hv : mk m - y = v at *
        clear h hin hout hpl hmk hml E hv
        go_enter Try.func12, Try.ntmps12
        go_wp2_with (first
          | (go_at_call 24; refine (wide_yes _ _ (by omega) (by omega)).mono ?_; rintro e w' ⟨rfl, rfl⟩)
          | (go_at_call 39; refine (HP.out _).mono ?_; rintro e w' ⟨rfl, rfl⟩)
          | (go_at_call 16; refine (HM _).out.mono ?_; rintro e w' ⟨rfl, rfl⟩))
        go_ret2
        refine ⟨?_, rfl⟩
        show Ending.returned (.tuple #[.int .u64 (IntKind.u64.wrap _), _]) = _
        rw [HV.out]
        rfl
end Go.Proofs.Ytdllophjfiebiaa
