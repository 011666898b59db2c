/- Contracts of the reference's Ok, Mask, Signed and Of. -/
import Derived.Test.YtdllophjfiebiaaRefLists
namespace Go.Proofs.Ytdllophjfiebiaa
open Go.RowKit Go.Sort
set_option linter.unusedVariables false
set_option linter.unusedSimpArgs false

theorem refOk_yes (n x : Nat) (w : World) (h0 : 1 ≤ n) (h1 : n ≤ 64) (hx : x < 18446744073709551616) :
    Calls Try.prog 14 #[.int .i64 n, .int .u64 x] w fun e w' => e = .returned (.bool (okB n x)) ∧ w = w' := by
  by_cases h : n = 64
  · subst h
    have E : okB 64 x = true := (okB_iff _ _).2 hx
    rw [E]
    clear hx E
    go_enter Try.func14, Try.ntmps14
    go_wp2_with (go_at_call 24; refine (wide_yes _ _ (by omega) (by omega)).mono ?_; rintro e w' ⟨rfl, rfl⟩)
    go_ret
    exact ⟨rfl, rfl⟩
  · have hne : ((n : Int) == 64) = false := by simp; omega
    have E := Lib.hid (show okB n x = decide (x < pw n) from rfl)
    clear hx
    go_enter Try.func14, Try.ntmps14
    go_wp2_with (first
      | (go_at_call 24; refine (wide_yes _ _ (by omega) (by omega)).mono ?_; rintro e w' ⟨rfl, rfl⟩)
      | (go_at_call 39; refine (power_any n _ (by omega)).mono ?_; rintro e w' ⟨rfl, rfl⟩))
    go_ret
    refine ⟨?_, rfl⟩
    rw [E.out]
    rfl
theorem refOk_no (n : Int) (x : Nat) (w : World) (h : n < 1 ∨ 64 < n) :
    Calls Try.prog 14 #[.int .i64 n, .int .u64 x] w fun e w' => e = .returned (.bool false) ∧ w = w' := by
  go_enter Try.func14, Try.ntmps14
  go_wp2_with (go_at_call 24; refine (wide_no _ _ h).mono ?_; rintro e w' ⟨rfl, rfl⟩)
  go_ret
  exact ⟨rfl, rfl⟩

theorem mk_half (n : Nat) (h0 : 1 ≤ n) (h1 : n ≤ 64) : IntKind.u64.wrap (IntKind.u64.wrap ((pw (n - 1) : Nat) : Int) - 1 + ((pw (n - 1) : Nat) : Int)) = ((mk n : Nat) : Int) ∧ IntKind.u64.wrap (((pw (n - 1) : Nat) : Int) - 1) = ((pw (n - 1) - 1 : Nat) : Int) ∧ IntKind.u64.wrap (((pw (n - 1) - 1 : Nat) : Int) + ((pw (n - 1) : Nat) : Int)) = ((mk n : Nat) : Int) := by
  have hh := pow_half n h0
  have hm := mk_succ n
  have hl := mk_lt n h1
  have hp := pow_pos' (n - 1)
  unfold pw
  rw [IntKind.wrap_u64, IntKind.wrap_u64, IntKind.wrap_u64, IntKind.wrap_u64]
  generalize 2 ^ (n - 1) = p at *
  omega
theorem refMask_yes (n : Nat) (w : World) (h0 : 1 ≤ n) (h1 : n ≤ 64) :
    Calls Try.prog 16 #[.int .i64 n] w fun e w' => e = .returned (.int .u64 (mk n : Nat)) ∧ w = w' := by
  have hm := mk_half n h0 h1
  have H1 := Lib.hid hm.2.1
  have H2 := Lib.hid hm.2.2
  have HP := fun W => Lib.hid (power_any (n - 1) W (by omega))
  have e : ((n - 1 : Nat) : Int) = (n : Int) - 1 := by omega
  rw [e] at HP
  clear hm e
  go_enter Try.func16, Try.ntmps16
  go_wp2_with (first
    | (go_at_call 24; refine (wide_yes _ _ (by omega) (by omega)).mono ?_; rintro e w' ⟨rfl, rfl⟩)
    | (go_at_call 39; refine (HP _).out.mono ?_; rintro e w' ⟨rfl, rfl⟩))
  go_ret
  refine ⟨?_, rfl⟩
  show Ending.returned (.int .u64 (IntKind.u64.wrap (IntKind.u64.wrap _ + _))) = _
  rw [H1.out, H2.out]
theorem refMask_no (n : Int) (w : World) (h : n < 1 ∨ 64 < n) :
    Calls Try.prog 16 #[.int .i64 n] w fun e w' => e = .returned (.int .u64 0) ∧ w = w' := by
  go_enter Try.func16, Try.ntmps16
  go_wp2_with (go_at_call 24; refine (wide_no _ _ h).mono ?_; rintro e w' ⟨rfl, rfl⟩)
  go_ret
  exact ⟨rfl, rfl⟩

theorem bt_top (n x : Nat) (h0 : 1 ≤ n) (hx : x < 2 ^ n) : (bt x (n - 1) = 0 ∧ sg n x = x) ∨ (bt x (n - 1) = 1 ∧ sg n x = (x : Int) - 2 ^ n) := by
  have hh := pow_half n h0
  have hp := pow_pos' (n - 1)
  unfold bt sg
  generalize 2 ^ (n - 1) = p at *
  by_cases h : x < p
  · left; rw [if_pos h, Nat.div_eq_of_lt h]; exact ⟨rfl, rfl⟩
  · right
    rw [if_neg h, show x / p = 1 from Nat.div_eq_of_lt_le (by omega) (by omega)]; exact ⟨rfl, rfl⟩

theorem refSigned_any (n : Int) (x : Nat) (w : World) (hx : x < 18446744073709551616) :
    Calls Try.prog 10 #[.int .i64 n, .int .u64 x] w fun e w' => e = .returned (.tuple #[.int .i64 (sgR n x).1, .int .i64 (sgR n x).2]) ∧ w = w' := by
  by_cases h : n < 1 ∨ 64 < n
  · rw [show sgR n x = (0, 14) by unfold sgR; rw [if_pos h]]
    have H := Lib.hid h
    clear h hx
    go_enter Try.func10, Try.ntmps10
    go_wp2_with (go_at_call 24; refine (wide_no _ _ H.out).mono ?_; rintro e w' ⟨rfl, rfl⟩)
    go_ret2
    exact ⟨rfl, rfl⟩
  · obtain ⟨m, rfl⟩ : ∃ m : Nat, n = m := ⟨n.toNat, by omega⟩
    have h0 : 1 ≤ m := by omega
    have h1 : m ≤ 64 := by omega
    have HO := fun W => refOk_yes m x W h0 h1 hx
    by_cases hxm : x < 2 ^ m
    · rw [show sgR m x = (sg m x, 0) by unfold sgR; rw [if_neg h, Int.toNat_natCast, if_neg (by unfold chk1; rw [if_pos ((okB_iff _ _).2 hxm)]; decide)]]
      rw [(okB_iff _ _).2 hxm] at HO
      have HO := fun W => Lib.hid (HO W)
      have HBt := fun W => bit_at x (m - 1) W (by omega) hx
      have e : ((m - 1 : Nat) : Int) = (m : Int) - 1 := by omega
      rw [e] at HBt
      have ht := bt_top m x h0 hxm
      have hh := pow_half m h0
      have hpl := pow_le m h1
      have hmk := mk_succ m
      rcases ht with ⟨hb, hs⟩ | ⟨hb, hs⟩
      · rw [hb] at HBt
        have HBt := fun W => Lib.hid (HBt W)
        have hlt : x < 2 ^ (m - 1) := by
          unfold sg at hs
          by_cases hl : x < 2 ^ (m - 1)
          · exact hl
          · rw [if_neg hl] at hs
            have : ((2 : Int) ^ m) = ((2 ^ m : Nat) : Int) := by simp
            have := pow_pos' m
            omega
        have HW := Lib.hid (show wrap64 (x : Int) = sg m x by rw [hs]; unfold wrap64; omega)
        clear h hx hxm hb hs hh hpl hmk e hlt
        go_enter Try.func10, Try.ntmps10
        go_wp2_with (first
          | (go_at_call 24; refine (wide_yes _ _ (by omega) (by omega)).mono ?_; rintro e w' ⟨rfl, rfl⟩)
          | (go_at_call 14; refine (HO _).out.mono ?_; rintro e w' ⟨rfl, rfl⟩)
          | (go_at_call 38; refine (HBt _).out.mono ?_; rintro e w' ⟨rfl, rfl⟩))
        go_ret2
        refine ⟨?_, rfl⟩
        show Ending.returned (.tuple #[.int .i64 _, _]) = _
        rw [HW.out]
        rfl
      · rw [hb] at HBt
        have HBt := fun W => Lib.hid (HBt W)
        have hge : ¬ x < 2 ^ (m - 1) := by
          intro hl
          unfold sg at hs
          rw [if_pos hl] at hs
          have : ((2 : Int) ^ m) = ((2 ^ m : Nat) : Int) := by simp
          have := pow_pos' m
          omega
        have e2 : ((2 : Int) ^ m) = ((2 ^ m : Nat) : Int) := by simp
        have HW := Lib.hid (show wrap64 (IntKind.u64.wrap (((mk m : Nat) : Int) - x)) = ((mk m - x : Nat) : Int) by rw [IntKind.wrap_u64]; unfold wrap64; omega)
        have HV := Lib.hid (show wrap64 (wrap64 (-((mk m - x : Nat) : Int)) - 1) = sg m x by rw [hs, e2]; unfold wrap64; omega)
        have HV2 := Lib.hid (show wrap64 (-((mk m - x : Nat) : Int)) = -((mk m - x : Nat) : Int) by unfold wrap64; omega)
        clear h hx hxm hb hs hh hpl hmk e hge e2
        go_enter Try.func10, Try.ntmps10
        go_wp2_with (first
          | (go_at_call 24; refine (wide_yes _ _ (by omega) (by omega)).mono ?_; rintro e w' ⟨rfl, rfl⟩)
          | (go_at_call 14; refine (HO _).out.mono ?_; rintro e w' ⟨rfl, rfl⟩)
          | (go_at_call 16; refine (refMask_yes _ _ h0 h1).mono ?_; rintro e w' ⟨rfl, rfl⟩)
          | (go_at_call 38; refine (HBt _).out.mono ?_; rintro e w' ⟨rfl, rfl⟩))
        go_ret2
        refine ⟨?_, rfl⟩
        show Ending.returned (.tuple #[.int .i64 (wrap64 (wrap64 (-(wrap64 _)) - 1)), _]) = _
        rw [HW.out, HV.out]
        rfl
    · rw [show sgR m x = (0, 8) by unfold sgR; rw [if_neg h, Int.toNat_natCast, if_pos (by unfold chk1; rw [if_neg (by simp [okB]; omega)])]]
      rw [show okB m x = false by simp [okB]; omega] at HO
      have HO := fun W => Lib.hid (HO W)
      clear h hx hxm
      go_enter Try.func10, Try.ntmps10
      go_wp2_with (first
        | (go_at_call 24; refine (wide_yes _ _ (by omega) (by omega)).mono ?_; rintro e w' ⟨rfl, rfl⟩)
        | (go_at_call 14; refine (HO _).out.mono ?_; rintro e w' ⟨rfl, rfl⟩))
      go_ret2
      exact ⟨rfl, rfl⟩
end Go.Proofs.Ytdllophjfiebiaa
