/- Contracts of the reference's Wide, Power and Ok alone. -/
import Derived.Test.YtmbogdimjbhbmaaBitsBase
import Derived.Test.YtmbogdimjbhbmaaBlastBefore
namespace Go.Proofs.Ytmbogdimjbhbmaa
open Go.RowKit Go.Sort
set_option linter.unusedVariables false
set_option linter.unusedSimpArgs false

def pw (n : Nat) : Nat := 2 ^ n

theorem wide_yes (n : Int) (w : World) (h0 : 1 ≤ n) (h1 : n ≤ 64) :
    Calls Try.prog 41 #[.int .i64 n] w fun e w' => e = .returned (.bool true) ∧ w = w' := by
  go_enter Try.func41, Try.ntmps41
  go_wp2
  go_ret
  exact ⟨rfl, rfl⟩
theorem wide_no (n : Int) (w : World) (h : n < 1 ∨ 64 < n) :
    Calls Try.prog 41 #[.int .i64 n] w fun e w' => e = .returned (.bool false) ∧ w = w' := by
  rcases h with h | h
  · go_enter Try.func41, Try.ntmps41
    go_wp2
    go_ret
    exact ⟨rfl, rfl⟩
  · have h' : (1 : Int) ≤ n := by omega
    have h2 : decide (n ≤ 64) = false := by simp; omega
    go_enter Try.func41, Try.ntmps41
    go_wp2
    go_ret
    exact ⟨rfl, rfl⟩

theorem power_any (n : Nat) (w : World) (h : n ≤ 63) :
    Calls Try.prog 42 #[.int .i64 n] w fun e w' => e = .returned (.int .u64 (pw n : Nat)) ∧ w = w' := by
  go_enter Try.func42, Try.ntmps42
  go_wp2
  go_loop [3, 4] (fun x i => ∃ k : Nat, k ≤ n ∧ i = .int .i64 k ∧ x = .int .u64 (pw k : Nat)) (fun _ i => n - (intOf i).toNat)
  case atStart => exact ⟨0, Nat.zero_le _, rfl, rfl⟩
  case round =>
    obtain ⟨k, hk, rfl, rfl⟩ := hrel
    by_cases hlt : k < n
    · have hp : IntKind.u64.wrap ((pw k : Int) + (pw k : Int)) = ((pw (k + 1) : Nat) : Int) := by
        have h1 : pw (k + 1) = pw k + pw k := by unfold pw; rw [Nat.pow_succ]; omega
        have h2 : pw (k + 1) ≤ 9223372036854775808 := by
          have := Nat.pow_le_pow_right (n := 2) (by decide) (show k + 1 ≤ 63 by omega)
          simpa [pw] using this
        rw [IntKind.wrap_u64, h1]; omega
      have HP := Lib.hid hp
      clear hp
      go_wp2
      go_round
      case rel => exact ⟨k + 1, by omega, by go_num, by rw [← HP.out]⟩
      case measure => simp [intOf]; omega
    · obtain rfl : k = n := by omega
      go_wp2
      go_ret
      exact ⟨rfl, rfl⟩

theorem refOk_yes (n x : Nat) (w : World) (h0 : 1 ≤ n) (h1 : n ≤ 64) (hx : x < 18446744073709551616) :
    Calls Try.prog 32 #[.int .i64 n, .int .u64 x] w fun e w' => e = .returned (.bool (okB n x)) ∧ w = w' := by
  by_cases h : n = 64
  · subst h
    have E : okB 64 x = true := (okB_iff _ _).2 hx
    rw [E]
    clear hx E
    go_enter Try.func32, Try.ntmps32
    go_wp2_with (go_at_call 41; refine (wide_yes _ _ (by omega) (by omega)).mono ?_; rintro e w' ⟨rfl, rfl⟩)
    go_ret
    exact ⟨rfl, rfl⟩
  · have hne : ((n : Int) == 64) = false := by simp; omega
    have E := Lib.hid (show okB n x = decide (x < pw n) from rfl)
    clear hx
    go_enter Try.func32, Try.ntmps32
    go_wp2_with (first
      | (go_at_call 41; refine (wide_yes _ _ (by omega) (by omega)).mono ?_; rintro e w' ⟨rfl, rfl⟩)
      | (go_at_call 42; refine (power_any n _ (by omega)).mono ?_; rintro e w' ⟨rfl, rfl⟩))
    go_ret
    refine ⟨?_, rfl⟩
    rw [E.out]
    rfl
theorem refOk_no (n : Int) (x : Nat) (w : World) (h : n < 1 ∨ 64 < n) :
    Calls Try.prog 32 #[.int .i64 n, .int .u64 x] w fun e w' => e = .returned (.bool false) ∧ w = w' := by
  go_enter Try.func32, Try.ntmps32
  go_wp2_with (go_at_call 41; refine (wide_no _ _ h).mono ?_; rintro e w' ⟨rfl, rfl⟩)
  go_ret
  exact ⟨rfl, rfl⟩

end Go.Proofs.Ytmbogdimjbhbmaa
