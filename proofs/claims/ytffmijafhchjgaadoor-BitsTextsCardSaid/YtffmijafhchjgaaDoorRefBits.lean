/- Contracts of the reference's small functions: Power, Bit, Wide; lists of bits and what they own. -/
import Derived.Test.YtffmijafhchjgaaDoorBitsCalls
namespace Go.Proofs.YtffmijafhchjgaaDoor
open Go.RowKit Go.Sort
set_option linter.unusedVariables false
set_option linter.unusedSimpArgs false

/-- Bit j of x. -/
def bt (x j : Nat) : Nat := x / 2 ^ j % 2
def pw (n : Nat) : Nat := 2 ^ n

theorem wide_yes (n : Int) (w : World) (h0 : 1 ≤ n) (h1 : n ≤ 64) :
    Calls Tryd.prog 19 #[.int .i64 n] w fun e w' => e = .returned (.bool true) ∧ w = w' := by
  go_enter Tryd.func19, Tryd.ntmps19
  go_wp2
  go_ret
  exact ⟨rfl, rfl⟩
theorem wide_no (n : Int) (w : World) (h : n < 1 ∨ 64 < n) :
    Calls Tryd.prog 19 #[.int .i64 n] w fun e w' => e = .returned (.bool false) ∧ w = w' := by
  rcases h with h | h
  · go_enter Tryd.func19, Tryd.ntmps19
    go_wp2
    go_ret
    exact ⟨rfl, rfl⟩
  · have h' : (1 : Int) ≤ n := by omega
    have h2 : decide (n ≤ 64) = false := by simp; omega
    go_enter Tryd.func19, Tryd.ntmps19
    go_wp2
    go_ret
    exact ⟨rfl, rfl⟩

theorem power_any (n : Nat) (w : World) (h : n ≤ 63) :
    Calls Tryd.prog 34 #[.int .i64 n] w fun e w' => e = .returned (.int .u64 (pw n : Nat)) ∧ w = w' := by
  go_enter Tryd.func34, Tryd.ntmps34
  go_wp2
  go_loop [3, 4] (fun x i => ∃ k : Nat, k ≤ n ∧ i = .int .i64 k ∧ x = .int .u64 (pw k : Nat)) (fun _ i => n - (intOf i).toNat)
  case atStart => exact ⟨0, Nat.zero_le _, rfl, rfl⟩
  case round =>
    obtain ⟨k, hk, rfl, rfl⟩ := hrel
    by_cases hlt : k < n
    · have hp : IntKind.u64.wrap ((pw k : Int) + (pw k : Int)) = ((pw (k + 1) : Nat) : Int) := by
        have h1 : pw (k + 1) = pw k + pw k := by unfold pw; rw [Nat.pow_succ]; omega
        have h2 : pw (k + 1) ≤ 9223372036854775808 := by
          have := Nat.pow_le_pow_right (n := 2) (by decide) (show k + 1 ≤ 63 by omega)
          simpa [pw] using this
        rw [IntKind.wrap_u64, h1]; omega
      have HP := Lib.hid hp
      clear hp
      go_wp2
      go_round
      case rel => exact ⟨k + 1, by omega, by go_num, by rw [← HP.out]⟩
      case measure => simp [intOf]; omega
    · obtain rfl : k = n := by omega
      go_wp2
      go_ret
      exact ⟨rfl, rfl⟩

theorem bt_cases (x j : Nat) : bt x j = 0 ∨ bt x j = 1 := by unfold bt; omega
end Go.Proofs.YtffmijafhchjgaaDoor
