import Derived.Test.YtdmadnfadgggcaaGreatDoorGa
import Derived.Test.YtdmadnfadgggcaaGreatDoorGd
set_option linter.unusedVariables false
set_option linter.unusedSimpArgs false
set_option warningAsError false
open Go.Lib (hid)
open Go.Proofs.Tryz (prog)
namespace Go.Proofs.YtdmadnfadgggcaaGreatDoor
open Go.RowKit Go.Sort
def pw (n : Nat) : Nat := 2 ^ n
theorem z8i (n : Int) (w : World) (h0 : 1 <= n) (h1 : n <= 64) :
 Calls prog 179 #[.int .i64 n] w fun e w' => e = .returned (.bool true) /\ w = w' := by
 go_enter Tryz.func179, Tryz.ntmps179
 go_wp2
 go_ret
 exact ⟨rfl, rfl⟩
theorem zez (n : Int) (w : World) (h : n < 1 ∨ 64 < n) :
 Calls prog 179 #[.int .i64 n] w fun e w' => e = .returned (.bool false) /\ w = w' := by
 rcases h with h | h
 ·go_enter Tryz.func179, Tryz.ntmps179
  go_wp2
  go_ret
  exact ⟨rfl, rfl⟩
 ·have h' : (1 : Int) <= n := by omega
  have h2 : decide (n <= 64) = false := by simp; omega
  go_enter Tryz.func179, Tryz.ntmps179
  go_wp2
  go_ret
  exact ⟨rfl, rfl⟩
theorem zen (n : Nat) (w : World) (h : n <= 63) :
 Calls prog 188 #[.int .i64 n] w fun e w' => e = .returned (.int .u64 (pw n : Nat)) /\ w = w' := by
 go_enter Tryz.func188, Tryz.ntmps188
 go_wp2
 go_loop [3, 4] (fun x i => ∃ k : Nat, k <= n /\ i = .int .i64 k /\ x = .int .u64 (pw k : Nat)) (fun _ i => n - (intOf i).toNat)
 case atStart => exact ⟨0, Nat.zero_le _, rfl, rfl⟩
 case round =>
  obtain ⟨k, hk, rfl, rfl⟩ := hrel;by_cases hlt : k < n
  ·have hp : IntKind.u64.wrap ((pw k : Int) + (pw k : Int)) = ((pw (k + 1) : Nat) : Int) := by
    have h1 : pw (k + 1) = pw k + pw k := (by unfold pw; rw [Nat.pow_succ]; omega);have h2 : pw (k + 1) <= 9223372036854775808 := by have := Nat.pow_le_pow_right (n := 2) (by decide) (show k + 1 <= 63 by omega);simpa [pw] using this
    rw [IntKind.wrap_u64, h1]; omega
   have HP := hid hp;clear hp;go_wp2
   go_round
   case rel => exact ⟨k + 1, by omega, by go_num, by rw [<- HP.out]⟩
   case measure => simp [intOf]; omega
  ·obtain rfl : k = n := by omega
   go_wp2
   go_ret
   exact ⟨rfl, rfl⟩
theorem zer (n x : Nat) (w : World) (h0 : 1 <= n) (h1 : n <= 64) (hx : x < 18446744073709551616) :
 Calls prog 180 #[.int .i64 n, .int .u64 x] w fun e w' => e = .returned (.bool (okB n x)) /\ w = w' := by
 by_cases h : n = 64
 ·subst h;have E : okB 64 x = true := (zak _ _).2 hx;rw [E];clear hx E;go_enter Tryz.func180, Tryz.ntmps180
  go_wp2_with (go_at_call 179; refine (z8i _ _ (by omega) (by omega)).mono ?_; rintro e w' ⟨rfl, rfl⟩)
  go_ret
  exact ⟨rfl, rfl⟩
 ·have hne : ((n : Int) == 64) = false := by simp; omega
  have E := hid (show okB n x = decide (x < pw n) from rfl);clear hx;go_enter Tryz.func180, Tryz.ntmps180
  go_wp2_with (first
   | (go_at_call 179; refine (z8i _ _ (by omega) (by omega)).mono ?_; rintro e w' ⟨rfl, rfl⟩)
   | (go_at_call 188; refine (zen n _ (by omega)).mono ?_; rintro e w' ⟨rfl, rfl⟩))
  go_ret
  refine ⟨?_, rfl⟩;rw [E.out];rfl
theorem zg7 (n : Int) (x : Nat) (w : World) (h : n < 1 ∨ 64 < n) :
 Calls prog 180 #[.int .i64 n, .int .u64 x] w fun e w' => e = .returned (.bool false) /\ w = w' := by
 go_enter Tryz.func180, Tryz.ntmps180
 go_wp2_with (go_at_call 179; refine (zez _ _ h).mono ?_; rintro e w' ⟨rfl, rfl⟩)
 go_ret
 exact ⟨rfl, rfl⟩
end Go.Proofs.YtdmadnfadgggcaaGreatDoor
