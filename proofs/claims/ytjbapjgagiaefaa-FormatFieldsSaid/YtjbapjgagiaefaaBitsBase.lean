/- Contracts of the small functions of package bits: isWidth, Mask, Ok, signed, check. Each leaves the world alone. -/
import Derived.Test.YtjbapjgagiaefaaChecked
import Derived.Test.YtjbapjgagiaefaaBitsMath
import Derived.WalkKit
import Derived.Handy
import Derived.WalkLawsBesides
import Derived.WalkSpells
namespace Go.Proofs.Ytjbapjgagiaefaa
open Go.RowKit

theorem isWidth_yes (n : Int) (w : World) (h0 : 1 ≤ n) (h1 : n ≤ 64) :
    Calls Try.prog 52 #[.int .i64 n] w fun e w' => e = .returned (.bool true) ∧ w = w' := by
  go_enter Try.func52, Try.ntmps52
  go_wp2
  go_ret
  exact ⟨rfl, rfl⟩
theorem isWidth_no (n : Int) (w : World) (h : n < 1 ∨ 64 < n) :
    Calls Try.prog 52 #[.int .i64 n] w fun e w' => e = .returned (.bool false) ∧ w = w' := by
  rcases h with h | h
  · go_enter Try.func52, Try.ntmps52
    go_wp2
    go_ret
    exact ⟨rfl, rfl⟩
  · have h' : (1 : Int) ≤ n := by omega
    have h2 : decide (n ≤ 64) = false := by simp; omega
    go_enter Try.func52, Try.ntmps52
    go_wp2
    go_ret
    exact ⟨rfl, rfl⟩

theorem mask_yes (n : Nat) (w : World) (h0 : 1 ≤ n) (h1 : n ≤ 64) :
    Calls Try.prog 33 #[.int .i64 n] w fun e w' => e = .returned (.int .u64 (mk n : Nat)) ∧ w = w' := by
  have H := Lib.hid (mask_val n h1)
  go_enter Try.func33, Try.ntmps33
  go_wp2_with (go_at_call 52; refine (isWidth_yes _ _ (by omega) (by omega)).mono ?_; rintro e w' ⟨rfl, rfl⟩)
  go_ret
  refine ⟨?_, rfl⟩
  show Ending.returned (.int .u64 _) = _
  rw [H.out]
theorem mask_no (n : Int) (w : World) (h : n < 1 ∨ 64 < n) :
    Calls Try.prog 33 #[.int .i64 n] w fun e w' => e = .returned (.int .u64 0) ∧ w = w' := by
  go_enter Try.func33, Try.ntmps33
  go_wp2_with (go_at_call 52; refine (isWidth_no _ _ h).mono ?_; rintro e w' ⟨rfl, rfl⟩)
  go_ret
  exact ⟨rfl, rfl⟩

theorem signed_any (n x : Nat) (w : World) (h0 : 1 ≤ n) (h1 : n ≤ 64) (hx : x < 2 ^ n) :
    Calls Try.prog 54 #[.int .i64 n, .int .u64 x] w fun e w' => e = .returned (.int .i64 (sg n x)) ∧ w = w' := by
  have H := Lib.hid (signed_val n x h0 h1 hx)
  clear hx
  have e : (64 - (n : Int)).toNat = 64 - n := by omega
  go_enter Try.func54, Try.ntmps54
  go_wp2
  go_ret
  refine ⟨?_, rfl⟩
  show Ending.returned (.int .i64 _) = _
  rw [← H.out]
end Go.Proofs.Ytjbapjgagiaefaa
