/- Contract of the reference's Ok. -/
import Derived.Test.YtffmijafhchjgaaDoorRefBits
namespace Go.Proofs.YtffmijafhchjgaaDoor
open Go.RowKit Go.Sort
set_option linter.unusedVariables false
set_option linter.unusedSimpArgs false

theorem refOk_yes (n x : Nat) (w : World) (h0 : 1 ≤ n) (h1 : n ≤ 64) (hx : x < 18446744073709551616) :
    Calls Tryd.prog 20 #[.int .i64 n, .int .u64 x] w fun e w' => e = .returned (.bool (okB n x)) ∧ w = w' := by
  by_cases h : n = 64
  · subst h
    have E : okB 64 x = true := (okB_iff _ _).2 hx
    rw [E]
    clear hx E
    go_enter Tryd.func20, Tryd.ntmps20
    go_wp2_with (go_at_call 19; refine (wide_yes _ _ (by omega) (by omega)).mono ?_; rintro e w' ⟨rfl, rfl⟩)
    go_ret
    exact ⟨rfl, rfl⟩
  · have hne : ((n : Int) == 64) = false := by simp; omega
    have E := Lib.hid (show okB n x = decide (x < pw n) from rfl)
    clear hx
    go_enter Tryd.func20, Tryd.ntmps20
    go_wp2_with (first
      | (go_at_call 19; refine (wide_yes _ _ (by omega) (by omega)).mono ?_; rintro e w' ⟨rfl, rfl⟩)
      | (go_at_call 34; refine (power_any n _ (by omega)).mono ?_; rintro e w' ⟨rfl, rfl⟩))
    go_ret
    refine ⟨?_, rfl⟩
    rw [E.out]
    rfl
theorem refOk_no (n : Int) (x : Nat) (w : World) (h : n < 1 ∨ 64 < n) :
    Calls Tryd.prog 20 #[.int .i64 n, .int .u64 x] w fun e w' => e = .returned (.bool false) ∧ w = w' := by
  go_enter Tryd.func20, Tryd.ntmps20
  go_wp2_with (go_at_call 19; refine (wide_no _ _ h).mono ?_; rintro e w' ⟨rfl, rfl⟩)
  go_ret
  exact ⟨rfl, rfl⟩

end Go.Proofs.YtffmijafhchjgaaDoor
