/- Contracts of Ok and check of package bits. Each leaves the world alone. -/
import Derived.Test.YtjbapjgagiaefaaBitsBase
namespace Go.Proofs.Ytjbapjgagiaefaa
open Go.RowKit

theorem ok_any (n x : Nat) (w : World) (h0 : 1 ≤ n) (h1 : n ≤ 64) :
    Calls Try.prog 34 #[.int .i64 n, .int .u64 x] w fun e w' => e = .returned (.bool (okB n x)) ∧ w = w' := by
  have H := Lib.hid (okB_le n x)
  go_enter Try.func34, Try.ntmps34
  go_wp2_with (first
    | (go_at_call 52; refine (isWidth_yes _ _ (by omega) (by omega)).mono ?_; rintro e w' ⟨rfl, rfl⟩)
    | (go_at_call 33; refine (mask_yes _ _ h0 h1).mono ?_; rintro e w' ⟨rfl, rfl⟩))
  go_ret
  refine ⟨?_, rfl⟩
  show Ending.returned (.bool _) = _
  rw [H.out]
theorem ok_no (n : Int) (x : Nat) (w : World) (h : n < 1 ∨ 64 < n) :
    Calls Try.prog 34 #[.int .i64 n, .int .u64 x] w fun e w' => e = .returned (.bool false) ∧ w = w' := by
  go_enter Try.func34, Try.ntmps34
  go_wp2_with (go_at_call 52; refine (isWidth_no _ _ h).mono ?_; rintro e w' ⟨rfl, rfl⟩)
  go_ret
  exact ⟨rfl, rfl⟩

theorem neq_func (fn : Fn) (first captured : Array Value) (w : World) : Sem.run Try.prog (binOp BinOp.neq 84 (Value.func fn first captured) Value.nilFunc) w = .ok (.bool true) w := by kernel_rfl
theorem neq_nilFunc (w : World) : Sem.run Try.prog (binOp BinOp.neq 84 Value.nilFunc Value.nilFunc) w = .ok (.bool false) w := by kernel_rfl

theorem check_bad (n : Int) (f xs : Value) (w : World) (h : n < 1 ∨ 64 < n) :
    Calls Try.prog 53 #[.int .i64 n, f, xs] w fun e w' => e = .returned (.int .i64 14) ∧ w = w' := by
  go_enter Try.func53, Try.ntmps53
  go_wp2_with (go_at_call 52; refine (isWidth_no _ _ h).mono ?_; rintro e w' ⟨rfl, rfl⟩)
  go_ret
  exact ⟨rfl, rfl⟩

theorem check_first (n : Nat) (f : Nat) (cs : Array Value) (er : Int) (xs : Value) (w : World) (h0 : 1 ≤ n) (h1 : n ≤ 64)
    (HC : ∀ (args : Array Value) (w : World), Sem.run Try.prog (callFunc f args) w = .ok (.enter f args) w)
    (HF : Hid (Calls Try.prog f cs w fun e w' => e = .returned (.int .i64 er) ∧ w = w')) (her : (er == 0) = false) :
    Calls Try.prog 53 #[.int .i64 n, .func (.func f) #[] cs, xs] w fun e w' => e = .returned (.int .i64 er) ∧ w = w' := by
  have hn := neq_func (Fn.func f) #[] cs
  go_enter Try.func53, Try.ntmps53
  go_wp2_with (first
    | (go_at_call 52; refine (isWidth_yes _ _ (by omega) (by omega)).mono ?_; rintro e w' ⟨rfl, rfl⟩)
    | ((with_reducible refine HF.out.mono ?_); rintro e w' ⟨rfl, rfl⟩))
  go_ret
  exact ⟨rfl, rfl⟩

/-- What check says of two values, of one. -/
def chk2 (n a b : Nat) : Int := if okB n a = true ∧ okB n b = true then 0 else 8
def chk1 (n a : Nat) : Int := if okB n a = true then 0 else 8

theorem check2_first (n : Nat) (f : Nat) (cs : Array Value) (a b : Nat) (w : World) (B : Nat) (h0 : 1 ≤ n) (h1 : n ≤ 64)
    (HC : ∀ (args : Array Value) (w : World), Sem.run Try.prog (callFunc f args) w = .ok (.enter f args) w)
    (HF : Hid (Calls Try.prog f cs w fun e w' => e = .returned (.int .i64 0) ∧ w = w'))
    (hc0 : w.cell? ⟨B, 0, none⟩ = some (.int .u64 a)) (hc1 : w.cell? ⟨B, 1, none⟩ = some (.int .u64 b)) :
    Calls Try.prog 53 #[.int .i64 n, .func (.func f) #[] cs, .slice (some ⟨B, 0, none⟩) 2 2] w fun e w' => e = .returned (.int .i64 (chk2 n a b)) ∧ w = w' := by
  have hn := neq_func (Fn.func f) #[] cs
  have E := Lib.hid (show chk2 n a b = if okB n a = true ∧ okB n b = true then 0 else 8 from rfl)
  cases ha : okB n a <;> cases hb : okB n b
  all_goals
    have HA := Lib.hid ha
    have HB := Lib.hid hb
    clear ha hb
    go_enter Try.func53, Try.ntmps53
    go_wp2_with (first
      | (go_at_call 52; refine (isWidth_yes _ _ (by omega) (by omega)).mono ?_; rintro e w' ⟨rfl, rfl⟩)
      | ((with_reducible refine HF.out.mono ?_); rintro e w' ⟨rfl, rfl⟩))
    refine wp_loop_rounds 3 ?_
    iterate 3 (try (rw [rounds_succ]; go_wp2_with (first
      | (go_at_call 34; (with_reducible refine (ok_any n a _ h0 h1).mono ?_); rw [HA.out]; rintro e w' ⟨rfl, rfl⟩)
      | (go_at_call 34; (with_reducible refine (ok_any n b _ h0 h1).mono ?_); rw [HB.out]; rintro e w' ⟨rfl, rfl⟩))))
    go_ret
    refine ⟨?_, rfl⟩
    show Ending.returned (.int .i64 _) = _
    rw [E.out, HA.out, HB.out]
    rfl

theorem check1_first (n : Nat) (f : Nat) (cs : Array Value) (a : Nat) (w : World) (B : Nat) (h0 : 1 ≤ n) (h1 : n ≤ 64)
    (HC : ∀ (args : Array Value) (w : World), Sem.run Try.prog (callFunc f args) w = .ok (.enter f args) w)
    (HF : Hid (Calls Try.prog f cs w fun e w' => e = .returned (.int .i64 0) ∧ w = w'))
    (hc0 : w.cell? ⟨B, 0, none⟩ = some (.int .u64 a)) :
    Calls Try.prog 53 #[.int .i64 n, .func (.func f) #[] cs, .slice (some ⟨B, 0, none⟩) 1 1] w fun e w' => e = .returned (.int .i64 (chk1 n a)) ∧ w = w' := by
  have hn := neq_func (Fn.func f) #[] cs
  have E := Lib.hid (show chk1 n a = if okB n a = true then 0 else 8 from rfl)
  cases ha : okB n a
  all_goals
    have HA := Lib.hid ha
    clear ha
    go_enter Try.func53, Try.ntmps53
    go_wp2_with (first
      | (go_at_call 52; refine (isWidth_yes _ _ (by omega) (by omega)).mono ?_; rintro e w' ⟨rfl, rfl⟩)
      | ((with_reducible refine HF.out.mono ?_); rintro e w' ⟨rfl, rfl⟩))
    refine wp_loop_rounds 2 ?_
    iterate 2 (try (rw [rounds_succ]; go_wp2_with
      (go_at_call 34; (with_reducible refine (ok_any n a _ h0 h1).mono ?_); rw [HA.out]; rintro e w' ⟨rfl, rfl⟩)))
    go_ret
    refine ⟨?_, rfl⟩
    show Ending.returned (.int .i64 _) = _
    rw [E.out, HA.out]
    rfl

theorem check1 (n a : Nat) (w : World) (B : Nat) (h0 : 1 ≤ n) (h1 : n ≤ 64)
    (hc0 : w.cell? ⟨B, 0, none⟩ = some (.int .u64 a)) :
    Calls Try.prog 53 #[.int .i64 n, .nilFunc, .slice (some ⟨B, 0, none⟩) 1 1] w fun e w' => e = .returned (.int .i64 (chk1 n a)) ∧ w = w' := by
  have hn := neq_nilFunc
  have E := Lib.hid (show chk1 n a = if okB n a = true then 0 else 8 from rfl)
  cases ha : okB n a
  all_goals
    have HA := Lib.hid ha
    clear ha
    go_enter Try.func53, Try.ntmps53
    go_wp2_with (go_at_call 52; refine (isWidth_yes _ _ (by omega) (by omega)).mono ?_; rintro e w' ⟨rfl, rfl⟩)
    refine wp_loop_rounds 2 ?_
    iterate 2 (try (rw [rounds_succ]; go_wp2_with
      (go_at_call 34; (with_reducible refine (ok_any n a _ h0 h1).mono ?_); rw [HA.out]; rintro e w' ⟨rfl, rfl⟩)))
    go_ret
    refine ⟨?_, rfl⟩
    show Ending.returned (.int .i64 _) = _
    rw [E.out, HA.out]
    rfl

theorem check0 (n : Nat) (w : World) (h0 : 1 ≤ n) (h1 : n ≤ 64) :
    Calls Try.prog 53 #[.int .i64 n, .nilFunc, .slice none 0 0] w fun e w' => e = .returned (.int .i64 0) ∧ w = w' := by
  have hn := neq_nilFunc
  go_enter Try.func53, Try.ntmps53
  go_wp2_with (go_at_call 52; refine (isWidth_yes _ _ (by omega) (by omega)).mono ?_; rintro e w' ⟨rfl, rfl⟩)
  refine wp_loop_rounds 1 ?_
  rw [rounds_succ]
  go_wp2
  go_ret
  exact ⟨rfl, rfl⟩
end Go.Proofs.Ytjbapjgagiaefaa
