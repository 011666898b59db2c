/- Contracts of the helpers of layer 1's laws: cut, op and alive. -/
import Derived.Test.YtdllophjfiebiaaDoorBitsText
namespace Go.Proofs.YtdllophjfiebiaaDoor
open Go.RowKit Go.Sort
set_option linter.unusedVariables false

theorem thenB {a b c : World} (h : Below a.heap.size a b) (k : Below b.heap.size b c) : Below a.heap.size a c := h.trans (k.mono h.size)
theorem cut_mask (n : Nat) (x : Nat) (h0 : 1 ≤ n) (h1 : n ≤ 64) (hx : x < 18446744073709551616) :
    bits .and .u64 (x : Int) ((18446744073709551615 : Int) / 2 ^ (64 - n)) = ((x % 2 ^ n : Nat) : Int) := by
  have e : ((18446744073709551615 : Int) / 2 ^ (64 - n)) = ((mk n : Nat) : Int) := by
    have hs := pow_split n h1
    have hm := mk_succ n
    have hp := pow_pos' (64 - n)
    have h2 : 18446744073709551615 / 2 ^ (64 - n) = mk n := by
      refine Nat.div_eq_of_lt_le ?_ ?_
      · have : mk n * 2 ^ (64 - n) + 2 ^ (64 - n) = 18446744073709551616 := by rw [← hs, ← hm, Nat.add_mul, Nat.one_mul]
        omega
      · have : (mk n + 1) * 2 ^ (64 - n) = 18446744073709551616 := by rw [hm, hs]
        omega
    rw [← h2, Int.natCast_ediv, Int.natCast_pow]
    rfl
  rw [e]
  exact and_mask x n hx h1

theorem cut_any (wd x n : Nat) (w : World) (hn : n = wd % 64 + 1) (hx : x < 18446744073709551616) :
    Calls Tryd.prog 25 #[.int .u8 wd, .int .u64 x] w fun e w' => e = .returned (.tuple #[.int .i64 n, .int .u64 (x % 2 ^ n : Nat)]) ∧ w = w' := by
  go_enter Tryd.func25, Tryd.ntmps25
  go_wp2
  go_ret2
  refine ⟨?_, rfl⟩
  subst hn
  have h := cut_mask (wd % 64 + 1) x (by omega) (by omega) hx
  rw [show 64 - (wd % 64 + 1) = 63 - wd % 64 by omega] at h
  show Ending.returned (.tuple #[.int .i64 _, .int .u64 _]) = _
  rw [h]
  rfl

theorem opR_ok (k n a b : Nat) (h0 : 1 ≤ n) (h1 : n ≤ 64) (hk0 : 5 ≤ k) (hk1 : k ≤ 18) (ha : a < 2 ^ n) (hb : b < 2 ^ n) : opR 5 18 k n a b = (opv k n a b, 0) := by
  unfold opR
  rw [if_neg (by omega), if_neg (by omega), Int.toNat_natCast, if_neg (chk2_zero n a b ha hb)]
theorem opR1_ok (k n a : Nat) (h0 : 1 ≤ n) (h1 : n ≤ 64) (hk0 : 3 ≤ k) (hk1 : k ≤ 4) (ha : a < 2 ^ n) : opR 3 4 k n a 0 = (opv k n a 0, 0) := by
  unfold opR
  rw [if_neg (by omega), if_neg (by omega), Int.toNat_natCast, if_neg (chk2_zero n a 0 ha (pow_pos' n))]

theorem op_any (k n a b : Nat) (w : World) (h0 : 1 ≤ n) (h1 : n ≤ 64) (hk0 : 5 ≤ k) (hk1 : k ≤ 18) (ha : a < 2 ^ n) (hb : b < 2 ^ n) :
    Calls Tryd.prog 27 #[.int .u8 k, .int .i64 n, .int .u64 a, .int .u64 b] w fun e w' => e = .returned (.int .u64 (opv k n a b : Nat)) ∧ Below w.heap.size w w' := by
  have H := Lib.hid (opR_ok k n a b h0 h1 hk0 hk1 ha hb)
  clear hk0 hk1 ha hb
  go_enter Tryd.func27, Tryd.ntmps27
  go_wp2_with (go_at_call 11; refine (binary_any k a b n _).mono ?_; rw [H.out]; rintro e w' ⟨rfl, hb⟩)
  go_ret
  exact ⟨rfl, hb⟩

theorem alive_signed (w : World) : Calls Tryd.prog 31 #[.int .i64 8, .int .u64 200] w fun e w' => e = .returned (.tuple #[.int .i64 (-56), .int .i64 0]) ∧ Below w.heap.size w w' := by
  have h := signedP_any 8 200 w
  rw [show sgR 8 200 = (-56, 0) by decide] at h
  exact h
theorem alive_text (w : World) : Calls Tryd.prog 21 #[.int .i64 8, .int .u64 15] w fun e w' => e = .returned (.tuple #[.string ⟨#[56, 58, 48, 102]⟩, .int .i64 0]) ∧ Below w.heap.size w w' := by
  have h := textP_ok 8 15 w (by decide) (by decide) (by decide)
  rw [show textB 8 15 = ⟨#[56, 58, 48, 102]⟩ by decide +kernel] at h
  exact h
theorem alive_op1 (w : World) : Calls Tryd.prog 27 #[.int .u8 5, .int .i64 8, .int .u64 200, .int .u64 100] w fun e w' => e = .returned (.int .u64 44) ∧ Below w.heap.size w w' := by
  have h := op_any 5 8 200 100 w (by decide) (by decide) (by decide) (by decide) (by decide) (by decide)
  rw [show opv 5 8 200 100 = 44 by decide +kernel] at h
  exact h
theorem alive_op2 (w : World) : Calls Tryd.prog 27 #[.int .u8 13, .int .i64 8, .int .u64 200, .int .u64 4] w fun e w' => e = .returned (.int .u64 252) ∧ Below w.heap.size w w' := by
  have h := op_any 13 8 200 4 w (by decide) (by decide) (by decide) (by decide) (by decide) (by decide)
  rw [show opv 13 8 200 4 = 252 by decide +kernel] at h
  exact h
theorem alive_op3 (w : World) : Calls Tryd.prog 27 #[.int .u8 14, .int .i64 8, .int .u64 7, .int .u64 0] w fun e w' => e = .returned (.int .u64 255) ∧ Below w.heap.size w w' := by
  have h := op_any 14 8 7 0 w (by decide) (by decide) (by decide) (by decide) (by decide) (by decide)
  rw [show opv 14 8 7 0 = 255 by decide +kernel] at h
  exact h

theorem alive_any (w : World) :
    Calls Tryd.prog 18 #[] w fun e w' => e = .returned (.bool true) ∧ Below w.heap.size w w' := by
  go_enter Tryd.func18, Tryd.ntmps18
  go_wp2_with (first
    | (go_at_call 31; refine (alive_signed _).mono ?_; rintro e w1 ⟨rfl, hb1⟩)
    | (go_at_call 21; refine (alive_text _).mono ?_; rintro e w2 ⟨rfl, hb2⟩)
    | (go_at_call 27; (with_reducible refine (alive_op1 _).mono ?_); rintro e w3 ⟨rfl, hb3⟩)
    | (go_at_call 27; (with_reducible refine (alive_op2 _).mono ?_); rintro e w4 ⟨rfl, hb4⟩)
    | (go_at_call 27; (with_reducible refine (alive_op3 _).mono ?_); rintro e w5 ⟨rfl, hb5⟩))
  go_ret
  exact ⟨rfl, thenB (thenB (thenB (thenB hb1 hb2) hb3) hb4) hb5⟩
end Go.Proofs.YtdllophjfiebiaaDoor
