/- The walk of BitsOperate. -/
import Derived.Test.YtdllophjfiebiaaRefBinaryAny
namespace Go.Proofs.Ytdllophjfiebiaa.bitsOperate
open Go.RowKit Go.Sort
set_option linter.unusedVariables false

theorem nat_u64 {a : Int} (h : (Lit.int .u64 a).wf = true) : ∃ m : Nat, a = m ∧ m < 18446744073709551616 := by
  simp [Lit.wf, IntKind.min, IntKind.max, IntKind.bits, IntKind.signed] at h
  exact ⟨a.toNat, by omega, by omega⟩
theorem nat_u8 {a : Int} (h : (Lit.int .u8 a).wf = true) : ∃ m : Nat, a = m := by
  simp [Lit.wf, IntKind.min, IntKind.max, IntKind.bits, IntKind.signed] at h
  exact ⟨a.toNat, by omega⟩

theorem core (k x y : Nat) (n : Int) (w : World) (hx : x < 18446744073709551616) (hy : y < 18446744073709551616) :
    Calls Try.prog 3 #[.int .u8 k, .int .i64 n, .int .u64 x, .int .u64 y] w fun e w' => e = .returned (.bool true) ∧ Below w.heap.size w w' := by
  have U1 := fun W => unary_any k x n W
  have U2 := fun W => refUnary_any k x n W hx
  have V1 := fun W => binary_any k x y n W
  have V2 := fun W => refBinary_any k x y n W hx hy
  generalize (opR 3 4 k n x 0).1 = a1 at *
  generalize (opR 3 4 k n x 0).2 = a2 at *
  generalize (opR 5 18 k n x y).1 = b1 at *
  generalize (opR 5 18 k n x y).2 = b2 at *
  have U1 := Lib.hid U1; have U2 := Lib.hid U2; have V1 := Lib.hid V1; have V2 := Lib.hid V2
  clear hx hy
  go_enter Try.func3, Try.ntmps3
  go_wp2_with (first
    | (go_at_call 5; (with_reducible refine (U1.out _).mono ?_); rintro e w1 ⟨rfl, hb1⟩)
    | (go_at_call 6; (with_reducible refine (U2.out _).mono ?_); rintro e w2 ⟨rfl, hb2⟩)
    | (go_at_call 7; (with_reducible refine (V1.out _).mono ?_); rintro e w3 ⟨rfl, hb3⟩)
    | (go_at_call 8; (with_reducible refine (V2.out _).mono ?_); rintro e w4 ⟨rfl, hb4⟩))
  go_ret
  exact ⟨rfl, thenBel (thenBel (thenBel hb1 hb2) hb3) hb4⟩

theorem walk (a0 : Int) (a1 : Int) (a2 : Int) (a3 : Int) (w0 : (Lit.int .u8 a0).wf = true) (w1 : (Lit.int .i64 a1).wf = true) (w2 : (Lit.int .u64 a2).wf = true) (w3 : (Lit.int .u64 a3).wf = true) (w : World) :
    Calls Try.prog 3 #[.int .u8 a0, .int .i64 a1, .int .u64 a2, .int .u64 a3] w fun e w' => e = .returned (.bool true) ∧ Below w.heap.size w w' := by
  obtain ⟨k, rfl⟩ := nat_u8 w0
  obtain ⟨x, rfl, hx⟩ := nat_u64 w2
  obtain ⟨y, rfl, hy⟩ := nat_u64 w3
  exact core k x y a1 w hx hy
end Go.Proofs.Ytdllophjfiebiaa.bitsOperate
