/- The walk of FormatNumbers. -/
import Derived.Test.YtjbapjgagiaefaaFmtRefNum
namespace Go.Proofs.Ytjbapjgagiaefaa.formatNumbers
open Go.RowKit Go.Instr Go.Sort
set_option linter.unusedVariables false
set_option linter.unusedSimpArgs false
set_option maxRecDepth 100000
set_option maxHeartbeats 2000000

theorem nat_u64 {a : Int} (h : (Lit.int .u64 a).wf = true) : ∃ m : Nat, a = m ∧ m < 18446744073709551616 := by
  simp [Lit.wf, IntKind.min, IntKind.max, IntKind.bits, IntKind.signed] at h
  exact ⟨a.toNat, by omega, by omega⟩
theorem int_i64 {a : Int} (h : (Lit.int .i64 a).wf = true) : -9223372036854775808 ≤ a ∧ a ≤ 9223372036854775807 := by
  simp [Lit.wf, IntKind.min, IntKind.max, IntKind.bits, IntKind.signed] at h
  omega
theorem core (k w s n : Int) (y : Nat) (wo : World) (hn : -9223372036854775808 ≤ n ∧ n ≤ 9223372036854775807) (hy : y < 18446744073709551616) :
    Calls Try.prog 5 #[.int .u8 k, .int .i64 w, .int .i64 s, .int .i64 n, .int .u64 y] wo fun e w' => e = .returned (.bool true) ∧ Below wo.heap.size wo w' := by
  have R1 := Lib.hid (fun W => range_any k w s W)
  have R2 := Lib.hid (fun W => refRange_any k w s W)
  have F1 := Lib.hid (fun W => field_any k w s n W hn)
  have F2 := Lib.hid (fun W => refField_any k w s n W hn)
  have N1 := Lib.hid (fun W => number_any k w s y W)
  have N2 := Lib.hid (fun W => refNumberF_any k w s y W hy)
  have T1 := Lib.hid (fun W => fit_any k s n W hn)
  have T2 := Lib.hid (fun W => refFit_any k s n W hn)
  generalize (rangeR k w s).1 = a1 at *
  generalize (rangeR k w s).2.1 = a2 at *
  generalize (rangeR k w s).2.2 = a3 at *
  generalize (fieldR k w s n).1 = b1 at *
  generalize (fieldR k w s n).2 = b2 at *
  generalize (numberR k w s y).1 = c1 at *
  generalize (numberR k w s y).2 = c2 at *
  clear hn hy
  go_enter Try.func5, Try.ntmps5
  go_wp2_with (first
    | (go_at_call 12; (with_reducible refine (R1.out _).mono ?_); rintro e w1 ⟨rfl, hb1⟩)
    | (go_at_call 25; (with_reducible refine (R2.out _).mono ?_); rintro e w' ⟨rfl, rfl⟩)
    | (go_at_call 13; (with_reducible refine (F1.out _).mono ?_); rintro e w2 ⟨rfl, hb2⟩)
    | (go_at_call 26; (with_reducible refine (F2.out _).mono ?_); rintro e w' ⟨rfl, rfl⟩)
    | (go_at_call 14; (with_reducible refine (N1.out _).mono ?_); rintro e w3 ⟨rfl, hb3⟩)
    | (go_at_call 27; (with_reducible refine (N2.out _).mono ?_); rintro e w' ⟨rfl, rfl⟩)
    | (go_at_call 15; (with_reducible refine (T1.out _).mono ?_); rintro e w4 ⟨z, f, rfl, hP, hb4⟩; have HPP := Lib.hid hP; clear hP)
    | (go_at_call 28; (with_reducible refine (T2.out _).mono ?_); rintro e w5 ⟨z', f', rfl, hP', rfl⟩; obtain ⟨rfl, rfl⟩ := HPP.out.one hP'; clear hP'))
  go_ret
  exact ⟨by simp, thenBel (thenBel (thenBel hb1 hb2) hb3) hb4⟩
theorem walk (a0 a1 a2 a3 a4 : Int) (w0 : (Lit.int .u8 a0).wf = true) (w1 : (Lit.int .i64 a1).wf = true) (w2 : (Lit.int .i64 a2).wf = true) (w3 : (Lit.int .i64 a3).wf = true) (w4 : (Lit.int .u64 a4).wf = true) (w : World) :
    Calls Try.prog 5 #[.int .u8 a0, .int .i64 a1, .int .i64 a2, .int .i64 a3, .int .u64 a4] w fun e w' => e = .returned (.bool true) ∧ Below w.heap.size w w' := by
  obtain ⟨y, rfl, hy⟩ := nat_u64 w4
  exact core a0 a1 a2 a3 y w (int_i64 w3) hy
end Go.Proofs.Ytjbapjgagiaefaa.formatNumbers
