/- The walk of FormatBack. -/
import Derived.Test.YtjbapjgagiaefaaFmtFit
import Derived.Test.YtjbapjgagiaefaaFormatBackPlay
namespace Go.Proofs.Ytjbapjgagiaefaa.formatBack
open Go.RowKit Go.Instr Go.Sort
set_option linter.unusedVariables false
set_option linter.unusedSimpArgs false
set_option maxRecDepth 100000
set_option maxHeartbeats 2000000

theorem nat_u64 {a : Int} (h : (Lit.int .u64 a).wf = true) : ∃ m : Nat, a = m ∧ m < 18446744073709551616 := by
  simp [Lit.wf, IntKind.min, IntKind.max, IntKind.bits, IntKind.signed] at h
  exact ⟨a.toNat, by omega, by omega⟩
theorem int_i64 {a : Int} (h : (Lit.int .i64 a).wf = true) : -9223372036854775808 ≤ a ∧ a ≤ 9223372036854775807 := by
  simp [Lit.wf, IntKind.min, IntKind.max, IntKind.bits, IntKind.signed] at h
  omega
theorem core (k w s n : Int) (y : Nat) (wo : World) (hn : -9223372036854775808 ≤ n ∧ n ≤ 9223372036854775807) :
    Calls Try.prog 9 #[.int .u8 k, .int .i64 w, .int .i64 s, .int .i64 n, .int .u64 y] wo fun e w' => e = .returned (.bool true) ∧ Below wo.heap.size wo w' := by
  have HA := Lib.hid (fun W => alive_walk W)
  have F1 := Lib.hid (fun W => field_any k w s n W hn)
  have N1 := Lib.hid (fun W => number_any k w s (fieldR k w s n).1 W)
  have N2 := Lib.hid (fun W => number_any k w s y W)
  have F2 := Lib.hid (fun W => field_any k w s (numberR k w s y).1 W numberR_bd)
  have D1 : (¬ (fieldR k w s n).2 = 0 ∧ ((fieldR k w s n).2 == 0) = false) ∨ ((fieldR k w s n).2 = 0 ∧ numberR k w s (fieldR k w s n).1 = (n, 0)) := by
    by_cases h : (fieldR k w s n).2 = 0
    · exact .inr ⟨h, back_one h⟩
    · exact .inl ⟨h, (fieldR_err h).2⟩
  have D2 : (((numberR k w s y).2 == 0) = false ∧ (numberR k w s y).1 = 0) ∨ ((numberR k w s y).2 = 0 ∧ fieldR k w s (numberR k w s y).1 = (y, 0)) := by
    by_cases h : (numberR k w s y).2 = 0
    · exact .inr ⟨h, back_two h⟩
    · exact .inl ⟨(numberR_err h).2, (numberR_err h).1⟩
  generalize (fieldR k w s n).1 = x at *
  generalize (fieldR k w s n).2 = e1 at *
  generalize (numberR k w s y).1 = z at *
  generalize (numberR k w s y).2 = e2 at *
  clear hn
  rcases D1 with ⟨d1, d2⟩ | ⟨rfl, d1⟩ <;> rcases D2 with ⟨d3, rfl⟩ | ⟨rfl, d3⟩
  all_goals
    try rw [d1] at N1
    try rw [d3] at F2
    try clear d1
    try (have D3 := Lib.hid d3; clear d3; have d3 := D3.out; clear D3)
    first
    | (go_enter Try.func9, Try.ntmps9
       go_wp2_with (first
         | (go_at_call 20; (with_reducible refine (HA.out _).mono ?_); rintro e w1 ⟨rfl, hb1⟩)
         | (go_at_call 13; (with_reducible refine (F1.out _).mono ?_); rintro e w2 ⟨rfl, hb2⟩)
         | (go_at_call 14; (with_reducible refine (N1.out _).mono ?_); rintro e w3 ⟨rfl, hb3⟩)
         | (go_at_call 14; (with_reducible refine (N2.out _).mono ?_); rintro e w4 ⟨rfl, hb4⟩)
         | (go_at_call 13; (with_reducible refine (F2.out _).mono ?_); rintro e w5 ⟨rfl, hb5⟩))
       go_ret
       exact ⟨rfl, by first | exact thenBel (thenBel (thenBel (thenBel hb1 hb2) hb3) hb4) hb5 | exact thenBel (thenBel (thenBel hb1 hb2) hb3) hb4 | exact thenBel (thenBel (thenBel hb1 hb2) hb4) hb5 | exact thenBel (thenBel hb1 hb2) hb4⟩)
    | (trace_state; fail)
theorem walk (a0 a1 a2 a3 a4 : Int) (w0 : (Lit.int .u8 a0).wf = true) (w1 : (Lit.int .i64 a1).wf = true) (w2 : (Lit.int .i64 a2).wf = true) (w3 : (Lit.int .i64 a3).wf = true) (w4 : (Lit.int .u64 a4).wf = true) (w : World) :
    Calls Try.prog 9 #[.int .u8 a0, .int .i64 a1, .int .i64 a2, .int .i64 a3, .int .u64 a4] w fun e w' => e = .returned (.bool true) ∧ Below w.heap.size w w' := by
  obtain ⟨y, rfl, _⟩ := nat_u64 w4
  exact core a0 a1 a2 a3 y w (int_i64 w3)
end Go.Proofs.Ytjbapjgagiaefaa.formatBack
