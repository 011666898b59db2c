/- The walk of BitsParts. -/
import Derived.Test.YtdllophjfiebiaaRefExtend
namespace Go.Proofs.Ytdllophjfiebiaa.bitsParts
open Go.RowKit Go.Sort
set_option linter.unusedVariables false

theorem nat_u64 {a : Int} (h : (Lit.int .u64 a).wf = true) : ∃ m : Nat, a = m ∧ m < 18446744073709551616 := by
  simp [Lit.wf, IntKind.min, IntKind.max, IntKind.bits, IntKind.signed] at h
  exact ⟨a.toNat, by omega, by omega⟩
theorem int_i64 {a : Int} (h : (Lit.int .i64 a).wf = true) : -9223372036854775808 ≤ a ∧ a ≤ 9223372036854775807 := by
  simp [Lit.wf, IntKind.min, IntKind.max, IntKind.bits, IntKind.signed] at h
  omega

theorem ok_both (n : Int) (x : Nat) (hx : x < 18446744073709551616) : ∃ q : Bool, (∀ w, Calls Try.prog 13 #[.int .i64 n, .int .u64 x] w fun e w' => e = .returned (.bool q) ∧ w = w') ∧ (∀ w, Calls Try.prog 14 #[.int .i64 n, .int .u64 x] w fun e w' => e = .returned (.bool q) ∧ w = w') := by
  by_cases h : n < 1 ∨ 64 < n
  · exact ⟨false, fun w => ok_no n x w h, fun w => refOk_no n x w h⟩
  · obtain ⟨m, rfl⟩ : ∃ m : Nat, n = m := ⟨n.toNat, by omega⟩
    exact ⟨okB m x, fun w => ok_any m x w (by omega) (by omega), fun w => refOk_yes m x w (by omega) (by omega) hx⟩
theorem mask_both (n : Int) : ∃ q : Nat, (∀ w, Calls Try.prog 15 #[.int .i64 n] w fun e w' => e = .returned (.int .u64 q) ∧ w = w') ∧ (∀ w, Calls Try.prog 16 #[.int .i64 n] w fun e w' => e = .returned (.int .u64 q) ∧ w = w') := by
  by_cases h : n < 1 ∨ 64 < n
  · exact ⟨0, fun w => mask_no n w h, fun w => refMask_no n w h⟩
  · obtain ⟨m, rfl⟩ : ∃ m : Nat, n = m := ⟨n.toNat, by omega⟩
    exact ⟨mk m, fun w => mask_yes m w (by omega) (by omega), fun w => refMask_yes m w (by omega) (by omega)⟩

set_option maxHeartbeats 2000000 in
theorem core (n to : Int) (x y : Nat) (z : Int) (sign : Bool) (w : World) (hx : x < 18446744073709551616) (hy : y < 18446744073709551616) (ht : -9223372036854775808 ≤ to ∧ to ≤ 9223372036854775807) (hz : -9223372036854775808 ≤ z ∧ z ≤ 9223372036854775807) :
    Calls Try.prog 4 #[.int .i64 n, .int .i64 to, .int .u64 x, .int .u64 y, .int .i64 z, .bool sign] w fun e w' => e = .returned (.bool true) ∧ Below w.heap.size w w' := by
  obtain ⟨q, K1, K2⟩ := ok_both n x hx
  obtain ⟨m, M1, M2⟩ := mask_both n
  have S1 := fun W => signedP_any n x W
  have S2 := fun W => refSigned_any n x W hx
  have F1 := fun W => of_any n z W
  have F2 := fun W => refOf_any n z W hz.1 hz.2
  have X1 := fun W => extract_any n x to z W ht hz
  have X2 := fun W => refExtract_any n x to z W hx ht hz
  have C1 := fun W => concat_any n x to y W ht
  have C2 := fun W => refConcat_any n x to y W hx hy
  have E1 := fun W => extend_any n x to sign W
  have E2 := fun W => refExtend_any n x to sign W hx
  generalize (sgR n x).1 = s1 at *
  generalize (sgR n x).2 = s2 at *
  generalize (ofR n z).1 = f1 at *
  generalize (ofR n z).2 = f2 at *
  generalize (exR n x to z).1 = x1 at *
  generalize (exR n x to z).2 = x2 at *
  generalize (catR n x to y).1 = c1 at *
  generalize (catR n x to y).2 = c2 at *
  generalize (extR n x to sign).1 = e1 at *
  generalize (extR n x to sign).2 = e2 at *
  have K1 := Lib.hid K1; have K2 := Lib.hid K2; have M1 := Lib.hid M1; have M2 := Lib.hid M2
  have S1 := Lib.hid S1; have S2 := Lib.hid S2; have F1 := Lib.hid F1; have F2 := Lib.hid F2; have X1 := Lib.hid X1; have X2 := Lib.hid X2
  have C1 := Lib.hid C1; have C2 := Lib.hid C2; have E1 := Lib.hid E1; have E2 := Lib.hid E2
  clear hx hy ht hz
  go_enter Try.func4, Try.ntmps4
  go_wp2_with (first
    | (go_at_call 9; (with_reducible refine (S1.out _).mono ?_); rintro e w1 ⟨rfl, hb1⟩)
    | (go_at_call 10; (with_reducible refine (S2.out _).mono ?_); rintro e w' ⟨rfl, rfl⟩)
    | (go_at_call 11; (with_reducible refine (F1.out _).mono ?_); rintro e w' ⟨rfl, rfl⟩)
    | (go_at_call 12; (with_reducible refine (F2.out _).mono ?_); rintro e w' ⟨rfl, rfl⟩)
    | (go_at_call 13; (with_reducible refine (K1.out _).mono ?_); rintro e w' ⟨rfl, rfl⟩)
    | (go_at_call 14; (with_reducible refine (K2.out _).mono ?_); rintro e w' ⟨rfl, rfl⟩)
    | (go_at_call 15; (with_reducible refine (M1.out _).mono ?_); rintro e w' ⟨rfl, rfl⟩)
    | (go_at_call 16; (with_reducible refine (M2.out _).mono ?_); rintro e w' ⟨rfl, rfl⟩)
    | (go_at_call 17; (with_reducible refine (X1.out _).mono ?_); rintro e w2 ⟨rfl, hb2⟩)
    | (go_at_call 18; (with_reducible refine (X2.out _).mono ?_); rintro e w3 ⟨rfl, hb3⟩)
    | (go_at_call 19; (with_reducible refine (C1.out _).mono ?_); rintro e w4 ⟨rfl, hb4⟩)
    | (go_at_call 20; (with_reducible refine (C2.out _).mono ?_); rintro e w5 ⟨rfl, hb5⟩)
    | (go_at_call 21; (with_reducible refine (E1.out _).mono ?_); rintro e w6 ⟨rfl, hb6⟩)
    | (go_at_call 22; (with_reducible refine (E2.out _).mono ?_); rintro e w7 ⟨rfl, hb7⟩))
  go_ret
  have th : ∀ {a b c : World}, Below a.heap.size a b → Below b.heap.size b c → Below a.heap.size a c := fun h k => h.trans (k.mono h.size)
  exact ⟨rfl, th (th (th (th (th (th hb1 hb2) hb3) hb4) hb5) hb6) hb7⟩

theorem walk (a0 : Int) (a1 : Int) (a2 : Int) (a3 : Int) (a4 : Int) (a5 : Bool) (w0 : (Lit.int .i64 a0).wf = true) (w1 : (Lit.int .i64 a1).wf = true) (w2 : (Lit.int .u64 a2).wf = true) (w3 : (Lit.int .u64 a3).wf = true) (w4 : (Lit.int .i64 a4).wf = true) (w : World) :
    Calls Try.prog 4 #[.int .i64 a0, .int .i64 a1, .int .u64 a2, .int .u64 a3, .int .i64 a4, .bool a5] w fun e w' => e = .returned (.bool true) ∧ Below w.heap.size w w' := by
  obtain ⟨x, rfl, hx⟩ := nat_u64 w2
  obtain ⟨y, rfl, hy⟩ := nat_u64 w3
  exact core a0 a1 x y a4 a5 w hx hy (int_i64 w1) (int_i64 w4)
end Go.Proofs.Ytdllophjfiebiaa.bitsParts
