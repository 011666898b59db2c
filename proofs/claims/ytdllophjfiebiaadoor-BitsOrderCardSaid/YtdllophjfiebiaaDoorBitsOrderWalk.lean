/- The walk of BitsOrder. -/
import Derived.Test.YtdllophjfiebiaaDoorBitsLawMath
namespace Go.Proofs.YtdllophjfiebiaaDoor.bitsOrder
open Go.RowKit Go.Sort
set_option linter.unusedVariables false

theorem one_any (p : Bool) (w : World) :
    Calls Tryd.prog 32 #[.bool p] w fun e w' => e = .returned (.int .u64 (bitN p : Nat)) ∧ w = w' := by
  cases p <;>
  · go_enter Tryd.func32, Tryd.ntmps32
    go_wp2
    go_ret
    exact ⟨rfl, rfl⟩

theorem core (wd x y n a b : Nat) (w : World) (hx : x < 18446744073709551616) (hy : y < 18446744073709551616) (hn : n = wd % 64 + 1) (ha : a = x % 2 ^ n) (hb : b = y % 2 ^ n) :
    Calls Tryd.prog 8 #[.int .u8 wd, .int .u64 x, .int .u64 y] w fun e w' => e = .returned (.bool true) ∧ Below w.heap.size w w' := by
  have C1 := fun W => Lib.hid (cut_at wd x hx n a hn ha W)
  have C2 := fun W => Lib.hid (cut_at wd y hy n b hn hb W)
  have h0 : 1 ≤ n := by omega
  have h1 : n ≤ 64 := by omega
  have ha' : a < 2 ^ n := by rw [ha]; exact Nat.mod_lt _ (pow_pos' n)
  have hb' : b < 2 ^ n := by rw [hb]; exact Nat.mod_lt _ (pow_pos' n)
  have S1 := fun W => signedP_any n a W
  rw [sgR_ok n a h0 h1 ha'] at S1
  have S2 := fun W => signedP_any n b W
  rw [sgR_ok n b h0 h1 hb'] at S2
  have OF := fun W => of_any n (sg n a) W
  rw [ofR_sg n a h0 h1 ha'] at OF
  have P1 := fun W => op_as 16 n a b _ 16 W rfl h0 h1 (by decide) (by decide) ha' hb' (opv16 n a b h0)
  have P2 := fun W => op_as 17 n a b _ 17 W rfl h0 h1 (by decide) (by decide) ha' hb' (opv17 n a b h0)
  have P3 := fun W => op_as 18 n a b _ 18 W rfl h0 h1 (by decide) (by decide) ha' hb' (opv18 n a b h0)
  have HS1 := Lib.hid S1; have HS2 := Lib.hid S2; have HOF := Lib.hid OF; have HP1 := Lib.hid P1; have HP2 := Lib.hid P2; have HP3 := Lib.hid P3
  clear S1 S2 OF P1 P2 P3 ha hb hn hx hy ha' hb' h0 h1
  go_enter Tryd.func8, Tryd.ntmps8
  go_wp2_with (first
    | (go_at_call 25; (with_reducible refine (C1 _).out.mono ?_); rintro e w' ⟨rfl, rfl⟩)
    | (go_at_call 25; (with_reducible refine (C2 _).out.mono ?_); rintro e w' ⟨rfl, rfl⟩)
    | (go_at_call 31; (with_reducible refine (HS1.out _).mono ?_); rintro e w1 ⟨rfl, hb1⟩)
    | (go_at_call 31; (with_reducible refine (HS2.out _).mono ?_); rintro e w2 ⟨rfl, hb2⟩)
    | (go_at_call 12; (with_reducible refine (HOF.out _).mono ?_); rintro e w' ⟨rfl, rfl⟩)
    | (go_at_call 18; (with_reducible refine (alive_any _).mono ?_); rintro e w3 ⟨rfl, hb3⟩)
    | (go_at_call 27; (with_reducible refine (HP1.out _).mono ?_); rintro e w4 ⟨rfl, hb4⟩)
    | (go_at_call 27; (with_reducible refine (HP2.out _).mono ?_); rintro e w5 ⟨rfl, hb5⟩)
    | (go_at_call 27; (with_reducible refine (HP3.out _).mono ?_); rintro e w6 ⟨rfl, hb6⟩)
    | (go_at_call 32; (with_reducible refine (one_any _ _).mono ?_); rintro e w' ⟨rfl, rfl⟩))
  go_ret
  exact ⟨rfl, thenB (thenB (thenB (thenB (thenB hb1 hb2) hb3) hb4) hb5) hb6⟩

theorem walk (a0 : Int) (a1 : Int) (a2 : Int) (w0 : (Lit.int .u8 a0).wf = true) (w1 : (Lit.int .u64 a1).wf = true) (w2 : (Lit.int .u64 a2).wf = true) (w : World) :
    Calls Tryd.prog 8 #[.int .u8 a0, .int .u64 a1, .int .u64 a2] w fun e w' => e = .returned (.bool true) ∧ Below w.heap.size w w' := by
  obtain ⟨wd, rfl, _⟩ := nat_u8 w0
  obtain ⟨x, rfl, hx⟩ := nat_u64 w1
  obtain ⟨y, rfl, hy⟩ := nat_u64 w2
  exact core wd x y _ _ _ w hx hy rfl rfl rfl
end Go.Proofs.YtdllophjfiebiaaDoor.bitsOrder
