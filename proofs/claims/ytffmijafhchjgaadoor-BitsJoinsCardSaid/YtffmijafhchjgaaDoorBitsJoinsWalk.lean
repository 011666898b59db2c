/- The walk of BitsJoins. -/
import Derived.Test.YtffmijafhchjgaaDoorBitsCut
import Derived.Test.YtffmijafhchjgaaDoorBitsJoinsPlay
namespace Go.Proofs.YtffmijafhchjgaaDoor.bitsJoins
open Go.RowKit Go.Sort
set_option linter.unusedVariables false

set_option maxRecDepth 100000 in
theorem core (hi lo to x y h l a b n v sx : Nat) (z : Int) (W0 w : World) (hb0 : Below W0.heap.size W0 w) (hal : ∀ w' : World, Below W0.heap.size W0 w' → Calls Tryd.prog 14 #[] w' fun e w'' => e = .returned (.bool true) ∧ Below w'.heap.size w' w'')
    (hto : to < 256) (hx : x < 18446744073709551616) (hy : y < 18446744073709551616) (hh : h = hi % 32 + 1) (hl : l = lo % 32 + 1) (ha : a = x % 2 ^ h) (hb : b = y % 2 ^ l) (hn : n = h + l) (hv : v = h + to % (65 - h)) (hz : z = sg h a) (hs : sx = (z % 2 ^ v).toNat) :
    Calls Tryd.prog 4 #[.int .u8 hi, .int .u8 lo, .int .u8 to, .int .u64 x, .int .u64 y] w fun e w' => e = .returned (.bool true) ∧ Below w.heap.size w w' := by
  have h0 : 1 ≤ h := by omega
  have l0 : 1 ≤ l := by omega
  have hl64 : h + l ≤ 64 := by omega
  have hal' : a < 2 ^ h := by rw [ha]; exact Nat.mod_lt _ (pow_pos' h)
  have hbl' : b < 2 ^ l := by rw [hb]; exact Nat.mod_lt _ (pow_pos' l)
  have hvr : h ≤ v ∧ v ≤ 64 := by have := Nat.mod_lt to (show 0 < 65 - h by omega); omega
  obtain ⟨c, hc⟩ : ∃ c, c = a * 2 ^ l + b := ⟨_, rfl⟩
  have hcl : c < 2 ^ n := by rw [hc, hn]; exact joined_lt h l a b hal' hbl'
  have C1 : Hid (∀ W, Calls Tryd.prog 11 #[.int .u8 ((hi : Int) % 32), .int .u64 x] W fun e w' => e = .returned (.tuple #[.int .i64 h, .int .u64 a]) ∧ W = w') := Lib.hid fun W => by
    have := cut_any (hi % 32) x h W (by omega) hx
    rw [← ha] at this
    exact this
  have C2 : Hid (∀ W, Calls Tryd.prog 11 #[.int .u8 ((lo : Int) % 32), .int .u64 y] W fun e w' => e = .returned (.tuple #[.int .i64 l, .int .u64 b]) ∧ W = w') := Lib.hid fun W => by
    have := cut_any (lo % 32) y l W (by omega) hy
    rw [← hb] at this
    exact this
  have K := Lib.hid fun W => concat_any h a l b W (by omega)
  rw [catR_ok h l a b h0 l0 hl64 hal' hbl', ← hc] at K
  have E1 := Lib.hid fun W => extract_any n c l h W (by omega) (by omega)
  rw [exR_ok n c l h (by omega) (by omega) hcl h0 (by omega), hc, joined_top h l a b hal' hbl', ← hc] at E1
  have E2 : Hid (∀ W, Calls Tryd.prog 13 #[.int .i64 n, .int .u64 c, .int .i64 0, .int .i64 l] W fun e w' => e = .returned (.tuple #[.int .u64 b, .int .i64 0]) ∧ Below W.heap.size W w') := Lib.hid fun W => by
    have := extract_any n c (0 : Nat) l W (by omega) (by omega)
    rw [exR_ok n c 0 l (by omega) (by omega) hcl l0 (by omega), hc, joined_end l a b hbl', ← hc] at this
    exact this
  have X1 := Lib.hid fun W => extend_any h a v false W
  rw [extR_ok h a v false h0 hal' hvr.1 hvr.2] at X1
  have X2 := Lib.hid fun W => extend_any h a v true W
  rw [extR_ok h a v true h0 hal' hvr.1 hvr.2, if_pos rfl, ← hz, ← hs] at X2
  have hsb := sg_back h v a h0 hvr.1 hal'
  rw [← hz, ← hs] at hsb
  have S1 := Lib.hid fun W => signedP_any h a W
  rw [sgR_ok' h a h0 (by omega) hal', ← hz] at S1
  have S2 := Lib.hid fun W => signedP_any v sx W
  rw [sgR_ok' v sx (by omega) hvr.2 hsb.1, hsb.2] at S2
  have T := Lib.hid fun W => textP_ok n c W (by omega) (by omega) hcl
  have P := Lib.hid fun W => parse_text n c W (by omega) (by omega) hcl
  obtain ⟨s, hs'⟩ : ∃ s, s = textB n c := ⟨_, rfl⟩
  rw [← hs'] at T P
  have AL := Lib.hid hal
  have B0 := Lib.hid hb0
  have hadd : (h : Int) + (l : Int) = (n : Int) := by omega
  have hmod : wrap64 ((h : Int) + (wrap64 (to : Int)).tmod (65 - (h : Int))) = (v : Int) := by
    have e : (65 : Int) - (h : Int) = ((65 - h : Nat) : Int) := by omega
    have hm := Nat.mod_lt to (show 0 < 65 - h by omega)
    rw [wrap64_small (to : Int) (by omega) (by omega), e, show ((to : Int)).tmod ((65 - h : Nat) : Int) = ((to % (65 - h) : Nat) : Int) from (Int.ofNat_tmod to (65 - h)).symm, wrap64_small _ (by omega) (by omega), hv]
    simp
  clear hto hx hy hh hl ha hb hn hv hz hs l0 hal' hbl' hc hcl hsb hs' hal hb0
  go_enter Tryd.func4, Tryd.ntmps4
  go_wp2_with (first
    | (go_at_call 11; (with_reducible refine (C1.out _).mono ?_); rintro e w' ⟨rfl, rfl⟩)
    | (go_at_call 11; (with_reducible refine (C2.out _).mono ?_); rintro e w' ⟨rfl, rfl⟩)
    | (go_at_call 12; (with_reducible refine (K.out _).mono ?_); rintro e w1 ⟨rfl, hb1⟩; replace hb1 := Lib.hid hb1)
    | (go_at_call 13; (with_reducible refine (E1.out _).mono ?_); rintro e w2 ⟨rfl, hb2⟩; replace hb2 := Lib.hid hb2)
    | (go_at_call 13; (with_reducible refine (E2.out _).mono ?_); rintro e w3 ⟨rfl, hb3⟩; replace hb3 := Lib.hid hb3)
    | (go_at_call 14; (with_reducible refine (AL.out _ (((B0.out.trans (hb1.out.mono B0.out.size)).trans (hb2.out.mono (Nat.le_trans B0.out.size hb1.out.size))).trans (hb3.out.mono (Nat.le_trans (Nat.le_trans B0.out.size hb1.out.size) hb2.out.size)))).mono ?_); rintro e w4 ⟨rfl, hb4⟩; replace hb4 := Lib.hid hb4)
    | (go_at_call 15; (with_reducible refine (X1.out _).mono ?_); rintro e w5 ⟨rfl, hb5⟩; replace hb5 := Lib.hid hb5)
    | (go_at_call 15; (with_reducible refine (X2.out _).mono ?_); rintro e w6 ⟨rfl, hb6⟩; replace hb6 := Lib.hid hb6)
    | (go_at_call 16; (with_reducible refine (S1.out _).mono ?_); rintro e w7 ⟨rfl, hb7⟩; replace hb7 := Lib.hid hb7)
    | (go_at_call 16; (with_reducible refine (S2.out _).mono ?_); rintro e w8 ⟨rfl, hb8⟩; replace hb8 := Lib.hid hb8)
    | (go_at_call 5; (with_reducible refine (T.out _).mono ?_); rintro e w9 ⟨rfl, hb9⟩; replace hb9 := Lib.hid hb9)
    | (go_at_call 7; (with_reducible refine (P.out _).mono ?_); rintro e wa ⟨rfl, hba⟩; replace hba := Lib.hid hba))
  go_ret
  exact ⟨rfl, thenB (thenB (thenB (thenB (thenB (thenB (thenB (thenB (thenB hb1.out hb2.out) hb3.out) hb4.out) hb5.out) hb6.out) hb7.out) hb8.out) hb9.out) hba.out⟩

theorem nat_of {k : IntKind} {a : Int} (h : 0 ≤ a) : ∃ m : Nat, a = m := ⟨a.toNat, by omega⟩
theorem walk (a0 a1 a2 a3 a4 : Int) (w0 : (Lit.int .u8 a0).wf = true) (w1 : (Lit.int .u8 a1).wf = true) (w2 : (Lit.int .u8 a2).wf = true) (w3 : (Lit.int .u64 a3).wf = true) (w4 : (Lit.int .u64 a4).wf = true) (W : World) (hL : laidMetH Tryd.prog Rows.bitsJoinsRow.laid W) :
    Calls Tryd.prog 4 #[.int .u8 a0, .int .u8 a1, .int .u8 a2, .int .u64 a3, .int .u64 a4] W fun e w' => e = .returned (.bool true) ∧ Below W.heap.size W w' := by
  simp [Lit.wf, IntKind.min, IntKind.max, IntKind.bits, IntKind.signed] at w0 w1 w2 w3 w4
  obtain ⟨hi, rfl⟩ : ∃ m : Nat, a0 = m := ⟨a0.toNat, by omega⟩
  obtain ⟨lo, rfl⟩ : ∃ m : Nat, a1 = m := ⟨a1.toNat, by omega⟩
  obtain ⟨to, rfl⟩ : ∃ m : Nat, a2 = m := ⟨a2.toNat, by omega⟩
  obtain ⟨x, rfl⟩ : ∃ m : Nat, a3 = m := ⟨a3.toNat, by omega⟩
  obtain ⟨y, rfl⟩ : ∃ m : Nat, a4 = m := ⟨a4.toNat, by omega⟩
  exact core hi lo to x y _ _ _ _ _ _ _ _ W W (Below.refl _ _) (fun w' hb => alive_later W w' hb hL) (by omega) (by omega) (by omega) rfl rfl rfl rfl rfl rfl rfl rfl
end Go.Proofs.YtffmijafhchjgaaDoor.bitsJoins
