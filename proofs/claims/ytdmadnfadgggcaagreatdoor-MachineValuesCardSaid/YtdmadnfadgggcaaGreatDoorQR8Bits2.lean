import Derived.Test.YtdmadnfadgggcaaGreatDoorQR8Base
set_option linter.unusedVariables false
set_option linter.unusedSimpArgs false
set_option warningAsError false
set_option maxHeartbeats 2000000
open Go.Lib (hid)
open Go.Proofs.Tryz (prog)
namespace Go.Proofs.YtdmadnfadgggcaaGreatDoor
open Go.RowKit Go.Instr Go.Sort
set_option maxRecDepth 100000
theorem zb2 (y i : Nat) : y % 2 ^ (i + 1) = y % 2 ^ i + y / 2 ^ i % 2 * 2 ^ i := by rw [Nat.pow_succ, Nat.mod_mul];rw [Nat.mul_comm (2 ^ i)]
theorem zd0 (w : World) (x l k : Nat) (hx : x < 18446744073709551616) (hl : l <= 64) (hk : k <= 64) :
 Calls prog 51 #[.int .u64 (x : Nat), .int .i64 (l : Nat), .int .i64 (k : Nat)] w fun e w' => e = .returned (.int .u64 (x / 2 ^ l % 2 ^ k : Nat)) /\ Below w.heap.size w w' := by
 obtain ⟨y, hy⟩ : ∃ z, x / 2 ^ l = z := ⟨_, rfl⟩;have HX := hid hx;have HBI := hid (show ∀ (i : Nat), i < 64 -> ∀ X, Calls prog 55 #[.int .u64 (x : Nat), .int .i64 ((l : Int) + (i : Int))] X fun e w' => e = .returned (.int .i64 (y / 2 ^ i % 2 : Nat)) /\ Below X.heap.size X w' from fun i hi X => by have := z4b X x (l + i) hx (by omega);rw [Nat.pow_add, <- Nat.div_div_eq_div_mul, hy, show ((l + i : Nat) : Int) = (l : Int) + (i : Int) by omega] at this;exact this)
 rw [hy];obtain ⟨r, hr⟩ : ∃ z, y % 2 ^ k = z := ⟨_, rfl⟩;have HR := hid hr;rw [hr];have HLK := hid (And.intro hl hk);clear hr hy hx;go_enter Tryz.func51, Tryz.ntmps51
 go_wp2
 go_loopw [7, 8, 9] (fun vo vv vi wr => ∃ (o p i : Nat), vo = .int .u64 (o : Nat) /\ vv = .int .u64 (p : Nat) /\ vi = .int .i64 (i : Nat) /\ i <= k /\ Hid (Below w.heap.size w wr /\ o = y % 2 ^ i /\ p = 2 ^ i % 18446744073709551616)) (fun _ _ vi _ => k - (intOf vi).toNat)
 case atStart => exact ⟨0, 1, 0, rfl, rfl, rfl, Nat.zero_le _, hid ⟨Below.refl _ _, by rw [Nat.pow_zero, Nat.mod_one], by decide⟩⟩
 case round =>
  obtain ⟨o, p, i, rfl, rfl, rfl, hi, HI⟩ := hrel;obtain ⟨hb, ho, hp⟩ := HI.out;by_cases hlt : i < k
  ·have hli : wrap64 ((l : Int) + (i : Int)) = (l : Int) + (i : Int) := zd _ (by omega) (by omega);have HC := hid (HBI.out i (by omega));obtain ⟨b, hb2⟩ : ∃ z, y / 2 ^ i % 2 = z := ⟨_, rfl⟩;rw [hb2] at HC;have hb3 : b = 0 ∨ b = 1 := by omega
   have hpi : 2 ^ i < 18446744073709551616 := Nat.lt_of_lt_of_le (Nat.pow_lt_pow_right (by decide) (show i < 64 by omega)) (by decide);have hp2 : p = 2 ^ i := by rw [hp]; exact Nat.mod_eq_of_lt hpi
   have hlo := zb2 y i;rw [hb2] at hlo;have hol : y % 2 ^ (i + 1) < 2 ^ (i + 1) := Nat.mod_lt _ (Nat.two_pow_pos _);have hpl : 2 ^ (i + 1) <= 18446744073709551616 := Nat.pow_le_pow_right (n := 2) (j := 64) (by decide) (by omega);have HN := hid (show o + b * p = y % 2 ^ (i + 1) by rw [hlo, ho, hp2]);have hos : o + b * p < 18446744073709551616 := by rw [HN.out]; omega
   have hps : IntKind.u64.wrap (2 * (p : Int)) = ((2 ^ (i + 1) % 18446744073709551616 : Nat) : Int) := by rw [IntKind.wrap_u64, hp2, Nat.pow_succ];omega
   have hov : b = 1 -> IntKind.u64.wrap ((o : Int) + (p : Int)) = ((y % 2 ^ (i + 1) : Nat) : Int) := fun e => by have h9 := HN.out;rw [e, Nat.one_mul] at h9 hos;rw [IntKind.wrap_u64, <- h9];omega
   obtain ⟨pn, hpn⟩ : ∃ z, 2 ^ (i + 1) % 18446744073709551616 = z := ⟨_, rfl⟩;rw [hpn] at hps;obtain ⟨on, hon⟩ : ∃ z, y % 2 ^ (i + 1) = z := ⟨_, rfl⟩;rw [hon] at hov HN;have HPN := hid hpn;have HON := hid hon;have HB := hid hb;have HLT := hid hlt;have hin : (i : Int) < (k : Int) := by omega
   have HPS := hid hps;clear hb ho hp HI hb2 hpi hp2 hlo hol hpl hos hpn hon hlt;rcases hb3 with rfl | rfl
   ·obtain rfl : o = on := by have := HN.out; omega
    clear hov;go_wp2_with (go_at_call 55; (with_reducible refine (HC.out _).mono ?_); rintro e w5 ⟨rfl, hb5⟩)
    refine ⟨⟨o, pn, i + 1, rfl, by first | rfl | (congr 1), by first | rfl | go_num | (congr 1), by have := HLT.out; omega, hid ⟨HB.out.trans (hb5.mono HB.out.size), HON.out.symm, HPN.out.symm⟩⟩, by simp only [intOf]; have := HLT.out; omega⟩
   ·have hov2 := hov rfl;clear hov;go_wp2_with (go_at_call 55; (with_reducible refine (HC.out _).mono ?_); rintro e w5 ⟨rfl, hb5⟩)
    refine ⟨⟨on, pn, i + 1, by first | rfl | (congr 1), by first | rfl | (congr 1), by first | rfl | go_num | (congr 1), by have := HLT.out; omega, hid ⟨HB.out.trans (hb5.mono HB.out.size), HON.out.symm, HPN.out.symm⟩⟩, by simp only [intOf]; have := HLT.out; omega⟩
  ·obtain rfl : i = k := by omega
   obtain rfl : o = r := by rw [ho, HR.out]
   have HB := hid hb;clear hb ho hp HI;go_wp2
   exact bodyPost_ret (v := .int .u64 (o : Nat)) (by simp [results, Tryz.results51, go_sem]) rfl ⟨rfl, HB.out⟩
end Go.Proofs.YtdmadnfadgggcaaGreatDoor
