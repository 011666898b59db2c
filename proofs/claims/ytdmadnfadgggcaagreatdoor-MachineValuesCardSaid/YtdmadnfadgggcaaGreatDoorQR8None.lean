import Derived.Test.YtdmadnfadgggcaaGreatDoorQR8Base
set_option linter.unusedVariables false
set_option linter.unusedSimpArgs false
set_option warningAsError false
set_option maxHeartbeats 4000000
open Go.Lib (hid)
open Go.Proofs.Tryz (prog)
namespace Go.Proofs.YtdmadnfadgggcaaGreatDoor
open Go.RowKit Go.Instr Go.Sort
set_option maxRecDepth 100000
theorem zcf (W : World) (kd wd bt lo n : Int) (s : ByteArray) (A : Option Addr) (c : Nat) (b1 b2 b3 b4 b5 b6 : Bool) (h1 : (kd == 0) = b1) (h2 : (wd == 0) = b2) (h3 : (bt == 0) = b3) (h4 : s.toList.isEmpty = b4) (h5 : (lo == 0) = b5) (nn : Nat) (h6 : ((nn : Int) == 0) = b6) :
 Calls prog 126 #[.agg #[.int .u8 kd, .int .i64 wd, .int .u64 bt, .string s, .int .i64 lo, .slice A nn c]] W fun e w' => e = .returned (.bool (b1 && (b2 && (b3 && (b4 && (b5 && b6)))))) /\ Below W.heap.size W w' := by
 have HB := hid ((Below.refl W.heap.size W).alloc (Nat.le_refl _) (.cells #[.int .u8 kd, .int .i64 wd, .int .u64 bt, .string s, .int .i64 lo, .slice A nn c] 90))
 cases b1 with
 | false =>
   go_enter Tryz.func126, Tryz.ntmps126
   go_wp2
   go_ret
   exact ⟨rfl, HB.out⟩
 | true =>
   cases b2 with
   | false =>
     go_enter Tryz.func126, Tryz.ntmps126
     go_wp2
     go_ret
     exact ⟨rfl, HB.out⟩
   | true =>
     cases b3 with
     | false =>
       go_enter Tryz.func126, Tryz.ntmps126
       go_wp2
       go_ret
       exact ⟨rfl, HB.out⟩
     | true =>
       cases b4 with
       | false =>
         go_enter Tryz.func126, Tryz.ntmps126
         go_wp2
         go_ret
         exact ⟨rfl, HB.out⟩
       | true =>
         cases b5 with
         | false =>
           go_enter Tryz.func126, Tryz.ntmps126
           go_wp2
           go_ret
           exact ⟨rfl, HB.out⟩
         | true =>
           cases b6 with
           | false =>
             go_enter Tryz.func126, Tryz.ntmps126
             go_wp2
             go_ret
             exact ⟨rfl, HB.out⟩
           | true =>
             go_enter Tryz.func126, Tryz.ntmps126
             go_wp2
             go_ret
             exact ⟨rfl, HB.out⟩
theorem zec (W : World) (t : Tm) (cs : List Value) (hE : zcn W cs t) :
 Calls prog 126 #[.agg cs.toArray] W fun e w' => e = .returned (.bool (z2z t)) /\ Below W.heap.size W w' := by
 obtain ⟨sv, rfl, _, hs⟩ := hE;obtain ⟨A, n, c, S, rfl, hn, _⟩ := hs.inv;have h := zcf W t.kind t.width t.bits t.low 0 t.name A c _ _ _ _ _ _ rfl rfl rfl rfl rfl n rfl;unfold z2z;rw [hn];exact h
theorem zci (w : World) (n : Nat) (hn : n <= 62) : Calls prog 90 #[.int .i64 (n : Nat)] w fun e w' => e = .returned (.int .i64 (2 ^ n : Nat)) /\ Below w.heap.size w w' := by
 obtain ⟨r, hr⟩ : ∃ z, 2 ^ n = z := ⟨_, rfl⟩;have HR := hid hr;rw [hr];clear hr;go_enter Tryz.func90, Tryz.ntmps90
 go_wp2
 go_loopw [3, 4] (fun vx vi wr => ∃ i x : Nat, vi = .int .i64 i /\ vx = .int .i64 (x : Nat) /\ i <= n /\ Hid (Below w.heap.size w wr /\ x = 2 ^ i)) (fun _ vi _ => n - (intOf vi).toNat)
 case atStart => exact ⟨0, 1, rfl, rfl, Nat.zero_le _, hid ⟨Below.refl _ _, rfl⟩⟩
 case round =>
  obtain ⟨i, x, rfl, rfl, hi, HB⟩ := hrel;by_cases hlt : i < n
  ·have hin : (i : Int) < (n : Int) := by omega
   have HLT := hid hlt;have hx : 2 * x <= 4611686018427387904 := by rw [HB.out.2, show 2 * 2 ^ i = 2 ^ (i + 1) by rw [Nat.pow_succ]; omega];exact Nat.le_trans (Nat.pow_le_pow_right (by omega) (show i + 1 <= 62 by omega)) (by decide)
   have hw : IntKind.i64.wrap (2 * (x : Int)) = ((2 * x : Nat) : Int) := by rw [IntWalk.i64_in _ (by omega)]; omega
   have hw2 : wrap64 (2 * (x : Int)) = ((2 * x : Nat) : Int) := by rw [zd _ (by omega) (by omega)]; omega
   have HX := hid (show 2 * x = 2 ^ (i + 1) by rw [HB.out.2, Nat.pow_succ]; omega);go_wp2
   refine ⟨⟨i + 1, 2 * x, by first | rfl | go_num | (congr 1), by first | rfl | go_num | (congr 1), by have := HLT.out; omega, hid ⟨HB.out.1, HX.out⟩⟩, by simp only [intOf]; have := HLT.out; omega⟩
  ·obtain rfl : i = n := by omega
   obtain rfl : x = r := by rw [HB.out.2, HR.out]
   go_wp2
   go_ret
   exact ⟨rfl, HB.out.1⟩
end Go.Proofs.YtdmadnfadgggcaaGreatDoor
