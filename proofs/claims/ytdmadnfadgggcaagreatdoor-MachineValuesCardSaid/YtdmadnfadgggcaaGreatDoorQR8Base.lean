import Derived.Test.YtdmadnfadgggcaaGreatDoorGo
set_option linter.unusedVariables false
set_option linter.unusedSimpArgs false
set_option warningAsError false
open Go.Lib (hid)
open Go.Proofs.Tryz (prog)
namespace Go.Proofs.YtdmadnfadgggcaaGreatDoor
open Go.RowKit Go.Instr
set_option maxRecDepth 100000
theorem z1d (w : World) (n a b : Int) : Calls prog 46 #[.int .i64 n, .int .i64 a, .int .i64 b] w fun e w' => e = .returned (.bool (decide (a <= n /\ n <= b))) /\ w' = w := by
 by_cases h1 : a <= n
 ·by_cases h2 : n <= b
  ·rw [decide_eq_true (show a <= n /\ n <= b from ⟨h1, h2⟩)];go_enter Tryz.func46, Tryz.ntmps46
   go_wp2
   exact bodyPost_ret (v := .bool true) (by simp [results, Tryz.results46, go_sem, h1, h2]) rfl ⟨rfl, rfl⟩
  ·rw [decide_eq_false (show ¬ (a <= n /\ n <= b) from fun h => h2 h.2)];go_enter Tryz.func46, Tryz.ntmps46
   go_wp2
   exact bodyPost_ret (v := .bool false) (by simp [results, Tryz.results46, go_sem, h1]) rfl ⟨rfl, rfl⟩
 ·rw [decide_eq_false (show ¬ (a <= n /\ n <= b) from fun h => h1 h.1)];go_enter Tryz.func46, Tryz.ntmps46
  go_wp2
  exact bodyPost_ret (v := .bool false) (by simp [results, Tryz.results46, go_sem]) rfl ⟨rfl, rfl⟩
theorem z5e (w : World) (x n : Nat) (hx : x < 18446744073709551616) (hn : n <= 1000) : Calls prog 54 #[.int .u64 (x : Nat), .int .i64 (n : Nat)] w fun e w' => e = .returned (.bool (decide (x < 2 ^ n))) /\ Below w.heap.size w w' := by
 have HX := hid hx;obtain ⟨r, hr⟩ : ∃ z, decide (x < 2 ^ n) = z := ⟨_, rfl⟩;have HR := hid hr;rw [hr];clear hx hr;go_enter Tryz.func54, Tryz.ntmps54
 go_wp2
 go_loopw [0, 5] (fun vx vi wr => ∃ i : Nat, vi = .int .i64 i /\ vx = .int .u64 (x / 2 ^ i : Nat) /\ i <= n /\ Hid (Below w.heap.size w wr)) (fun _ vi _ => n - (intOf vi).toNat)
 case atStart => exact ⟨0, rfl, by simp, Nat.zero_le _, hid (Below.refl _ _)⟩
 case round =>
  obtain ⟨i, rfl, rfl, hi, HB⟩ := hrel;obtain ⟨y, hy⟩ : ∃ z, x / 2 ^ i = z := ⟨_, rfl⟩;have HY := hid hy;rw [hy];by_cases hlt : i < n
  ·have hin : (i : Int) < (n : Int) := by omega
   have HLT := hid hlt;have HY2 := hid (show x / 2 ^ (i + 1) = y / 2 by rw [<- hy, Nat.pow_succ, Nat.div_div_eq_div_mul]);have hy2 : y < 18446744073709551616 := by rw [<- hy]; exact Nat.lt_of_le_of_lt (Nat.div_le_self _ _) HX.out
   clear hy;go_wp2
   go_roundw
   case rel => exact ⟨i + 1, by first | rfl | go_num | (congr 1), by rw [HY2.out]; first | rfl | go_num | (congr 1), by have := HLT.out; omega, HB⟩
   case measure => simp only [intOf]; have := HLT.out; omega
  ·obtain rfl : i = n := by omega
   have e : decide (x < 2 ^ i) = decide (y = 0) := by
    have h1 := Nat.two_pow_pos i;have : x < 2 ^ i ↔ y = 0 := by
     rw [<- hy];constructor
     ·exact fun h => Nat.div_eq_of_lt h
     ·intro h;have := Nat.div_add_mod x (2 ^ i);have := Nat.mod_lt x h1;rw [h] at *;omega
    simp only [this]
   rw [HR.out] at e;clear hy HR;have hq : r = ((y : Int) == 0) := by rw [e]; by_cases h0 : y = 0 <;> simp [h0]
   clear e;subst hq;go_wp2
   go_ret
   exact ⟨rfl, HB.out⟩
theorem z4b (w : World) (x n : Nat) (hx : x < 18446744073709551616) (hn : n <= 1000) : Calls prog 55 #[.int .u64 (x : Nat), .int .i64 (n : Nat)] w fun e w' => e = .returned (.int .i64 (x / 2 ^ n % 2 : Nat)) /\ Below w.heap.size w w' := by
 have HX := hid hx;obtain ⟨r, hr⟩ : ∃ z, x / 2 ^ n % 2 = z := ⟨_, rfl⟩;have HR := hid hr;rw [hr];clear hx hr;go_enter Tryz.func55, Tryz.ntmps55
 go_wp2
 go_loopw [0, 5] (fun vx vi wr => ∃ i : Nat, vi = .int .i64 i /\ vx = .int .u64 (x / 2 ^ i : Nat) /\ i <= n /\ Hid (Below w.heap.size w wr)) (fun _ vi _ => n - (intOf vi).toNat)
 case atStart => exact ⟨0, rfl, by simp, Nat.zero_le _, hid (Below.refl _ _)⟩
 case round =>
  obtain ⟨i, rfl, rfl, hi, HB⟩ := hrel;obtain ⟨y, hy⟩ : ∃ z, x / 2 ^ i = z := ⟨_, rfl⟩;have HY := hid hy;rw [hy];by_cases hlt : i < n
  ·have hin : (i : Int) < (n : Int) := by omega
   have HLT := hid hlt;have HY2 := hid (show x / 2 ^ (i + 1) = y / 2 by rw [<- hy, Nat.pow_succ, Nat.div_div_eq_div_mul]);have hy2 : y < 18446744073709551616 := by rw [<- hy]; exact Nat.lt_of_le_of_lt (Nat.div_le_self _ _) HX.out
   clear hy;go_wp2
   go_roundw
   case rel => exact ⟨i + 1, by first | rfl | go_num | (congr 1), by rw [HY2.out]; first | rfl | go_num | (congr 1), by have := HLT.out; omega, HB⟩
   case measure => simp only [intOf]; have := HLT.out; omega
  ·obtain rfl : i = n := by omega
   have hr := HR.out;rw [hy] at hr;subst hr;clear hy HR;have hw : IntKind.i64.wrap ((y : Int) % 2) = ((y % 2 : Nat) : Int) := by rw [IntWalk.i64_in _ (by omega)]; omega
   go_wp2
   exact bodyPost_ret (v := .int .i64 (y % 2 : Nat)) (by simp [results, Tryz.results55, go_sem]) rfl ⟨rfl, HB.out⟩
end Go.Proofs.YtdmadnfadgggcaaGreatDoor
