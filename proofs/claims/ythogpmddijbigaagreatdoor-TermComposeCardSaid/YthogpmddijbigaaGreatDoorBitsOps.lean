/- Contracts of the operations of package bits: each of the sixteen function values, and the array that holds them. -/
import Derived.Test.YthogpmddijbigaaGreatDoorBitsCheck
import Derived.Lib.QuietBelow
import Derived.Laws.CopyOwn
import Derived.Laws.Tables
import Derived.Laws.Rows
namespace Go.Proofs.YthogpmddijbigaaGreatDoor
open Go.RowKit Go.Sort
set_option linter.unusedVariables false

/-- What the operation of a kind gives, before the bits above the width are taken off. -/
def raw (k n a b : Nat) : Nat :=
  match k with
  | 3 => 18446744073709551615 - a
  | 4 => (18446744073709551616 - a) % 18446744073709551616
  | 5 => (a + b) % 18446744073709551616
  | 6 => (a + (18446744073709551616 - b)) % 18446744073709551616
  | 7 => a * b % 18446744073709551616
  | 8 => a &&& b
  | 9 => a ||| b
  | 10 => a ^^^ b
  | 11 => a * 2 ^ min b 64 % 18446744073709551616
  | 12 => a / 2 ^ min b 64
  | 13 => (sg n a / 2 ^ min b 64 % 18446744073709551616).toNat
  | 14 => if b = 0 then 18446744073709551615 else a / b
  | 15 => if b = 0 then a else a % b
  | 16 => if a = b then 1 else 0
  | 17 => if a < b then 1 else 0
  | 18 => if sg n a < sg n b then 1 else 0
  | _ => 0

theorem ret_u64 {a b : Int} (h : a = b) : Ending.returned (.int .u64 a) = .returned (.int .u64 b) := by rw [h]

def bitN (p : Bool) : Nat := match p with | true => 1 | false => 0
theorem bit_any (p : Bool) (w : World) :
    Calls Tryz.prog 115 #[.bool p] w fun e w' => e = .returned (.int .u64 (bitN p : Nat)) ∧ w = w' := by
  cases p <;>
  · go_enter Tryz.func115, Tryz.ntmps115
    go_wp2
    go_ret
    exact ⟨rfl, rfl⟩
theorem quotient_any (a b : Nat) (w : World) (ha : a < 18446744073709551616) :
    Calls Tryz.prog 111 #[.int .u64 a, .int .u64 b] w fun e w' => e = .returned (.int .u64 (raw 14 0 a b : Nat)) ∧ w = w' := by
  have HA := Lib.hid ha
  clear ha
  by_cases hb : b = 0
  · subst hb
    have h0 : (((0 : Nat) : Int) == 0) = true := rfl
    go_enter Tryz.func111, Tryz.ntmps111
    go_wp2
    go_ret
    exact ⟨rfl, rfl⟩
  · have h0 : ((b : Int) == 0) = false := by simp; exact hb
    have h1 : (1 : Int) ≤ b := by omega
    go_enter Tryz.func111, Tryz.ntmps111
    go_wp2
    go_ret
    refine ⟨ret_u64 ?_, rfl⟩
    have := HA.out
    have h2 : a / b ≤ a := Nat.div_le_self a b
    simp only [raw, if_neg hb]
    rw [IntKind.wrap_u64, ← Int.natCast_ediv]
    generalize a / b = q at h2
    omega
theorem remainder_any (a b : Nat) (w : World) :
    Calls Tryz.prog 113 #[.int .u64 a, .int .u64 b] w fun e w' => e = .returned (.int .u64 (raw 15 0 a b : Nat)) ∧ w = w' := by
  by_cases hb : b = 0
  · subst hb
    have h0 : (((0 : Nat) : Int) == 0) = true := rfl
    go_enter Tryz.func113, Tryz.ntmps113
    go_wp2
    go_ret
    exact ⟨rfl, rfl⟩
  · have h0 : ((b : Int) == 0) = false := by simp; exact hb
    have h1 : (1 : Int) ≤ b := by omega
    go_enter Tryz.func113, Tryz.ntmps113
    go_wp2
    go_ret
    refine ⟨ret_u64 ?_, rfl⟩
    simp only [raw, if_neg hb]
    exact (Int.natCast_emod a b).symm

theorem not_u64 (a : Nat) (ha : a < 18446744073709551616) : bits .xor .u64 IntKind.u64.max (a : Int) = ((18446744073709551615 - a : Nat) : Int) := by
  have e : IntKind.u64.max = ((18446744073709551615 : Nat) : Int) := rfl
  rw [e, bits_xor_u64_nat _ _ (by decide) ha]
  congr 1
  have h := congrArg BitVec.toNat (BitVec.allOnes_xor (x := BitVec.ofNat 64 a))
  rw [BitVec.toNat_xor, BitVec.toNat_not, BitVec.toNat_ofNat, BitVec.toNat_allOnes, Nat.mod_eq_of_lt (by exact ha)] at h
  exact h

theorem kind3 (n a b : Nat) (w : World) (h0 : 1 ≤ n) (h1 : n ≤ 64) (ha : a < 2 ^ n) (hb : b < 2 ^ n) :
    Calls Tryz.prog 99 #[.int .i64 n, .int .u64 a, .int .u64 b] w fun e w' => e = .returned (.int .u64 (raw 3 n a b : Nat)) ∧ w = w' := by
  have hA : a < 18446744073709551616 := by have := pow_le n h1; omega
  have hB : b < 18446744073709551616 := by have := pow_le n h1; omega
  have HA := Lib.hid hA; have HB := Lib.hid hB; have Ha := Lib.hid ha; have Hb := Lib.hid hb
  clear ha hb hA hB
  go_enter Tryz.func99, Tryz.ntmps99
  go_wp2
  go_ret
  refine ⟨ret_u64 ?_, rfl⟩
  have hA := HA.out; have hB := HB.out
  simp only [raw]
  rw [not_u64 a hA]

theorem kind4 (n a b : Nat) (w : World) (h0 : 1 ≤ n) (h1 : n ≤ 64) (ha : a < 2 ^ n) (hb : b < 2 ^ n) :
    Calls Tryz.prog 100 #[.int .i64 n, .int .u64 a, .int .u64 b] w fun e w' => e = .returned (.int .u64 (raw 4 n a b : Nat)) ∧ w = w' := by
  have hA : a < 18446744073709551616 := by have := pow_le n h1; omega
  have hB : b < 18446744073709551616 := by have := pow_le n h1; omega
  have HA := Lib.hid hA; have HB := Lib.hid hB; have Ha := Lib.hid ha; have Hb := Lib.hid hb
  clear ha hb hA hB
  go_enter Tryz.func100, Tryz.ntmps100
  go_wp2
  go_ret
  refine ⟨ret_u64 ?_, rfl⟩
  have hA := HA.out; have hB := HB.out
  simp only [raw]
  rw [IntKind.wrap_u64]
  omega

theorem kind5 (n a b : Nat) (w : World) (h0 : 1 ≤ n) (h1 : n ≤ 64) (ha : a < 2 ^ n) (hb : b < 2 ^ n) :
    Calls Tryz.prog 101 #[.int .i64 n, .int .u64 a, .int .u64 b] w fun e w' => e = .returned (.int .u64 (raw 5 n a b : Nat)) ∧ w = w' := by
  have hA : a < 18446744073709551616 := by have := pow_le n h1; omega
  have hB : b < 18446744073709551616 := by have := pow_le n h1; omega
  have HA := Lib.hid hA; have HB := Lib.hid hB; have Ha := Lib.hid ha; have Hb := Lib.hid hb
  clear ha hb hA hB
  go_enter Tryz.func101, Tryz.ntmps101
  go_wp2
  go_ret
  refine ⟨ret_u64 ?_, rfl⟩
  have hA := HA.out; have hB := HB.out
  simp only [raw]
  rw [IntKind.wrap_u64]
  omega

theorem kind6 (n a b : Nat) (w : World) (h0 : 1 ≤ n) (h1 : n ≤ 64) (ha : a < 2 ^ n) (hb : b < 2 ^ n) :
    Calls Tryz.prog 102 #[.int .i64 n, .int .u64 a, .int .u64 b] w fun e w' => e = .returned (.int .u64 (raw 6 n a b : Nat)) ∧ w = w' := by
  have hA : a < 18446744073709551616 := by have := pow_le n h1; omega
  have hB : b < 18446744073709551616 := by have := pow_le n h1; omega
  have HA := Lib.hid hA; have HB := Lib.hid hB; have Ha := Lib.hid ha; have Hb := Lib.hid hb
  clear ha hb hA hB
  go_enter Tryz.func102, Tryz.ntmps102
  go_wp2
  go_ret
  refine ⟨ret_u64 ?_, rfl⟩
  have hA := HA.out; have hB := HB.out
  simp only [raw]
  rw [IntKind.wrap_u64]
  omega

theorem kind7 (n a b : Nat) (w : World) (h0 : 1 ≤ n) (h1 : n ≤ 64) (ha : a < 2 ^ n) (hb : b < 2 ^ n) :
    Calls Tryz.prog 103 #[.int .i64 n, .int .u64 a, .int .u64 b] w fun e w' => e = .returned (.int .u64 (raw 7 n a b : Nat)) ∧ w = w' := by
  have hA : a < 18446744073709551616 := by have := pow_le n h1; omega
  have hB : b < 18446744073709551616 := by have := pow_le n h1; omega
  have HA := Lib.hid hA; have HB := Lib.hid hB; have Ha := Lib.hid ha; have Hb := Lib.hid hb
  clear ha hb hA hB
  go_enter Tryz.func103, Tryz.ntmps103
  go_wp2
  go_ret
  refine ⟨ret_u64 ?_, rfl⟩
  have hA := HA.out; have hB := HB.out
  simp only [raw]
  rw [IntKind.wrap_u64, ← Int.natCast_mul]
  exact (Int.natCast_emod _ _).symm

theorem kind8 (n a b : Nat) (w : World) (h0 : 1 ≤ n) (h1 : n ≤ 64) (ha : a < 2 ^ n) (hb : b < 2 ^ n) :
    Calls Tryz.prog 104 #[.int .i64 n, .int .u64 a, .int .u64 b] w fun e w' => e = .returned (.int .u64 (raw 8 n a b : Nat)) ∧ w = w' := by
  have hA : a < 18446744073709551616 := by have := pow_le n h1; omega
  have hB : b < 18446744073709551616 := by have := pow_le n h1; omega
  have HA := Lib.hid hA; have HB := Lib.hid hB; have Ha := Lib.hid ha; have Hb := Lib.hid hb
  clear ha hb hA hB
  go_enter Tryz.func104, Tryz.ntmps104
  go_wp2
  go_ret
  refine ⟨ret_u64 ?_, rfl⟩
  have hA := HA.out; have hB := HB.out
  simp only [raw]
  exact bits_and_u64_nat a b hA hB

theorem kind9 (n a b : Nat) (w : World) (h0 : 1 ≤ n) (h1 : n ≤ 64) (ha : a < 2 ^ n) (hb : b < 2 ^ n) :
    Calls Tryz.prog 105 #[.int .i64 n, .int .u64 a, .int .u64 b] w fun e w' => e = .returned (.int .u64 (raw 9 n a b : Nat)) ∧ w = w' := by
  have hA : a < 18446744073709551616 := by have := pow_le n h1; omega
  have hB : b < 18446744073709551616 := by have := pow_le n h1; omega
  have HA := Lib.hid hA; have HB := Lib.hid hB; have Ha := Lib.hid ha; have Hb := Lib.hid hb
  clear ha hb hA hB
  go_enter Tryz.func105, Tryz.ntmps105
  go_wp2
  go_ret
  refine ⟨ret_u64 ?_, rfl⟩
  have hA := HA.out; have hB := HB.out
  simp only [raw]
  exact bits_or_u64_nat a b hA hB

theorem kind10 (n a b : Nat) (w : World) (h0 : 1 ≤ n) (h1 : n ≤ 64) (ha : a < 2 ^ n) (hb : b < 2 ^ n) :
    Calls Tryz.prog 106 #[.int .i64 n, .int .u64 a, .int .u64 b] w fun e w' => e = .returned (.int .u64 (raw 10 n a b : Nat)) ∧ w = w' := by
  have hA : a < 18446744073709551616 := by have := pow_le n h1; omega
  have hB : b < 18446744073709551616 := by have := pow_le n h1; omega
  have HA := Lib.hid hA; have HB := Lib.hid hB; have Ha := Lib.hid ha; have Hb := Lib.hid hb
  clear ha hb hA hB
  go_enter Tryz.func106, Tryz.ntmps106
  go_wp2
  go_ret
  refine ⟨ret_u64 ?_, rfl⟩
  have hA := HA.out; have hB := HB.out
  simp only [raw]
  exact bits_xor_u64_nat a b hA hB

theorem kind11 (n a b : Nat) (w : World) (h0 : 1 ≤ n) (h1 : n ≤ 64) (ha : a < 2 ^ n) (hb : b < 2 ^ n) :
    Calls Tryz.prog 107 #[.int .i64 n, .int .u64 a, .int .u64 b] w fun e w' => e = .returned (.int .u64 (raw 11 n a b : Nat)) ∧ w = w' := by
  have hA : a < 18446744073709551616 := by have := pow_le n h1; omega
  have hB : b < 18446744073709551616 := by have := pow_le n h1; omega
  have HA := Lib.hid hA; have HB := Lib.hid hB; have Ha := Lib.hid ha; have Hb := Lib.hid hb
  clear ha hb hA hB
  go_enter Tryz.func107, Tryz.ntmps107
  go_wp2
  go_ret
  refine ⟨ret_u64 ?_, rfl⟩
  have hA := HA.out; have hB := HB.out
  simp only [raw]
  rw [IntKind.wrap_u64, Int.natCast_emod, Int.natCast_mul, Int.natCast_pow]
  rfl

theorem kind12 (n a b : Nat) (w : World) (h0 : 1 ≤ n) (h1 : n ≤ 64) (ha : a < 2 ^ n) (hb : b < 2 ^ n) :
    Calls Tryz.prog 108 #[.int .i64 n, .int .u64 a, .int .u64 b] w fun e w' => e = .returned (.int .u64 (raw 12 n a b : Nat)) ∧ w = w' := by
  have hA : a < 18446744073709551616 := by have := pow_le n h1; omega
  have hB : b < 18446744073709551616 := by have := pow_le n h1; omega
  have HA := Lib.hid hA; have HB := Lib.hid hB; have Ha := Lib.hid ha; have Hb := Lib.hid hb
  clear ha hb hA hB
  go_enter Tryz.func108, Tryz.ntmps108
  go_wp2
  go_ret
  refine ⟨ret_u64 ?_, rfl⟩
  have hA := HA.out; have hB := HB.out
  simp only [raw]
  rw [Int.natCast_ediv, Int.natCast_pow]
  rfl

theorem kind13 (n a b : Nat) (w : World) (h0 : 1 ≤ n) (h1 : n ≤ 64) (ha : a < 2 ^ n) (hb : b < 2 ^ n) :
    Calls Tryz.prog 109 #[.int .i64 n, .int .u64 a, .int .u64 b] w fun e w' => e = .returned (.int .u64 (raw 13 n a b : Nat)) ∧ w = w' := by
  have hA : a < 18446744073709551616 := by have := pow_le n h1; omega
  have hB : b < 18446744073709551616 := by have := pow_le n h1; omega
  have HA := Lib.hid hA; have HB := Lib.hid hB; have Ha := Lib.hid ha; have Hb := Lib.hid hb
  clear ha hb hA hB
  go_enter Tryz.func109, Tryz.ntmps109
  go_wp2_with (first
    | (go_at_call 42; (with_reducible refine (signed_any n a _ h0 h1 Ha.out).mono ?_); rintro e w' ⟨rfl, rfl⟩)
    | (go_at_call 42; (with_reducible refine (signed_any n b _ h0 h1 Hb.out).mono ?_); rintro e w' ⟨rfl, rfl⟩)
    | (go_at_call 115; refine (bit_any _ _).mono ?_; rintro e w' ⟨rfl, rfl⟩))
  go_ret
  refine ⟨ret_u64 ?_, rfl⟩
  have hA := HA.out; have hB := HB.out
  simp only [raw]
  rw [IntKind.wrap_u64]
  omega

theorem kind14 (n a b : Nat) (w : World) (h0 : 1 ≤ n) (h1 : n ≤ 64) (ha : a < 2 ^ n) (hb : b < 2 ^ n) :
    Calls Tryz.prog 110 #[.int .i64 n, .int .u64 a, .int .u64 b] w fun e w' => e = .returned (.int .u64 (raw 14 n a b : Nat)) ∧ w = w' := by
  have hA : a < 18446744073709551616 := by have := pow_le n h1; omega
  have hB : b < 18446744073709551616 := by have := pow_le n h1; omega
  have HA := Lib.hid hA; have HB := Lib.hid hB; have Ha := Lib.hid ha; have Hb := Lib.hid hb
  clear ha hb hA hB
  go_enter Tryz.func110, Tryz.ntmps110
  go_wp2_with (go_at_call 111; refine (quotient_any a b _ HA.out).mono ?_; rintro e w' ⟨rfl, rfl⟩)
  go_ret
  refine ⟨ret_u64 ?_, rfl⟩
  have hA := HA.out; have hB := HB.out
  rfl

theorem kind15 (n a b : Nat) (w : World) (h0 : 1 ≤ n) (h1 : n ≤ 64) (ha : a < 2 ^ n) (hb : b < 2 ^ n) :
    Calls Tryz.prog 112 #[.int .i64 n, .int .u64 a, .int .u64 b] w fun e w' => e = .returned (.int .u64 (raw 15 n a b : Nat)) ∧ w = w' := by
  have hA : a < 18446744073709551616 := by have := pow_le n h1; omega
  have hB : b < 18446744073709551616 := by have := pow_le n h1; omega
  have HA := Lib.hid hA; have HB := Lib.hid hB; have Ha := Lib.hid ha; have Hb := Lib.hid hb
  clear ha hb hA hB
  go_enter Tryz.func112, Tryz.ntmps112
  go_wp2_with (go_at_call 113; refine (remainder_any a b _).mono ?_; rintro e w' ⟨rfl, rfl⟩)
  go_ret
  refine ⟨ret_u64 ?_, rfl⟩
  have hA := HA.out; have hB := HB.out
  rfl

theorem kind16 (n a b : Nat) (w : World) (h0 : 1 ≤ n) (h1 : n ≤ 64) (ha : a < 2 ^ n) (hb : b < 2 ^ n) :
    Calls Tryz.prog 114 #[.int .i64 n, .int .u64 a, .int .u64 b] w fun e w' => e = .returned (.int .u64 (raw 16 n a b : Nat)) ∧ w = w' := by
  have hA : a < 18446744073709551616 := by have := pow_le n h1; omega
  have hB : b < 18446744073709551616 := by have := pow_le n h1; omega
  have HA := Lib.hid hA; have HB := Lib.hid hB; have Ha := Lib.hid ha; have Hb := Lib.hid hb
  clear ha hb hA hB
  go_enter Tryz.func114, Tryz.ntmps114
  go_wp2_with (go_at_call 115; refine (bit_any _ _).mono ?_; rintro e w' ⟨rfl, rfl⟩)
  go_ret
  refine ⟨ret_u64 ?_, rfl⟩
  have hA := HA.out; have hB := HB.out
  by_cases h : a = b
  · subst h; simp [raw, bitN]
  · have : ((a : Int) == (b : Int)) = false := by simp; omega
    rw [this]; simp [raw, h, bitN]

theorem kind17 (n a b : Nat) (w : World) (h0 : 1 ≤ n) (h1 : n ≤ 64) (ha : a < 2 ^ n) (hb : b < 2 ^ n) :
    Calls Tryz.prog 116 #[.int .i64 n, .int .u64 a, .int .u64 b] w fun e w' => e = .returned (.int .u64 (raw 17 n a b : Nat)) ∧ w = w' := by
  have hA : a < 18446744073709551616 := by have := pow_le n h1; omega
  have hB : b < 18446744073709551616 := by have := pow_le n h1; omega
  have HA := Lib.hid hA; have HB := Lib.hid hB; have Ha := Lib.hid ha; have Hb := Lib.hid hb
  clear ha hb hA hB
  go_enter Tryz.func116, Tryz.ntmps116
  go_wp2_with (go_at_call 115; refine (bit_any _ _).mono ?_; rintro e w' ⟨rfl, rfl⟩)
  go_ret
  refine ⟨ret_u64 ?_, rfl⟩
  have hA := HA.out; have hB := HB.out
  by_cases h : a < b <;> simp [raw, h, bitN]

theorem kind18 (n a b : Nat) (w : World) (h0 : 1 ≤ n) (h1 : n ≤ 64) (ha : a < 2 ^ n) (hb : b < 2 ^ n) :
    Calls Tryz.prog 117 #[.int .i64 n, .int .u64 a, .int .u64 b] w fun e w' => e = .returned (.int .u64 (raw 18 n a b : Nat)) ∧ w = w' := by
  have hA : a < 18446744073709551616 := by have := pow_le n h1; omega
  have hB : b < 18446744073709551616 := by have := pow_le n h1; omega
  have HA := Lib.hid hA; have HB := Lib.hid hB; have Ha := Lib.hid ha; have Hb := Lib.hid hb
  clear ha hb hA hB
  go_enter Tryz.func117, Tryz.ntmps117
  go_wp2_with (first
    | (go_at_call 42; (with_reducible refine (signed_any n a _ h0 h1 Ha.out).mono ?_); rintro e w' ⟨rfl, rfl⟩)
    | (go_at_call 42; (with_reducible refine (signed_any n b _ h0 h1 Hb.out).mono ?_); rintro e w' ⟨rfl, rfl⟩)
    | (go_at_call 115; refine (bit_any _ _).mono ?_; rintro e w' ⟨rfl, rfl⟩))
  go_ret
  refine ⟨ret_u64 ?_, rfl⟩
  have hA := HA.out; have hB := HB.out
  by_cases h : sg n a < sg n b <;> simp [raw, h, bitN]

/-- The function of a kind. -/
def fnOf (k : Nat) : Nat :=
  match k with
  | 3 => 99
  | 4 => 100
  | 5 => 101
  | 6 => 102
  | 7 => 103
  | 8 => 104
  | 9 => 105
  | 10 => 106
  | 11 => 107
  | 12 => 108
  | 13 => 109
  | 14 => 110
  | 15 => 112
  | 16 => 114
  | 17 => 116
  | 18 => 117
  | _ => 0

theorem kind_any (k n a b : Nat) (w : World) (hk : 3 ≤ k ∧ k ≤ 18) (h0 : 1 ≤ n) (h1 : n ≤ 64) (ha : a < 2 ^ n) (hb : b < 2 ^ n) :
    Calls Tryz.prog (fnOf k) #[.int .i64 n, .int .u64 a, .int .u64 b] w fun e w' => e = .returned (.int .u64 (raw k n a b : Nat)) ∧ w = w' := by
  have : k = 3 ∨ k = 4 ∨ k = 5 ∨ k = 6 ∨ k = 7 ∨ k = 8 ∨ k = 9 ∨ k = 10 ∨ k = 11 ∨ k = 12 ∨ k = 13 ∨ k = 14 ∨ k = 15 ∨ k = 16 ∨ k = 17 ∨ k = 18 := by omega
  rcases this with rfl | rfl | rfl | rfl | rfl | rfl | rfl | rfl | rfl | rfl | rfl | rfl | rfl | rfl | rfl | rfl
  · exact kind3 n a b w h0 h1 ha hb
  · exact kind4 n a b w h0 h1 ha hb
  · exact kind5 n a b w h0 h1 ha hb
  · exact kind6 n a b w h0 h1 ha hb
  · exact kind7 n a b w h0 h1 ha hb
  · exact kind8 n a b w h0 h1 ha hb
  · exact kind9 n a b w h0 h1 ha hb
  · exact kind10 n a b w h0 h1 ha hb
  · exact kind11 n a b w h0 h1 ha hb
  · exact kind12 n a b w h0 h1 ha hb
  · exact kind13 n a b w h0 h1 ha hb
  · exact kind14 n a b w h0 h1 ha hb
  · exact kind15 n a b w h0 h1 ha hb
  · exact kind16 n a b w h0 h1 ha hb
  · exact kind17 n a b w h0 h1 ha hb
  · exact kind18 n a b w h0 h1 ha hb

theorem fnOf_enters (k : Nat) (hk : 3 ≤ k ∧ k ≤ 18) : ∀ (args : Array Value) (w : World), Sem.run Tryz.prog (callFunc (fnOf k) args) w = .ok (.enter (fnOf k) args) w := by
  have : k = 3 ∨ k = 4 ∨ k = 5 ∨ k = 6 ∨ k = 7 ∨ k = 8 ∨ k = 9 ∨ k = 10 ∨ k = 11 ∨ k = 12 ∨ k = 13 ∨ k = 14 ∨ k = 15 ∨ k = 16 ∨ k = 17 ∨ k = 18 := by omega
  rcases this with rfl | rfl | rfl | rfl | rfl | rfl | rfl | rfl | rfl | rfl | rfl | rfl | rfl | rfl | rfl | rfl <;> (intro args w; kernel_rfl)

def opsArr : Array Value := #[.nilFunc, .nilFunc, .nilFunc, .func (.func 99) #[] #[], .func (.func 100) #[] #[], .func (.func 101) #[] #[], .func (.func 102) #[] #[], .func (.func 103) #[] #[], .func (.func 104) #[] #[], .func (.func 105) #[] #[], .func (.func 106) #[] #[], .func (.func 107) #[] #[], .func (.func 108) #[] #[], .func (.func 109) #[] #[], .func (.func 110) #[] #[], .func (.func 112) #[] #[], .func (.func 114) #[] #[], .func (.func 116) #[] #[], .func (.func 117) #[] #[]]

theorem opsArr_at (k : Nat) (hk : 3 ≤ k ∧ k ≤ 18) (w : World) : (Instr.index 107 (.agg opsArr) (.int .u8 k)).run Tryz.prog w = .ok (.func (.func (fnOf k)) #[] #[]) w := by
  have : k = 3 ∨ k = 4 ∨ k = 5 ∨ k = 6 ∨ k = 7 ∨ k = 8 ∨ k = 9 ∨ k = 10 ∨ k = 11 ∨ k = 12 ∨ k = 13 ∨ k = 14 ∨ k = 15 ∨ k = 16 ∨ k = 17 ∨ k = 18 := by omega
  rcases this with rfl | rfl | rfl | rfl | rfl | rfl | rfl | rfl | rfl | rfl | rfl | rfl | rfl | rfl | rfl | rfl <;> (show Sem.run _ _ _ = _; kernel_rfl)

def opsZero : Array Value := #[.nilFunc, .nilFunc, .nilFunc, .nilFunc, .nilFunc, .nilFunc, .nilFunc, .nilFunc, .nilFunc, .nilFunc, .nilFunc, .nilFunc, .nilFunc, .nilFunc, .nilFunc, .nilFunc, .nilFunc, .nilFunc, .nilFunc]
theorem opsArr_one : opsArr.all (·.oneCell') = true := by kernel_rfl
theorem operations_any (w : World) :
    Calls Tryz.prog 66 #[] w fun e w' => e = .returned (.agg opsArr) ∧ Below w.heap.size w w' := by
  have hW : (w.alloc (.cells opsZero 107)).heap[w.heap.size]? = some (.cells opsZero 107 (0, 0)) := (MapKept.heap_alloc w _).1
  have hR := setRow_heap _ w.heap.size opsZero opsArr 107 (0, 0) hW
  have HW := Lib.hid hW; have HR := Lib.hid hR
  clear hW hR
  go_enter Tryz.func66, Tryz.ntmps66
  go_wp2_with (refine wpList_store_row rfl 107 _ _ rfl w.heap.size opsArr rfl rfl 107 opsZero HW.out (by kernel_rfl) rfl opsArr_one ?_)
  refine bodyPost_ret (results_cell_row rfl _ _ w.heap.size 107 opsArr (0, 0) _ rfl HR.out Tryz.underlying107 rfl (by kernel_rfl)) rfl ⟨rfl, ?_⟩
  exact below_setRow ((Below.refl _ _).alloc (Nat.le_refl _) _) (Nat.le_refl _) _
end Go.Proofs.YthogpmddijbigaaGreatDoor
