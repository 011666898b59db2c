/- Contracts of the operations of package bits: each of the sixteen function values, and the array that holds them. -/
import Derived.Test.YtffmijafhchjgaaDoorBitsCheck
import Derived.Lib.QuietBelow
import Derived.Laws.CopyOwn
import Derived.Laws.Tables
import Derived.Laws.Rows
namespace Go.Proofs.YtffmijafhchjgaaDoor
open Go.RowKit Go.Sort
set_option linter.unusedVariables false

/-- What the operation of a kind gives, before the bits above the width are taken off. -/
def raw (k n a b : Nat) : Nat :=
  match k with
  | 3 => 18446744073709551615 - a
  | 4 => (18446744073709551616 - a) % 18446744073709551616
  | 5 => (a + b) % 18446744073709551616
  | 6 => (a + (18446744073709551616 - b)) % 18446744073709551616
  | 7 => a * b % 18446744073709551616
  | 8 => a &&& b
  | 9 => a ||| b
  | 10 => a ^^^ b
  | 11 => a * 2 ^ min b 64 % 18446744073709551616
  | 12 => a / 2 ^ min b 64
  | 13 => (sg n a / 2 ^ min b 64 % 18446744073709551616).toNat
  | 14 => if b = 0 then 18446744073709551615 else a / b
  | 15 => if b = 0 then a else a % b
  | 16 => if a = b then 1 else 0
  | 17 => if a < b then 1 else 0
  | 18 => if sg n a < sg n b then 1 else 0
  | _ => 0

theorem ret_u64 {a b : Int} (h : a = b) : Ending.returned (.int .u64 a) = .returned (.int .u64 b) := by rw [h]

def bitN (p : Bool) : Nat := match p with | true => 1 | false => 0
theorem bit_any (p : Bool) (w : World) :
    Calls Tryd.prog 85 #[.bool p] w fun e w' => e = .returned (.int .u64 (bitN p : Nat)) ∧ w = w' := by
  cases p <;>
  · go_enter Tryd.func85, Tryd.ntmps85
    go_wp2
    go_ret
    exact ⟨rfl, rfl⟩
theorem quotient_any (a b : Nat) (w : World) (ha : a < 18446744073709551616) :
    Calls Tryd.prog 81 #[.int .u64 a, .int .u64 b] w fun e w' => e = .returned (.int .u64 (raw 14 0 a b : Nat)) ∧ w = w' := by
  have HA := Lib.hid ha
  clear ha
  by_cases hb : b = 0
  · subst hb
    have h0 : (((0 : Nat) : Int) == 0) = true := rfl
    go_enter Tryd.func81, Tryd.ntmps81
    go_wp2
    go_ret
    exact ⟨rfl, rfl⟩
  · have h0 : ((b : Int) == 0) = false := by simp; exact hb
    have h1 : (1 : Int) ≤ b := by omega
    go_enter Tryd.func81, Tryd.ntmps81
    go_wp2
    go_ret
    refine ⟨ret_u64 ?_, rfl⟩
    have := HA.out
    have h2 : a / b ≤ a := Nat.div_le_self a b
    simp only [raw, if_neg hb]
    rw [IntKind.wrap_u64, ← Int.natCast_ediv]
    generalize a / b = q at h2
    omega
theorem remainder_any (a b : Nat) (w : World) :
    Calls Tryd.prog 83 #[.int .u64 a, .int .u64 b] w fun e w' => e = .returned (.int .u64 (raw 15 0 a b : Nat)) ∧ w = w' := by
  by_cases hb : b = 0
  · subst hb
    have h0 : (((0 : Nat) : Int) == 0) = true := rfl
    go_enter Tryd.func83, Tryd.ntmps83
    go_wp2
    go_ret
    exact ⟨rfl, rfl⟩
  · have h0 : ((b : Int) == 0) = false := by simp; exact hb
    have h1 : (1 : Int) ≤ b := by omega
    go_enter Tryd.func83, Tryd.ntmps83
    go_wp2
    go_ret
    refine ⟨ret_u64 ?_, rfl⟩
    simp only [raw, if_neg hb]
    exact (Int.natCast_emod a b).symm

theorem not_u64 (a : Nat) (ha : a < 18446744073709551616) : bits .xor .u64 IntKind.u64.max (a : Int) = ((18446744073709551615 - a : Nat) : Int) := by
  have e : IntKind.u64.max = ((18446744073709551615 : Nat) : Int) := rfl
  rw [e, bits_xor_u64_nat _ _ (by decide) ha]
  congr 1
  have h := congrArg BitVec.toNat (BitVec.allOnes_xor (x := BitVec.ofNat 64 a))
  rw [BitVec.toNat_xor, BitVec.toNat_not, BitVec.toNat_ofNat, BitVec.toNat_allOnes, Nat.mod_eq_of_lt (by exact ha)] at h
  exact h

theorem kind3 (n a b : Nat) (w : World) (h0 : 1 ≤ n) (h1 : n ≤ 64) (ha : a < 2 ^ n) (hb : b < 2 ^ n) :
    Calls Tryd.prog 69 #[.int .i64 n, .int .u64 a, .int .u64 b] w fun e w' => e = .returned (.int .u64 (raw 3 n a b : Nat)) ∧ w = w' := by
  have hA : a < 18446744073709551616 := by have := pow_le n h1; omega
  have hB : b < 18446744073709551616 := by have := pow_le n h1; omega
  have HA := Lib.hid hA; have HB := Lib.hid hB; have Ha := Lib.hid ha; have Hb := Lib.hid hb
  clear ha hb hA hB
  go_enter Tryd.func69, Tryd.ntmps69
  go_wp2
  go_ret
  refine ⟨ret_u64 ?_, rfl⟩
  have hA := HA.out; have hB := HB.out
  simp only [raw]
  rw [not_u64 a hA]

theorem kind4 (n a b : Nat) (w : World) (h0 : 1 ≤ n) (h1 : n ≤ 64) (ha : a < 2 ^ n) (hb : b < 2 ^ n) :
    Calls Tryd.prog 70 #[.int .i64 n, .int .u64 a, .int .u64 b] w fun e w' => e = .returned (.int .u64 (raw 4 n a b : Nat)) ∧ w = w' := by
  have hA : a < 18446744073709551616 := by have := pow_le n h1; omega
  have hB : b < 18446744073709551616 := by have := pow_le n h1; omega
  have HA := Lib.hid hA; have HB := Lib.hid hB; have Ha := Lib.hid ha; have Hb := Lib.hid hb
  clear ha hb hA hB
  go_enter Tryd.func70, Tryd.ntmps70
  go_wp2
  go_ret
  refine ⟨ret_u64 ?_, rfl⟩
  have hA := HA.out; have hB := HB.out
  simp only [raw]
  rw [IntKind.wrap_u64]
  omega

theorem kind5 (n a b : Nat) (w : World) (h0 : 1 ≤ n) (h1 : n ≤ 64) (ha : a < 2 ^ n) (hb : b < 2 ^ n) :
    Calls Tryd.prog 71 #[.int .i64 n, .int .u64 a, .int .u64 b] w fun e w' => e = .returned (.int .u64 (raw 5 n a b : Nat)) ∧ w = w' := by
  have hA : a < 18446744073709551616 := by have := pow_le n h1; omega
  have hB : b < 18446744073709551616 := by have := pow_le n h1; omega
  have HA := Lib.hid hA; have HB := Lib.hid hB; have Ha := Lib.hid ha; have Hb := Lib.hid hb
  clear ha hb hA hB
  go_enter Tryd.func71, Tryd.ntmps71
  go_wp2
  go_ret
  refine ⟨ret_u64 ?_, rfl⟩
  have hA := HA.out; have hB := HB.out
  simp only [raw]
  rw [IntKind.wrap_u64]
  omega

theorem kind6 (n a b : Nat) (w : World) (h0 : 1 ≤ n) (h1 : n ≤ 64) (ha : a < 2 ^ n) (hb : b < 2 ^ n) :
    Calls Tryd.prog 72 #[.int .i64 n, .int .u64 a, .int .u64 b] w fun e w' => e = .returned (.int .u64 (raw 6 n a b : Nat)) ∧ w = w' := by
  have hA : a < 18446744073709551616 := by have := pow_le n h1; omega
  have hB : b < 18446744073709551616 := by have := pow_le n h1; omega
  have HA := Lib.hid hA; have HB := Lib.hid hB; have Ha := Lib.hid ha; have Hb := Lib.hid hb
  clear ha hb hA hB
  go_enter Tryd.func72, Tryd.ntmps72
  go_wp2
  go_ret
  refine ⟨ret_u64 ?_, rfl⟩
  have hA := HA.out; have hB := HB.out
  simp only [raw]
  rw [IntKind.wrap_u64]
  omega

theorem kind7 (n a b : Nat) (w : World) (h0 : 1 ≤ n) (h1 : n ≤ 64) (ha : a < 2 ^ n) (hb : b < 2 ^ n) :
    Calls Tryd.prog 73 #[.int .i64 n, .int .u64 a, .int .u64 b] w fun e w' => e = .returned (.int .u64 (raw 7 n a b : Nat)) ∧ w = w' := by
  have hA : a < 18446744073709551616 := by have := pow_le n h1; omega
  have hB : b < 18446744073709551616 := by have := pow_le n h1; omega
  have HA := Lib.hid hA; have HB := Lib.hid hB; have Ha := Lib.hid ha; have Hb := Lib.hid hb
  clear ha hb hA hB
  go_enter Tryd.func73, Tryd.ntmps73
  go_wp2
  go_ret
  refine ⟨ret_u64 ?_, rfl⟩
  have hA := HA.out; have hB := HB.out
  simp only [raw]
  rw [IntKind.wrap_u64, ← Int.natCast_mul]
  exact (Int.natCast_emod _ _).symm

theorem kind8 (n a b : Nat) (w : World) (h0 : 1 ≤ n) (h1 : n ≤ 64) (ha : a < 2 ^ n) (hb : b < 2 ^ n) :
    Calls Tryd.prog 74 #[.int .i64 n, .int .u64 a, .int .u64 b] w fun e w' => e = .returned (.int .u64 (raw 8 n a b : Nat)) ∧ w = w' := by
  have hA : a < 18446744073709551616 := by have := pow_le n h1; omega
  have hB : b < 18446744073709551616 := by have := pow_le n h1; omega
  have HA := Lib.hid hA; have HB := Lib.hid hB; have Ha := Lib.hid ha; have Hb := Lib.hid hb
  clear ha hb hA hB
  go_enter Tryd.func74, Tryd.ntmps74
  go_wp2
  go_ret
  refine ⟨ret_u64 ?_, rfl⟩
  have hA := HA.out; have hB := HB.out
  simp only [raw]
  exact bits_and_u64_nat a b hA hB

theorem kind9 (n a b : Nat) (w : World) (h0 : 1 ≤ n) (h1 : n ≤ 64) (ha : a < 2 ^ n) (hb : b < 2 ^ n) :
    Calls Tryd.prog 75 #[.int .i64 n, .int .u64 a, .int .u64 b] w fun e w' => e = .returned (.int .u64 (raw 9 n a b : Nat)) ∧ w = w' := by
  have hA : a < 18446744073709551616 := by have := pow_le n h1; omega
  have hB : b < 18446744073709551616 := by have := pow_le n h1; omega
  have HA := Lib.hid hA; have HB := Lib.hid hB; have Ha := Lib.hid ha; have Hb := Lib.hid hb
  clear ha hb hA hB
  go_enter Tryd.func75, Tryd.ntmps75
  go_wp2
  go_ret
  refine ⟨ret_u64 ?_, rfl⟩
  have hA := HA.out; have hB := HB.out
  simp only [raw]
  exact bits_or_u64_nat a b hA hB

theorem kind10 (n a b : Nat) (w : World) (h0 : 1 ≤ n) (h1 : n ≤ 64) (ha : a < 2 ^ n) (hb : b < 2 ^ n) :
    Calls Tryd.prog 76 #[.int .i64 n, .int .u64 a, .int .u64 b] w fun e w' => e = .returned (.int .u64 (raw 10 n a b : Nat)) ∧ w = w' := by
  have hA : a < 18446744073709551616 := by have := pow_le n h1; omega
  have hB : b < 18446744073709551616 := by have := pow_le n h1; omega
  have HA := Lib.hid hA; have HB := Lib.hid hB; have Ha := Lib.hid ha; have Hb := Lib.hid hb
  clear ha hb hA hB
  go_enter Tryd.func76, Tryd.ntmps76
  go_wp2
  go_ret
  refine ⟨ret_u64 ?_, rfl⟩
  have hA := HA.out; have hB := HB.out
  simp only [raw]
  exact bits_xor_u64_nat a b hA hB

theorem kind11 (n a b : Nat) (w : World) (h0 : 1 ≤ n) (h1 : n ≤ 64) (ha : a < 2 ^ n) (hb : b < 2 ^ n) :
    Calls Tryd.prog 77 #[.int .i64 n, .int .u64 a, .int .u64 b] w fun e w' => e = .returned (.int .u64 (raw 11 n a b : Nat)) ∧ w = w' := by
  have hA : a < 18446744073709551616 := by have := pow_le n h1; omega
  have hB : b < 18446744073709551616 := by have := pow_le n h1; omega
  have HA := Lib.hid hA; have HB := Lib.hid hB; have Ha := Lib.hid ha; have Hb := Lib.hid hb
  clear ha hb hA hB
  go_enter Tryd.func77, Tryd.ntmps77
  go_wp2
  go_ret
  refine ⟨ret_u64 ?_, rfl⟩
  have hA := HA.out; have hB := HB.out
  simp only [raw]
  rw [IntKind.wrap_u64, Int.natCast_emod, Int.natCast_mul, Int.natCast_pow]
  rfl

theorem kind12 (n a b : Nat) (w : World) (h0 : 1 ≤ n) (h1 : n ≤ 64) (ha : a < 2 ^ n) (hb : b < 2 ^ n) :
    Calls Tryd.prog 78 #[.int .i64 n, .int .u64 a, .int .u64 b] w fun e w' => e = .returned (.int .u64 (raw 12 n a b : Nat)) ∧ w = w' := by
  have hA : a < 18446744073709551616 := by have := pow_le n h1; omega
  have hB : b < 18446744073709551616 := by have := pow_le n h1; omega
  have HA := Lib.hid hA; have HB := Lib.hid hB; have Ha := Lib.hid ha; have Hb := Lib.hid hb
  clear ha hb hA hB
  go_enter Tryd.func78, Tryd.ntmps78
  go_wp2
  go_ret
  refine ⟨ret_u64 ?_, rfl⟩
  have hA := HA.out; have hB := HB.out
  simp only [raw]
  rw [Int.natCast_ediv, Int.natCast_pow]
  rfl

theorem kind13 (n a b : Nat) (w : World) (h0 : 1 ≤ n) (h1 : n ≤ 64) (ha : a < 2 ^ n) (hb : b < 2 ^ n) :
    Calls Tryd.prog 79 #[.int .i64 n, .int .u64 a, .int .u64 b] w fun e w' => e = .returned (.int .u64 (raw 13 n a b : Nat)) ∧ w = w' := by
  have hA : a < 18446744073709551616 := by have := pow_le n h1; omega
  have hB : b < 18446744073709551616 := by have := pow_le n h1; omega
  have HA := Lib.hid hA; have HB := Lib.hid hB; have Ha := Lib.hid ha; have Hb := Lib.hid hb
  clear ha hb hA hB
  go_enter Tryd.func79, Tryd.ntmps79
  go_wp2_with (first
    | (go_at_call 32; (with_reducible refine (signed_any n a _ h0 h1 Ha.out).mono ?_); rintro e w' ⟨rfl, rfl⟩)
    | (go_at_call 32; (with_reducible refine (signed_any n b _ h0 h1 Hb.out).mono ?_); rintro e w' ⟨rfl, rfl⟩)
    | (go_at_call 85; refine (bit_any _ _).mono ?_; rintro e w' ⟨rfl, rfl⟩))
  go_ret
  refine ⟨ret_u64 ?_, rfl⟩
  have hA := HA.out; have hB := HB.out
  simp only [raw]
  rw [IntKind.wrap_u64]
  omega

theorem kind14 (n a b : Nat) (w : World) (h0 : 1 ≤ n) (h1 : n ≤ 64) (ha : a < 2 ^ n) (hb : b < 2 ^ n) :
    Calls Tryd.prog 80 #[.int .i64 n, .int .u64 a, .int .u64 b] w fun e w' => e = .returned (.int .u64 (raw 14 n a b : Nat)) ∧ w = w' := by
  have hA : a < 18446744073709551616 := by have := pow_le n h1; omega
  have hB : b < 18446744073709551616 := by have := pow_le n h1; omega
  have HA := Lib.hid hA; have HB := Lib.hid hB; have Ha := Lib.hid ha; have Hb := Lib.hid hb
  clear ha hb hA hB
  go_enter Tryd.func80, Tryd.ntmps80
  go_wp2_with (go_at_call 81; refine (quotient_any a b _ HA.out).mono ?_; rintro e w' ⟨rfl, rfl⟩)
  go_ret
  refine ⟨ret_u64 ?_, rfl⟩
  have hA := HA.out; have hB := HB.out
  rfl

theorem kind15 (n a b : Nat) (w : World) (h0 : 1 ≤ n) (h1 : n ≤ 64) (ha : a < 2 ^ n) (hb : b < 2 ^ n) :
    Calls Tryd.prog 82 #[.int .i64 n, .int .u64 a, .int .u64 b] w fun e w' => e = .returned (.int .u64 (raw 15 n a b : Nat)) ∧ w = w' := by
  have hA : a < 18446744073709551616 := by have := pow_le n h1; omega
  have hB : b < 18446744073709551616 := by have := pow_le n h1; omega
  have HA := Lib.hid hA; have HB := Lib.hid hB; have Ha := Lib.hid ha; have Hb := Lib.hid hb
  clear ha hb hA hB
  go_enter Tryd.func82, Tryd.ntmps82
  go_wp2_with (go_at_call 83; refine (remainder_any a b _).mono ?_; rintro e w' ⟨rfl, rfl⟩)
  go_ret
  refine ⟨ret_u64 ?_, rfl⟩
  have hA := HA.out; have hB := HB.out
  rfl

theorem kind16 (n a b : Nat) (w : World) (h0 : 1 ≤ n) (h1 : n ≤ 64) (ha : a < 2 ^ n) (hb : b < 2 ^ n) :
    Calls Tryd.prog 84 #[.int .i64 n, .int .u64 a, .int .u64 b] w fun e w' => e = .returned (.int .u64 (raw 16 n a b : Nat)) ∧ w = w' := by
  have hA : a < 18446744073709551616 := by have := pow_le n h1; omega
  have hB : b < 18446744073709551616 := by have := pow_le n h1; omega
  have HA := Lib.hid hA; have HB := Lib.hid hB; have Ha := Lib.hid ha; have Hb := Lib.hid hb
  clear ha hb hA hB
  go_enter Tryd.func84, Tryd.ntmps84
  go_wp2_with (go_at_call 85; refine (bit_any _ _).mono ?_; rintro e w' ⟨rfl, rfl⟩)
  go_ret
  refine ⟨ret_u64 ?_, rfl⟩
  have hA := HA.out; have hB := HB.out
  by_cases h : a = b
  · subst h; simp [raw, bitN]
  · have : ((a : Int) == (b : Int)) = false := by simp; omega
    rw [this]; simp [raw, h, bitN]

theorem kind17 (n a b : Nat) (w : World) (h0 : 1 ≤ n) (h1 : n ≤ 64) (ha : a < 2 ^ n) (hb : b < 2 ^ n) :
    Calls Tryd.prog 86 #[.int .i64 n, .int .u64 a, .int .u64 b] w fun e w' => e = .returned (.int .u64 (raw 17 n a b : Nat)) ∧ w = w' := by
  have hA : a < 18446744073709551616 := by have := pow_le n h1; omega
  have hB : b < 18446744073709551616 := by have := pow_le n h1; omega
  have HA := Lib.hid hA; have HB := Lib.hid hB; have Ha := Lib.hid ha; have Hb := Lib.hid hb
  clear ha hb hA hB
  go_enter Tryd.func86, Tryd.ntmps86
  go_wp2_with (go_at_call 85; refine (bit_any _ _).mono ?_; rintro e w' ⟨rfl, rfl⟩)
  go_ret
  refine ⟨ret_u64 ?_, rfl⟩
  have hA := HA.out; have hB := HB.out
  by_cases h : a < b <;> simp [raw, h, bitN]

theorem kind18 (n a b : Nat) (w : World) (h0 : 1 ≤ n) (h1 : n ≤ 64) (ha : a < 2 ^ n) (hb : b < 2 ^ n) :
    Calls Tryd.prog 87 #[.int .i64 n, .int .u64 a, .int .u64 b] w fun e w' => e = .returned (.int .u64 (raw 18 n a b : Nat)) ∧ w = w' := by
  have hA : a < 18446744073709551616 := by have := pow_le n h1; omega
  have hB : b < 18446744073709551616 := by have := pow_le n h1; omega
  have HA := Lib.hid hA; have HB := Lib.hid hB; have Ha := Lib.hid ha; have Hb := Lib.hid hb
  clear ha hb hA hB
  go_enter Tryd.func87, Tryd.ntmps87
  go_wp2_with (first
    | (go_at_call 32; (with_reducible refine (signed_any n a _ h0 h1 Ha.out).mono ?_); rintro e w' ⟨rfl, rfl⟩)
    | (go_at_call 32; (with_reducible refine (signed_any n b _ h0 h1 Hb.out).mono ?_); rintro e w' ⟨rfl, rfl⟩)
    | (go_at_call 85; refine (bit_any _ _).mono ?_; rintro e w' ⟨rfl, rfl⟩))
  go_ret
  refine ⟨ret_u64 ?_, rfl⟩
  have hA := HA.out; have hB := HB.out
  by_cases h : sg n a < sg n b <;> simp [raw, h, bitN]

/-- The function of a kind. -/
def fnOf (k : Nat) : Nat :=
  match k with
  | 3 => 69
  | 4 => 70
  | 5 => 71
  | 6 => 72
  | 7 => 73
  | 8 => 74
  | 9 => 75
  | 10 => 76
  | 11 => 77
  | 12 => 78
  | 13 => 79
  | 14 => 80
  | 15 => 82
  | 16 => 84
  | 17 => 86
  | 18 => 87
  | _ => 0

theorem kind_any (k n a b : Nat) (w : World) (hk : 3 ≤ k ∧ k ≤ 18) (h0 : 1 ≤ n) (h1 : n ≤ 64) (ha : a < 2 ^ n) (hb : b < 2 ^ n) :
    Calls Tryd.prog (fnOf k) #[.int .i64 n, .int .u64 a, .int .u64 b] w fun e w' => e = .returned (.int .u64 (raw k n a b : Nat)) ∧ w = w' := by
  have : k = 3 ∨ k = 4 ∨ k = 5 ∨ k = 6 ∨ k = 7 ∨ k = 8 ∨ k = 9 ∨ k = 10 ∨ k = 11 ∨ k = 12 ∨ k = 13 ∨ k = 14 ∨ k = 15 ∨ k = 16 ∨ k = 17 ∨ k = 18 := by omega
  rcases this with rfl | rfl | rfl | rfl | rfl | rfl | rfl | rfl | rfl | rfl | rfl | rfl | rfl | rfl | rfl | rfl
  · exact kind3 n a b w h0 h1 ha hb
  · exact kind4 n a b w h0 h1 ha hb
  · exact kind5 n a b w h0 h1 ha hb
  · exact kind6 n a b w h0 h1 ha hb
  · exact kind7 n a b w h0 h1 ha hb
  · exact kind8 n a b w h0 h1 ha hb
  · exact kind9 n a b w h0 h1 ha hb
  · exact kind10 n a b w h0 h1 ha hb
  · exact kind11 n a b w h0 h1 ha hb
  · exact kind12 n a b w h0 h1 ha hb
  · exact kind13 n a b w h0 h1 ha hb
  · exact kind14 n a b w h0 h1 ha hb
  · exact kind15 n a b w h0 h1 ha hb
  · exact kind16 n a b w h0 h1 ha hb
  · exact kind17 n a b w h0 h1 ha hb
  · exact kind18 n a b w h0 h1 ha hb

theorem fnOf_enters (k : Nat) (hk : 3 ≤ k ∧ k ≤ 18) : ∀ (args : Array Value) (w : World), Sem.run Tryd.prog (callFunc (fnOf k) args) w = .ok (.enter (fnOf k) args) w := by
  have : k = 3 ∨ k = 4 ∨ k = 5 ∨ k = 6 ∨ k = 7 ∨ k = 8 ∨ k = 9 ∨ k = 10 ∨ k = 11 ∨ k = 12 ∨ k = 13 ∨ k = 14 ∨ k = 15 ∨ k = 16 ∨ k = 17 ∨ k = 18 := by omega
  rcases this with rfl | rfl | rfl | rfl | rfl | rfl | rfl | rfl | rfl | rfl | rfl | rfl | rfl | rfl | rfl | rfl <;> (intro args w; kernel_rfl)

def opsArr : Array Value := #[.nilFunc, .nilFunc, .nilFunc, .func (.func 69) #[] #[], .func (.func 70) #[] #[], .func (.func 71) #[] #[], .func (.func 72) #[] #[], .func (.func 73) #[] #[], .func (.func 74) #[] #[], .func (.func 75) #[] #[], .func (.func 76) #[] #[], .func (.func 77) #[] #[], .func (.func 78) #[] #[], .func (.func 79) #[] #[], .func (.func 80) #[] #[], .func (.func 82) #[] #[], .func (.func 84) #[] #[], .func (.func 86) #[] #[], .func (.func 87) #[] #[]]

theorem opsArr_at (k : Nat) (hk : 3 ≤ k ∧ k ≤ 18) (w : World) : (Instr.index 89 (.agg opsArr) (.int .u8 k)).run Tryd.prog w = .ok (.func (.func (fnOf k)) #[] #[]) w := by
  have : k = 3 ∨ k = 4 ∨ k = 5 ∨ k = 6 ∨ k = 7 ∨ k = 8 ∨ k = 9 ∨ k = 10 ∨ k = 11 ∨ k = 12 ∨ k = 13 ∨ k = 14 ∨ k = 15 ∨ k = 16 ∨ k = 17 ∨ k = 18 := by omega
  rcases this with rfl | rfl | rfl | rfl | rfl | rfl | rfl | rfl | rfl | rfl | rfl | rfl | rfl | rfl | rfl | rfl <;> (show Sem.run _ _ _ = _; kernel_rfl)

def opsZero : Array Value := #[.nilFunc, .nilFunc, .nilFunc, .nilFunc, .nilFunc, .nilFunc, .nilFunc, .nilFunc, .nilFunc, .nilFunc, .nilFunc, .nilFunc, .nilFunc, .nilFunc, .nilFunc, .nilFunc, .nilFunc, .nilFunc, .nilFunc]
theorem opsArr_one : opsArr.all (·.oneCell') = true := by kernel_rfl
theorem operations_any (w : World) :
    Calls Tryd.prog 61 #[] w fun e w' => e = .returned (.agg opsArr) ∧ Below w.heap.size w w' := by
  have hW : (w.alloc (.cells opsZero 89)).heap[w.heap.size]? = some (.cells opsZero 89 (0, 0)) := (MapKept.heap_alloc w _).1
  have hR := setRow_heap _ w.heap.size opsZero opsArr 89 (0, 0) hW
  have HW := Lib.hid hW; have HR := Lib.hid hR
  clear hW hR
  go_enter Tryd.func61, Tryd.ntmps61
  go_wp2_with (refine wpList_store_row rfl 89 _ _ rfl w.heap.size opsArr rfl rfl 89 opsZero HW.out (by kernel_rfl) rfl opsArr_one ?_)
  refine bodyPost_ret (results_cell_row rfl _ _ w.heap.size 89 opsArr (0, 0) _ rfl HR.out Tryd.underlying89 rfl (by kernel_rfl)) rfl ⟨rfl, ?_⟩
  exact below_setRow ((Below.refl _ _).alloc (Nat.le_refl _) _) (Nat.le_refl _) _
end Go.Proofs.YtffmijafhchjgaaDoor
