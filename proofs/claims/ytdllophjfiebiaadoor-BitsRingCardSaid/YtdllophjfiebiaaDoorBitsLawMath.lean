/- Plain mathematics of layer 1's laws, and what a drawn width and value become. -/
import Derived.Test.YtdllophjfiebiaaDoorBitsAlive
import Derived.OpenShut
namespace Go.Proofs.YtdllophjfiebiaaDoor
open Go.RowKit Go.Sort
set_option linter.unusedVariables false

theorem nat_u8 {a : Int} (h : (Lit.int .u8 a).wf = true) : ∃ m : Nat, a = m ∧ m < 256 := by
  simp [Lit.wf, IntKind.min, IntKind.max, IntKind.bits, IntKind.signed] at h
  exact ⟨a.toNat, by omega, by omega⟩
theorem nat_u64 {a : Int} (h : (Lit.int .u64 a).wf = true) : ∃ m : Nat, a = m ∧ m < 18446744073709551616 := by
  simp [Lit.wf, IntKind.min, IntKind.max, IntKind.bits, IntKind.signed] at h
  exact ⟨a.toNat, by omega, by omega⟩

/-- The law's cut of a width and a value, as a contract over plain variables. -/
theorem cut_at (wd x : Nat) (hx : x < 18446744073709551616) (n a : Nat) (hn : n = wd % 64 + 1) (ha : a = x % 2 ^ n) (w : World) :
    Calls Tryd.prog 25 #[.int .u8 wd, .int .u64 x] w fun e w' => e = .returned (.tuple #[.int .i64 n, .int .u64 a]) ∧ w = w' := by
  rw [ha]; exact cut_any wd x n w hn hx

/-- op at a literal kind, with a value that is known. -/
theorem op_as (k n a b V : Nat) (K : Int) (w : World) (hK : K = k) (h0 : 1 ≤ n) (h1 : n ≤ 64) (hk0 : 5 ≤ k) (hk1 : k ≤ 18) (ha : a < 2 ^ n) (hb : b < 2 ^ n) (hV : opv k n a b = V) :
    Calls Tryd.prog 27 #[.int .u8 K, .int .i64 n, .int .u64 a, .int .u64 b] w fun e w' => e = .returned (.int .u64 V) ∧ Below w.heap.size w w' := by
  subst hK; subst hV; exact op_any k n a b w h0 h1 hk0 hk1 ha hb
theorem one_lt (n : Nat) (h0 : 1 ≤ n) : 1 < 2 ^ n := by have := pow_half n h0; have := pow_pos' (n - 1); omega
theorem opv_lt (k n a b : Nat) : opv k n a b < 2 ^ n := Nat.mod_lt _ (pow_pos' n)
theorem bitN_lt (p : Bool) (n : Nat) (h0 : 1 ≤ n) : bitN p % 2 ^ n = bitN p := by
  have := one_lt n h0
  cases p
  · exact Nat.zero_mod _
  · exact Nat.mod_eq_of_lt this
theorem opv16 (n a b : Nat) (h0 : 1 ≤ n) : opv 16 n a b = bitN ((a : Int) == (b : Int)) := by
  rw [← bitN_lt _ n h0, opv]
  congr 1
  by_cases h : a = b
  · subst h; simp [raw, bitN]
  · have e : ((a : Int) == (b : Int)) = false := by simp; omega
    rw [e]; simp [raw, h, bitN]
theorem opv17 (n a b : Nat) (h0 : 1 ≤ n) : opv 17 n a b = bitN (decide (a < b)) := by
  rw [← bitN_lt _ n h0, opv]
  congr 1
  by_cases h : a < b <;> simp [raw, h, bitN]
theorem opv18 (n a b : Nat) (h0 : 1 ≤ n) : opv 18 n a b = bitN (decide (sg n a < sg n b)) := by
  rw [← bitN_lt _ n h0, opv]
  congr 1
  by_cases h : sg n a < sg n b <;> simp [raw, h, bitN]
theorem sg_mod (n a : Nat) (ha : a < 2 ^ n) : (sg n a % 2 ^ n).toNat = a := by
  have e : ((2 : Int) ^ n) = ((2 ^ n : Nat) : Int) := by simp
  unfold sg
  rw [e]
  split
  · rw [Int.emod_eq_of_lt (by omega) (by omega)]; omega
  · have : ((a : Int) - ((2 ^ n : Nat) : Int)) % ((2 ^ n : Nat) : Int) = (a : Int) % ((2 ^ n : Nat) : Int) := Int.sub_emod_right _ _
    rw [this, Int.emod_eq_of_lt (by omega) (by omega)]; omega
theorem sgR_ok (n a : Nat) (h0 : 1 ≤ n) (h1 : n ≤ 64) (ha : a < 2 ^ n) : sgR n a = (sg n a, 0) := by
  unfold sgR
  rw [if_neg (by omega), Int.toNat_natCast, if_neg (by unfold chk1; rw [if_pos ((okB_iff _ _).2 ha)]; decide)]
theorem ofR_sg (n a : Nat) (h0 : 1 ≤ n) (h1 : n ≤ 64) (ha : a < 2 ^ n) : ofR n (sg n a) = (a, 0) := by
  unfold ofR
  rw [if_neg (by omega), Int.toNat_natCast, sg_mod n a ha, if_pos rfl]
end Go.Proofs.YtdllophjfiebiaaDoor
