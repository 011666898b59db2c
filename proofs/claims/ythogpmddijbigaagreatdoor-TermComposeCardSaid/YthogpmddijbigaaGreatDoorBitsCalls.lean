/- Contracts of Unary, Binary, Signed and Of of package bits, for all arguments. They only make memory. -/
import Derived.Test.YthogpmddijbigaaGreatDoorBitsOperate
namespace Go.Proofs.YthogpmddijbigaaGreatDoor
open Go.RowKit Go.Sort
set_option linter.unusedVariables false

/-- What operate gives: the value, and the error. -/
def opR (lo hi k : Nat) (n : Int) (a b : Nat) : Nat × Int :=
  if n < 1 ∨ 64 < n then (0, 14) else if k < lo ∨ hi < k then (0, 2) else if chk2 n.toNat a b = 8 then (0, 8) else (opv k n.toNat a b, 0)

theorem chk2_or (n a b : Nat) : chk2 n a b = 8 ∨ (a < 2 ^ n ∧ b < 2 ^ n) := by
  unfold chk2
  by_cases h : okB n a = true ∧ okB n b = true
  · exact Or.inr ⟨(okB_iff _ _).1 h.1, (okB_iff _ _).1 h.2⟩
  · exact Or.inl (if_neg h)
theorem chk2_zero (n a b : Nat) (ha : a < 2 ^ n) (hb : b < 2 ^ n) : ¬ chk2 n a b = 8 := by
  unfold chk2
  rw [if_pos ⟨(okB_iff _ _).2 ha, (okB_iff _ _).2 hb⟩]
  decide

theorem operate_any (lo hi k a b : Nat) (n : Int) (w : World) (hlo : 3 ≤ lo) (hhi : hi ≤ 18) :
    Calls Tryz.prog 38 #[.int .u8 lo, .int .u8 hi, .int .u8 k, .int .i64 n, .int .u64 a, .int .u64 b] w fun e w' => e = .returned (.tuple #[.int .u64 (opR lo hi k n a b).1, .int .i64 (opR lo hi k n a b).2]) ∧ Below w.heap.size w w' := by
  by_cases h : n < 1 ∨ 64 < n
  · rw [show opR lo hi k n a b = (0, 14) by unfold opR; rw [if_pos h]]
    exact operate_bad lo hi k a b n w h
  · obtain ⟨m, rfl⟩ : ∃ m : Nat, n = m := ⟨n.toNat, by omega⟩
    have h0 : 1 ≤ m := by omega
    have h1 : m ≤ 64 := by omega
    by_cases hk : k < lo ∨ hi < k
    · rw [show opR lo hi k m a b = (0, 2) by unfold opR; rw [if_neg h, if_pos hk]]
      exact operate_kind lo hi k a b m w h0 h1 hk
    · rcases chk2_or m a b with hab | ⟨ha, hb⟩
      · rw [show opR lo hi k m a b = (0, 8) by unfold opR; rw [if_neg h, if_neg hk, Int.toNat_natCast, if_pos hab]]
        exact operate_val lo hi k a b m w h0 h1 (by omega) (by omega) hab
      · rw [show opR lo hi k m a b = (opv k m a b, 0) by unfold opR; rw [if_neg h, if_neg hk, Int.toNat_natCast, if_neg (chk2_zero m a b ha hb)]]
        exact operate_ok lo hi k a b m w h0 h1 (by omega) (by omega) (by omega) ha hb

theorem unary_any (k a : Nat) (n : Int) (w : World) :
    Calls Tryz.prog 11 #[.int .u8 k, .int .i64 n, .int .u64 a] w fun e w' => e = .returned (.tuple #[.int .u64 (opR 3 4 k n a 0).1, .int .i64 (opR 3 4 k n a 0).2]) ∧ Below w.heap.size w w' := by
  go_enter Tryz.func11, Tryz.ntmps11
  go_wp2_with (go_at_call 38; refine (operate_any 3 4 k a 0 n _ (by decide) (by decide)).mono ?_; rintro e w' ⟨rfl, hb⟩)
  go_ret2
  exact ⟨rfl, hb⟩
theorem binary_any (k a b : Nat) (n : Int) (w : World) :
    Calls Tryz.prog 16 #[.int .u8 k, .int .i64 n, .int .u64 a, .int .u64 b] w fun e w' => e = .returned (.tuple #[.int .u64 (opR 5 18 k n a b).1, .int .i64 (opR 5 18 k n a b).2]) ∧ Below w.heap.size w w' := by
  go_enter Tryz.func16, Tryz.ntmps16
  go_wp2_with (go_at_call 38; refine (operate_any 5 18 k a b n _ (by decide) (by decide)).mono ?_; rintro e w' ⟨rfl, hb⟩)
  go_ret2
  exact ⟨rfl, hb⟩

/-- What Signed gives. -/
def sgR (n : Int) (x : Nat) : Int × Int :=
  if n < 1 ∨ 64 < n then (0, 14) else if chk1 n.toNat x = 8 then (0, 8) else (sg n.toNat x, 0)
theorem chk1_or (n a : Nat) : chk1 n a = 8 ∨ (a < 2 ^ n ∧ chk1 n a = 0) := by
  unfold chk1
  by_cases h : okB n a = true
  · exact Or.inr ⟨(okB_iff _ _).1 h, if_pos h⟩
  · exact Or.inl (if_neg h)

/-- What Of gives. -/
def ofR (n : Int) (z : Int) : Nat × Int :=
  if n < 1 ∨ 64 < n then (0, 14) else if sg n.toNat (z % 2 ^ n.toNat).toNat = z then ((z % 2 ^ n.toNat).toNat, 0) else (0, 24)
theorem of_mask (n : Nat) (z : Int) (h1 : n ≤ 64) : bits .and .u64 (IntKind.u64.wrap z) ((mk n : Nat) : Int) = ((z % 2 ^ n).toNat : Int) := by
  have h2 := Int.emod_nonneg z (show (18446744073709551616 : Int) ≠ 0 by decide)
  have h3 := Int.emod_lt_of_pos z (show (0 : Int) < 18446744073709551616 by decide)
  obtain ⟨r, hr⟩ : ∃ r : Nat, z % 18446744073709551616 = r := ⟨(z % 18446744073709551616).toNat, by omega⟩
  rw [IntKind.wrap_u64, hr, and_mask r n (by omega) h1]
  congr 1
  have hs := pow_split n h1
  have e : z % 2 ^ n = ((r % 2 ^ n : Nat) : Int) := by
    rw [Int.natCast_emod, ← hr, Int.natCast_pow]
    have hd : ((2 : Int) ^ n) ∣ 18446744073709551616 := ⟨((2 ^ (64 - n) : Nat) : Int), by
      have : ((2 ^ n * 2 ^ (64 - n) : Nat) : Int) = ((18446744073709551616 : Nat) : Int) := by rw [hs]
      rw [Int.natCast_mul, Int.natCast_pow] at this
      exact this.symm⟩
    exact (Int.emod_emod_of_dvd z hd).symm
  rw [e]
  omega

end Go.Proofs.YthogpmddijbigaaGreatDoor
