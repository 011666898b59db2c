/- Memory cells as bytes by address: contracts of the library's binary search at cells, of byteAt, and what they say, in plain words. -/
import Derived.Test.YthogpmddijbigaaGreatDoorBitsBase
import Derived.OpenShut
namespace Go.Proofs.YthogpmddijbigaaGreatDoor
open Go.RowKit
set_option linter.unusedVariables false

-- bytes put together
def part (f : Nat → Nat) : Nat → Nat | 0 => 0 | k + 1 => part f k + f k * 2 ^ (8 * k)
theorem part_succ (f : Nat → Nat) (k : Nat) : part f (k + 1) = part f k + f k * 2 ^ (8 * k) := rfl
theorem part_lt (f : Nat → Nat) (hf : ∀ i, f i < 256) : ∀ k, part f k < 2 ^ (8 * k)
  | 0 => by simp [part]
  | k + 1 => by
    have h := part_lt f hf k
    have h2 : f k * 2 ^ (8 * k) ≤ 255 * 2 ^ (8 * k) := Nat.mul_le_mul_right _ (by have := hf k; omega)
    have h3 : 2 ^ (8 * (k + 1)) = 256 * 2 ^ (8 * k) := by rw [show 8 * (k + 1) = 8 * k + 8 by omega, Nat.pow_add]; omega
    rw [part_succ]
    omega
theorem part_or (f : Nat → Nat) (hf : ∀ i, f i < 256) (k : Nat) : part f k ||| (f k * 2 ^ (8 * k)) = part f (k + 1) := by
  have h := part_lt f hf k
  rw [part_succ, Nat.add_comm, Nat.mul_comm (f k), Nat.two_pow_add_eq_or_of_lt h, Nat.or_comm]
theorem part_byte (f : Nat → Nat) (hf : ∀ i, f i < 256) (i : Nat) : ∀ k, i < k → part f k / 2 ^ (8 * i) % 256 = f i
  | 0, h => by omega
  | k + 1, h => by
    rw [part_succ]
    by_cases e : i = k
    · subst e
      rw [Nat.add_mul_div_right _ _ (Nat.two_pow_pos _), Nat.div_eq_of_lt (part_lt f hf i), Nat.zero_add]
      exact Nat.mod_eq_of_lt (hf i)
    · have ih := part_byte f hf i k (by omega)
      have e2 : f k * 2 ^ (8 * k) = (f k * 2 ^ (8 * (k - i - 1)) * 256) * 2 ^ (8 * i) := by
        rw [show 8 * k = 8 * (k - i - 1) + 8 + 8 * i by omega, Nat.pow_add, Nat.pow_add]
        simp only [Nat.mul_assoc]
      rw [e2, Nat.add_mul_div_right _ _ (Nat.two_pow_pos _), Nat.add_mul_mod_self_right]
      exact ih
theorem part_64 (f : Nat → Nat) (hf : ∀ i, f i < 256) (k : Nat) (hk : k ≤ 8) : part f k < 18446744073709551616 :=
  Nat.lt_of_lt_of_le (part_lt f hf k) (Nat.pow_le_pow_right (by decide) (show 8 * k ≤ 64 by omega))

-- binary search
def bs (lt : Nat → Bool) : Nat → Nat → Nat → Nat
  | 0, i, _ => i
  | m + 1, i, j => if i < j then (if lt ((i + j) / 2) then bs lt m ((i + j) / 2 + 1) j else bs lt m i ((i + j) / 2)) else i
theorem bs_stop (lt : Nat → Bool) (m i j : Nat) (h : ¬ i < j) : bs lt m i j = i := by cases m <;> simp [bs, h]
theorem bs_up (lt : Nat → Bool) (m i j : Nat) (h : i < j) (hl : lt ((i + j) / 2) = true) : bs lt (m + 1) i j = bs lt m ((i + j) / 2 + 1) j := by simp [bs, h, hl]
theorem bs_down (lt : Nat → Bool) (m i j : Nat) (h : i < j) (hl : lt ((i + j) / 2) = false) : bs lt (m + 1) i j = bs lt m i ((i + j) / 2) := by simp [bs, h, hl]

/-- n cells lie behind a slice's address: addresses A, bytes B. -/
def MemAt (w : World) (p : Option Addr) (n : Nat) (A B : Nat → Nat) : Prop :=
  ∀ i, i < n → ∃ b o, p = some ⟨b, o, none⟩ ∧ b < w.heap.size ∧ w.cell? ⟨b, o + i * 2, none⟩ = some (.int .u64 (A i)) ∧ w.cell? ⟨b, o + i * 2 + 1, none⟩ = some (.int .u8 (B i))
theorem MemAt.below {w w' : World} {p : Option Addr} {n : Nat} {A B : Nat → Nat} (h : MemAt w p n A B) (hb : Below w.heap.size w w') : MemAt w' p n A B := by
  intro i hi
  obtain ⟨b, o, e, h1, h2, h3⟩ := h i hi
  exact ⟨b, o, e, Nat.lt_of_lt_of_le h1 hb.size, by rw [hb.cell h1]; exact h2, by rw [hb.cell h1]; exact h3⟩

def cmpN (a b : Nat) : Int := if a < b then -1 else if b < a then 1 else 0
theorem cmpN_lt (a b : Nat) : decide (cmpN a b < 0) = decide (a < b) := by unfold cmpN; split <;> rename_i h <;> (try split) <;> simp [*]
theorem cmpN_eq (a b : Nat) : (cmpN a b == 0) = decide (a = b) := by
  unfold cmpN
  by_cases h : a < b
  · have : a ≠ b := by omega
    simp [h, this]
  · by_cases h2 : b < a
    · have : a ≠ b := by omega
      simp [h, h2, this]
    · have : a = b := by omega
      simp [this]

theorem nan_any (a : Nat) (w : World) : Calls Tryz.prog 155 #[.int .u64 a] w fun e w' => e = .returned (.bool false) ∧ w = w' := by
  go_enter Tryz.func155, Tryz.ntmps155
  go_wp2
  go_ret
  exact ⟨by simp, rfl⟩

theorem compare_any (a b : Nat) (w : World) : Calls Tryz.prog 120 #[.int .u64 a, .int .u64 b] w fun e w' => e = .returned (.int .i64 (cmpN a b)) ∧ w = w' := by
  by_cases h : a < b
  · have e : cmpN a b = -1 := by simp [cmpN, h]
    rw [e]
    go_enter Tryz.func120, Tryz.ntmps120
    go_wp2_with (go_at_call 155; refine (nan_any _ _).mono ?_; rintro e w' ⟨rfl, rfl⟩)
    go_ret
    exact ⟨rfl, rfl⟩
  · by_cases h2 : b < a
    · have e : cmpN a b = 1 := by simp [cmpN, h, h2]
      rw [e]
      go_enter Tryz.func120, Tryz.ntmps120
      go_wp2_with (go_at_call 155; refine (nan_any _ _).mono ?_; rintro e w' ⟨rfl, rfl⟩)
      go_ret
      exact ⟨rfl, rfl⟩
    · have e : cmpN a b = 0 := by simp [cmpN, h, h2]
      rw [e]
      go_enter Tryz.func120, Tryz.ntmps120
      go_wp2_with (go_at_call 155; refine (nan_any _ _).mono ?_; rintro e w' ⟨rfl, rfl⟩)
      go_ret
      exact ⟨rfl, rfl⟩

/-- byteAt's own comparison. -/
theorem cellcmp_any (a b t : Nat) (w : World) :
    Calls Tryz.prog 119 #[.agg #[.int .u64 a, .int .u8 b], .int .u64 t] w fun e w' => e = .returned (.int .i64 (cmpN a t)) ∧ Below w.heap.size w w' := by
  go_enter Tryz.func119, Tryz.ntmps119
  go_wp2_with (go_at_call 120; refine (compare_any _ _ _).mono ?_; rintro e w' ⟨rfl, rfl⟩)
  go_ret
  exact ⟨rfl, (Below.refl _ _).alloc (Nat.le_refl _) _⟩
end Go.Proofs.YthogpmddijbigaaGreatDoor
