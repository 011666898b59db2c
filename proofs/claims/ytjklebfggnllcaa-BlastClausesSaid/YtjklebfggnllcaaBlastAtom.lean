/- Contracts of the small functions round Clauses: inverts, atomOf, nodesOf, the reference's atom. -/
import Derived.Test.YtjklebfggnllcaaBlastLists
namespace Go.Proofs.Ytjklebfggnllcaa
open Go.RowKit
set_option linter.unusedVariables false

theorem i64_and1 (n : Int) : bits .and .i64 n 1 = n % 2 := by
  have h1 : (BitVec.ofInt 64 1).toNat = 2 ^ 1 - 1 := by decide
  have key : (BitVec.ofInt 64 n &&& BitVec.ofInt 64 1).toNat = (n % ((2 ^ 64 : Nat) : Int)).toNat % 2 ^ 1 := by
    rw [BitVec.toNat_and, BitVec.toNat_ofInt, h1, Nat.and_two_pow_sub_one_eq_mod]
  show IntKind.i64.wrap ((BitVec.ofInt 64 n &&& BitVec.ofInt 64 1).toNat : Nat) = n % 2
  rw [key, IntKind.wrap_i64]
  omega

theorem inverts_any (l : Int) (w : World) : Calls Try.prog 21 #[.int .i64 l] w fun e w' => e = .returned (.bool (decide (l % 2 = 1))) ∧ w = w' := by
  have HA := i64_and1 l
  obtain ⟨r, hr⟩ : ∃ r, r = bits .and .i64 l 1 := ⟨_, rfl⟩
  have hr2 : l % 2 = r := by rw [hr, HA]
  rw [hr2]
  clear hr2 HA
  go_enter Try.func21, Try.ntmps21
  go_wp2
  go_ret
  refine ⟨?_, rfl⟩
  have h : (r == 1) = decide (r = 1) := by rw [Bool.eq_iff_iff]; simp
  rw [← h]
  try rw [← hr]
  rfl

theorem atomOf_any (l : Nat) (w : World) (hl : l ≤ 1000000) : Calls Try.prog 33 #[.int .i64 (l : Int)] w fun e w' => e = .returned (.int .i64 (atomR l)) ∧ w = w' := by
  have HI := Lib.hid (fun W => inverts_any (l : Int) W)
  by_cases h : (l : Int) % 2 = 1
  · rw [atom_odd h]
    have hd : decide ((l : Int) % 2 = 1) = true := decide_eq_true h
    rw [hd] at HI
    go_enter Try.func33, Try.ntmps33
    go_wp2_with (go_at_call 21; (with_reducible refine (HI.out _).mono ?_); rintro e w' ⟨rfl, rfl⟩)
    go_ret
    exact ⟨rfl, rfl⟩
  · rw [atom_even h]
    have hd : decide ((l : Int) % 2 = 1) = false := decide_eq_false h
    rw [hd] at HI
    go_enter Try.func33, Try.ntmps33
    go_wp2_with (go_at_call 21; (with_reducible refine (HI.out _).mono ?_); rintro e w' ⟨rfl, rfl⟩)
    go_ret
    exact ⟨rfl, rfl⟩

theorem refAtom_any (l : Nat) (w : World) (hl : l ≤ 1000000) : Calls Try.prog 34 #[.int .i64 (l : Int)] w fun e w' => e = .returned (.int .i64 (atomR l)) ∧ w = w' := by
  by_cases h : (l : Int) % 2 = 1
  · rw [atom_odd h]
    go_enter Try.func34, Try.ntmps34
    go_wp2
    go_ret
    exact ⟨rfl, rfl⟩
  · rw [atom_even h]
    go_enter Try.func34, Try.ntmps34
    go_wp2
    go_ret
    exact ⟨rfl, rfl⟩

theorem nodesOf_any (pi pg po : Option Addr) (ni ng no ci cg co : Nat) (w : World) (h1 : ni ≤ 600) (h2 : ng ≤ 100100) : Calls Try.prog 19 #[.agg #[.slice pi ni ci, .slice pg ng cg, .slice po no co]] w fun e w' => e = .returned (.int .i64 ((1 + ni + ng : Nat) : Int)) ∧ Below w.heap.size w w' := by
  go_enter Try.func19, Try.ntmps19
  go_wp2
  go_ret
  refine ⟨?_, (Below.refl _ _).alloc (Nat.le_refl _) _⟩
  first
    | rfl
    | (trace_state; sorry)
end Go.Proofs.Ytjklebfggnllcaa
