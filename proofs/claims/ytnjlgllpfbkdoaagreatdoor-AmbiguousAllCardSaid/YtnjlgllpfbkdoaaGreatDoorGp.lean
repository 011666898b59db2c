/- Merged texts: MachRoots, MachIndex, MachPartOf, MachIdxErr, MachValid, MachOver. -/
import Derived.Test.YtnjlgllpfbkdoaaGreatDoorGn
import Derived.OwnWalk
import Derived.Deep.RegionHeld3
namespace Go.Proofs.YtnjlgllpfbkdoaaGreatDoor
open Go.RowKit Go.Instr Go.Sort
set_option linter.unusedVariables false
set_option linter.unusedSimpArgs false
set_option maxRecDepth 100000

def isRootAt (R : List MReg) (j : Nat) : Bool := match R[j]? with | some r => rootR r | none => false
/-- The indices of the roots among the first k registers. -/
def rootsK (R : List MReg) (k : Nat) : List Nat := (List.range k).filter (isRootAt R)
def rootsR (R : List MReg) : List Nat := rootsK R R.length
theorem rootsK_succ (R : List MReg) (k : Nat) : rootsK R (k + 1) = rootsK R k ++ (if isRootAt R k then [k] else []) := by
  unfold rootsK
  rw [List.range_succ, List.filter_append]
  congr 1
  by_cases h : isRootAt R k <;> simp [h]
theorem rootsK_le (R : List MReg) (k : Nat) : (rootsK R k).length ≤ k := by
  unfold rootsK
  exact Nat.le_trans (List.length_filter_le ..) (by simp)
theorem rootsK_lt (R : List MReg) (k : Nat) : ∀ x ∈ rootsK R k, x < k := fun x hx => by
  unfold rootsK at hx
  simpa using (List.mem_filter.1 hx).1
def natRow (l : List Nat) : List Value := l.map fun (z : Nat) => Value.int .i64 (z : Int)
/-- A row of the call's own, as rows of numbers. -/
theorem rows_of_own {w : World} {base : Nat} {v : Value} {l : List Nat} (h : w.ownsRow base 3 1 v l.length (natRow l)) (hl : l.length ≤ maxLen) (hz : ∀ x ∈ l, (x : Int) ≤ 9223372036854775807) : RowsAt 1 intE w v (l.map fun (z : Nat) => (z : Int)) := by
  obtain ⟨_, h | ⟨g, cap, cur, hv, _, hh, hc, hm, _, ht⟩⟩ := h
  · have h0 : l = [] := List.length_eq_zero_iff.1 h.2
    subst h0
    exact ⟨none, 0, h.1, by simp, by simp, by simp, fun i x hx => by simp at hx⟩
  · refine ⟨some ⟨g, 0, none⟩, cap, by rw [List.length_map]; exact hv, by rw [List.length_map]; exact hl, by rw [List.length_map]; exact hc, hm, fun i x hx => ?_⟩
    rw [List.getElem?_map] at hx
    cases hli : l[i]? with
    | none => rw [hli] at hx; simp at hx
    | some z =>
      rw [hli] at hx
      simp at hx
      subst hx
      have hil := (List.getElem?_eq_some_iff.1 hli).1
      refine ⟨g, 0, [.int .i64 z], rfl, (Array.getElem?_eq_some_iff.1 hh).1, rfl, fun j u hj => ?_, rfl, by omega, hz z (List.mem_of_getElem? hli)⟩
      cases j with
      | succ j => simp at hj
      | zero =>
        simp at hj
        subst hj
        refine cell_of hh ?_
        have e : (cur.toList.take (l.length * 1))[i]? = some (.int .i64 (z : Int)) := by rw [ht]; unfold natRow; rw [List.getElem?_map, hli]; rfl
        rw [List.getElem?_take] at e
        simp only [Nat.mul_one, hil, if_true] at e
        simpa using e
theorem own_kept {w w' : World} {base size n : Nat} {e : TypeId} {v : Value} {xs : List Value} (h : w.ownsRow base e size v n xs) (hb : Below w.heap.size w w') : w'.ownsRow base e size v n xs := by
  refine h.kept (row := none) ⟨hb.os, hb.tape, hb.output, hb.size, fun k hk _ => hb.block k hk⟩ ?_
  cases v.ownBlock with
  | none => exact .inl rfl
  | some a => exact .inr (by simp)
theorem natRow_snoc (l : List Nat) (z : Nat) : natRow (l ++ [z]) = natRow l ++ [.int .i64 (z : Int)] := by unfold natRow; rw [List.map_append]; rfl
theorem one_cells (W : World) (v : Value) (t : TypeId) : ∀ B, W.heap.size = B → ∀ (j : Nat) (u : Value), ([v] : List Value)[j]? = some u → (W.alloc (.cells #[v] t)).cell? ((⟨B, 0, none⟩ : Addr).add j) = some u := by
  rintro _ rfl j u hu
  cases j with
  | succ j => simp at hu
  | zero =>
    simp at hu
    subst hu
    exact cell_new_at rfl rfl
theorem int_info : (Tryz.prog.info? 3).map (fun i => (i.zero, i.size, i.bytes)) = some (some (.int .i64 0), 1, 8) := by kernel_rfl
end Go.Proofs.YtnjlgllpfbkdoaaGreatDoor
namespace Go.Proofs.YtnjlgllpfbkdoaaGreatDoor
open Go.RowKit Go.Instr Go.Sort
set_option linter.unusedVariables false
set_option linter.unusedSimpArgs false
set_option maxRecDepth 100000

end Go.Proofs.YtnjlgllpfbkdoaaGreatDoor
namespace Go.Proofs.YtnjlgllpfbkdoaaGreatDoor
open Go.RowKit Go.Instr
set_option linter.unusedVariables false
set_option linter.unusedSimpArgs false
set_option maxRecDepth 100000

def ofR (r : Nat) (y : MReg) : Int := if rootR y then (r : Int) else y.par
def placeR (R : List MReg) (r : Nat) (y : MReg) : Int := ixF (fun z : Int => decide (z = ofR r y)) ((rootsR R).map fun (z : Nat) => (z : Int))
end Go.Proofs.YtnjlgllpfbkdoaaGreatDoor
namespace Go.Proofs.YtnjlgllpfbkdoaaGreatDoor
open Go.RowKit Go.Instr
set_option linter.unusedVariables false
set_option linter.unusedSimpArgs false
set_option maxRecDepth 100000

/-- An index of a register. -/
def idxM (m : Mach) (z : Int) : Bool := decide (0 ≤ z ∧ z < (m.regs.length : Int))
noncomputable def idxErr (m : Mach) (L : List Int) : Int := if chkR m = 0 then (if L.all (idxM m) then 0 else 2) else chkR m
theorem chkR_cases (m : Mach) : chkR m = 0 ∨ chkR m = 4 ∨ chkR m = 8 := by
  unfold chkR
  cases limM m with
  | false => exact .inr (.inl rfl)
  | true => cases validR m with
    | false => exact .inr (.inr rfl)
    | true => exact .inl rfl
end Go.Proofs.YtnjlgllpfbkdoaaGreatDoor
namespace Go.Proofs.YtnjlgllpfbkdoaaGreatDoor
open Go.RowKit Go.Instr
set_option linter.unusedVariables false
set_option linter.unusedSimpArgs false
set_option maxRecDepth 100000

theorem chk_valid {m : Mach} (h : chkR m = 0) : limM m = true ∧ headR m = true ∧ regsR m.regs = true ∧ banksR m.regs m.banks = true ∧ unitsR m.units = true ∧ instrsR m = true := by
  unfold chkR at h
  cases hl : limM m with
  | false => rw [hl] at h; simp at h
  | true =>
    rw [hl] at h
    cases hv : validR m with
    | false => rw [hv] at h; simp at h
    | true =>
      unfold validR at hv
      simp only [Bool.and_eq_true] at hv
      exact ⟨rfl, hv.1, hv.2.1, hv.2.2.1, hv.2.2.2.1, hv.2.2.2.2⟩
theorem reg_bounds {m : Mach} (h : chkR m = 0) : ∀ y ∈ m.regs, 1 ≤ y.width ∧ y.width ≤ 64 ∧ 0 ≤ y.low ∧ y.low + y.width ≤ 64 := by
  have hr := (chk_valid h).2.2.1
  unfold regsR at hr
  simp only [Bool.and_eq_true, List.all_eq_true] at hr
  have hw : ∀ y ∈ m.regs, 1 ≤ y.width ∧ y.width ≤ 64 := fun y hy => by
    have h1 := hr.2 y hy
    unfold regOk at h1
    simp only [Bool.and_eq_true, decide_eq_true_eq] at h1
    exact h1.1
  intro y hy
  obtain ⟨h1, h2⟩ := hw y hy
  have h3 := hr.2 y hy
  unfold regOk at h3
  simp only [Bool.and_eq_true, Bool.or_eq_true] at h3
  rcases h3.2 with h4 | h4
  · unfold rootR at h4
    simp only [decide_eq_true_eq] at h4
    exact ⟨h1, h2, by omega, by omega⟩
  · unfold partR at h4
    by_cases h5 : 0 ≤ y.par
    · rw [if_pos h5] at h4
      cases hp : m.regs[y.par.toNat]? with
      | none => rw [hp] at h4; simp at h4
      | some q =>
        rw [hp] at h4
        simp only [Bool.and_eq_true, decide_eq_true_eq] at h4
        have hq := hw q (List.mem_of_getElem? hp)
        have h6 := h4.2.2
        rw [wrap64_small _ (by omega) (by omega)] at h6
        exact ⟨h1, h2, by omega, by omega⟩
    · rw [if_neg h5] at h4; simp at h4
theorem lim_regs {m : Mach} (h : chkR m = 0) : m.regs.length ≤ 64 := (limM_parts (chk_valid h).1).1
/-- Whether two registers have a bit in common. -/
def overR (R : List MReg) (a b : Nat) (x y : MReg) : Bool := (placeR R a x == placeR R b y) && (decide (x.low < y.low + y.width) && decide (y.low < x.low + x.width))
end Go.Proofs.YtnjlgllpfbkdoaaGreatDoor
namespace Go.Proofs.YtnjlgllpfbkdoaaGreatDoor
open Go.RowKit Go.Instr
set_option linter.unusedVariables false
set_option linter.unusedSimpArgs false
set_option maxRecDepth 100000

noncomputable def ovB (m : Mach) (a b : Int) : Bool := if idxErr m [a, b] = 0 then (match m.regs[a.toNat]?, m.regs[b.toNat]? with | some x, some y => overR m.regs a.toNat b.toNat x y | _, _ => false) else false
/-- A fresh row of two ints. -/
theorem rows_two {w : World} {k : Nat} {a b : Int} {T : Nat} (h : w.heap[k]? = some (.cells #[.int .i64 a, .int .i64 b] T)) (ha : -9223372036854775808 ≤ a ∧ a ≤ 9223372036854775807) (hb : -9223372036854775808 ≤ b ∧ b ≤ 9223372036854775807) : RowsAt 1 intE w (.slice (some ⟨k, 0, none⟩) 2 2) [a, b] := by
  refine ⟨some ⟨k, 0, none⟩, 2, rfl, by simp [maxLen], by simp, by simp [maxLen], ?_⟩
  intro i x hx
  have hk : k < w.heap.size := by
    obtain ⟨h1, _⟩ := Array.getElem?_eq_some_iff.1 h; exact h1
  match i, hx with
  | 0, hx => 
    obtain rfl : a = x := by simpa using hx
    refine ⟨k, 0, [.int .i64 a], rfl, hk, rfl, ?_, rfl, ha⟩
    intro j u hj
    match j, hj with
    | 0, hj => obtain rfl : Value.int .i64 a = u := by simpa using hj
               exact cell_of h rfl
    | j + 1, hj => simp at hj
  | 1, hx => 
    obtain rfl : b = x := by simpa using hx
    refine ⟨k, 0, [.int .i64 b], rfl, hk, rfl, ?_, rfl, hb⟩
    intro j u hj
    match j, hj with
    | 0, hj => obtain rfl : Value.int .i64 b = u := by simpa using hj
               exact cell_of h rfl
    | j + 1, hj => simp at hj
  | i + 2, hx => simp at hx
end Go.Proofs.YtnjlgllpfbkdoaaGreatDoor
