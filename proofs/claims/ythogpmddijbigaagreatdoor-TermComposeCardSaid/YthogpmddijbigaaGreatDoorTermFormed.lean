/- Contracts of what Check asks of one node. -/
import Derived.Test.YthogpmddijbigaaGreatDoorTermTree
import Derived.Test.YthogpmddijbigaaGreatDoorBitsOk
import Derived.Test.YthogpmddijbigaaGreatDoorBitsName
import Derived.BigQuiet
import Derived.Deep.QuietTactic
import Derived.Lib.Strings
namespace Go.Proofs.YthogpmddijbigaaGreatDoor
open Go.RowKit
set_option linter.unusedVariables false

/-- A value of a width, for any width. -/
def okW (w : Int) (x : Nat) : Bool := if 1 ≤ w ∧ w ≤ 64 then okB w.toNat x else false
theorem okW_any (w : Int) (x : Nat) (W : World) : Calls Tryz.prog 10 #[.int .i64 w, .int .u64 x] W fun e w' => e = .returned (.bool (okW w x)) ∧ W = w' := by
  by_cases h : 1 ≤ w ∧ w ≤ 64
  · obtain ⟨n, rfl⟩ : ∃ n : Nat, w = n := ⟨w.toNat, by omega⟩
    rw [show okW n x = okB n x by unfold okW; rw [if_pos h, Int.toNat_natCast]]
    exact ok_any n x W (by omega) (by omega)
  · rw [show okW w x = false by unfold okW; rw [if_neg h]]
    exact ok_no w x W (by omega)
theorem isWidthT_any (w : Int) (W : World) : Calls Tryz.prog 43 #[.int .i64 w] W fun e w' => e = .returned (.bool (okW w 0)) ∧ W = w' := by
  have H : Hid (∀ W : World, Calls Tryz.prog 10 #[.int .i64 w, .int .u64 0] W fun e w' => e = .returned (.bool (okW w 0)) ∧ W = w') := Lib.hid (fun W => okW_any w 0 W)
  go_enter Tryz.func43, Tryz.ntmps43
  go_wp2_with (go_at_call 10; (with_reducible refine (H.out _).mono ?_); rintro e w' ⟨rfl, rfl⟩)
  go_ret
  exact ⟨rfl, rfl⟩
theorem isKind_any (k : Nat) (W : World) : Calls Tryz.prog 140 #[.int .u8 k] W fun e w' => e = .returned (.bool (decide (1 ≤ k) && decide (k ≤ 24))) ∧ W = w' := by
  by_cases h : 1 ≤ k
  · go_enter Tryz.func140, Tryz.ntmps140
    go_wp2
    go_ret
    refine ⟨?_, rfl⟩
    by_cases h2 : k ≤ 24
    · have e : decide ((k : Int) ≤ 24) = true := by simp; omega
      simp [h, h2, e]
    · have e : decide ((k : Int) ≤ 24) = false := by simp; omega
      simp [h, h2, e]
  · go_enter Tryz.func140, Tryz.ntmps140
    go_wp2
    go_ret
    exact ⟨by simp, rfl⟩
def loadW (w : Int) : Bool := w == 8 || w == 16 || w == 32 || w == 64
theorem isLoaded_any (w : Int) (W : World) : Calls Tryz.prog 44 #[.int .i64 w] W fun e w' => e = .returned (.bool (loadW w)) ∧ W = w' := by
  by_cases h1 : w = 8
  · subst h1
    go_enter Tryz.func44, Tryz.ntmps44
    go_wp2
    go_ret
    exact ⟨rfl, rfl⟩
  · by_cases h2 : w = 16
    · subst h2
      go_enter Tryz.func44, Tryz.ntmps44
      go_wp2
      go_ret
      exact ⟨rfl, rfl⟩
    · by_cases h3 : w = 32
      · subst h3
        go_enter Tryz.func44, Tryz.ntmps44
        go_wp2
        go_ret
        exact ⟨rfl, rfl⟩
      · have e1 : (w == 8) = false := by simpa using h1
        have e2 : (w == 16) = false := by simpa using h2
        have e3 : (w == 32) = false := by simpa using h3
        have E : Hid (loadW w = (w == 64)) := by unfold loadW; rw [e1, e2, e3]; rfl
        clear h1 h2 h3
        go_enter Tryz.func44, Tryz.ntmps44
        go_wp2
        go_ret
        refine ⟨?_, rfl⟩
        rw [E.out]
        rfl

-- the prefix of the registers' variables
def trimR (s : ByteArray) : ByteArray := if 2 ≤ s.size ∧ (s.extract 0 2).toList = [114, 46] then s.extract 2 s.size else s
set_option maxRecDepth 100000 in
theorem trim_any (s : ByteArray) (W : World) (hm : s.size ≤ 1000) : Calls Tryz.prog 79 #[.string s, .string ⟨#[114, 46]⟩] W fun e w' => e = .returned (.string (trimR s)) ∧ W = w' := by
  obtain ⟨L, hL⟩ : ∃ L, s.size = L := ⟨_, rfl⟩
  by_cases h2 : 2 ≤ L
  · go_enter Tryz.func79, Tryz.ntmps79
    go_wp2_with go_in
    · rename_i hq
      go_ret
      refine ⟨?_, rfl⟩
      have : trimR s = s.extract 2 L := by unfold trimR; rw [if_pos ⟨by omega, by simpa using hq⟩, hL]
      rw [this]
      rfl
    · rename_i hq
      go_ret
      refine ⟨?_, rfl⟩
      have : trimR s = s := by unfold trimR; rw [if_neg (fun h => by rw [h.2] at hq; exact absurd hq (by decide))]
      rw [this]
      rfl
  · have e : trimR s = s := by unfold trimR; rw [if_neg (fun h => h2 (by omega))]
    rw [e]
    go_enter Tryz.func79, Tryz.ntmps79
    go_wp2_with go_in
    go_ret
    exact ⟨rfl, rfl⟩
theorem trimR_size (s : ByteArray) : (trimR s).size ≤ s.size := by
  unfold trimR
  split
  · rw [ByteArray.size_extract]; omega
  · omega
/-- The name of a variable. -/
noncomputable def varR (s : ByteArray) : Bool := nameR (trimR s)
theorem isVariable_any (s : ByteArray) (W : World) (hm : s.size ≤ 1000) : Calls Tryz.prog 53 #[.string s] W fun e w' => e = .returned (.bool (varR s)) ∧ Below W.heap.size W w' := by
  have H1 := Lib.hid (fun W => trim_any s W hm)
  have H2 := Lib.hid (fun W => name_any (trimR s) W (by have := trimR_size s; omega))
  rw [show nameR (trimR s) = varR s from rfl] at H2
  clear hm
  generalize trimR s = t at *
  go_enter Tryz.func53, Tryz.ntmps53
  go_wp2_with (first
    | (go_at_call 79; (with_reducible refine (H1.out _).mono ?_); rintro e w' ⟨rfl, rfl⟩)
    | (go_at_call 78; (with_reducible refine (H2.out _).mono ?_); rintro e w' ⟨rfl, hb⟩))
  go_ret
  exact ⟨rfl, hb⟩

/-- The fields that a kind does not use are zero. -/
def tidyR (t : Tm) : Bool := (t.bits == 0 || t.kind == 1) && (t.name.toList == [] || t.kind == 2) && (t.low == 0 || t.kind == 21)
set_option maxRecDepth 100000 in
theorem tidy_any (t : Tm) (p : Option Addr) (nn cap : Nat) (W : World) :
    Calls Tryz.prog 141 #[.agg (Tm.cells t (.slice p nn cap)).toArray] W fun e w' => e = .returned (.bool (tidyR t)) ∧ Below W.heap.size W w' := by
  have E := Lib.hid (show tidyR t = ((t.bits == 0 || t.kind == 1) && (t.name.toList == [] || t.kind == 2) && (t.low == 0 || t.kind == 21)) from rfl)
  generalize tidyR t = r at *
  obtain ⟨k, wd, b, s, lo, l⟩ := t
  simp only [Tm.cells, Tm.kind, Tm.width, Tm.bits, Tm.name, Tm.low] at *
  go_enter Tryz.func141, Tryz.ntmps141
  go_wp2
  all_goals
    go_ret
    refine ⟨?_, (Below.refl _ _).alloc (Nat.le_refl _) _⟩
    rw [E.out]
    show Ending.returned (Value.bool _) = Ending.returned (Value.bool _)
    have q1 : ((k : Int) = 1) = (k = 1) := propext ⟨fun h => by omega, fun h => by omega⟩
    have q2 : ((k : Int) = 2) = (k = 2) := propext ⟨fun h => by omega, fun h => by omega⟩
    have e21 : ((k : Int) == 21) = (k == 21) := by rw [Bool.eq_iff_iff, beq_iff_eq, beq_iff_eq]; omega
    clear E
    (try simp only [q1, q2] at *)
    simp_all
end Go.Proofs.YthogpmddijbigaaGreatDoor
