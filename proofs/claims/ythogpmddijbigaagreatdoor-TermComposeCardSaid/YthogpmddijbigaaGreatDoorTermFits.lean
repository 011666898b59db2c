/- Contract of fits of package term. -/
import Derived.Test.YthogpmddijbigaaGreatDoorTermFormed
import Derived.Deep.Light
namespace Go.Proofs.YthogpmddijbigaaGreatDoor
open Go.RowKit
set_option linter.unusedVariables false
set_option linter.unusedSimpArgs false

def wdAt (l : List Tm) (i : Nat) : Int := match l[i]? with | some u => u.width | none => 0
/-- The fields that a kind uses, and the widths of its parts, are as the kind asks for. -/
noncomputable def fitsK (k : Nat) (w x y z lo : Int) (b : Nat) (s : ByteArray) : Bool :=
  if k = 1 then okW w b else if k = 2 then varR s else if k = 3 ∨ k = 4 then x == w else if k = 16 ∨ k = 17 ∨ k = 18 then w == 1 && x == y
  else if k = 19 then x == 1 && (y == w && z == w) else if k = 20 then wrap64 (x + y) == w else if k = 21 then decide (0 ≤ lo) && decide (lo ≤ wrap64 (x - w))
  else if k = 22 ∨ k = 23 then decide (x ≤ w) else if k = 24 then loadW w else x == w && y == w
noncomputable def fitsR (t : Tm) : Bool := fitsK t.kind t.width (wdAt t.sub 0) (wdAt t.sub 1) (wdAt t.sub 2) t.low t.bits t.name

theorem cell_two {W : World} {a : Addr} {v : Value} (h : W.cell? a = some v) (A B : Obj) : ((W.alloc A).alloc B).cell? a = some v := by
  have hl := cell_lt h
  have hb : Below W.heap.size W ((W.alloc A).alloc B) := ((Below.refl _ W).alloc (Nat.le_refl _) A).alloc (by simp) B
  rw [hb.cell hl]
  exact h

set_option maxRecDepth 100000 in
set_option maxHeartbeats 4000000 in
theorem fits_zero (k : Nat) (wd lo : Int) (b : Nat) (s : ByteArray) (p : Option Addr) (cap : Nat) (W : World) (hm : s.size ≤ 1000) (hk : k = 1 ∨ k = 2) (r : Bool) (hr : r = fitsK k wd 0 0 0 lo b s) :
    Calls Tryz.prog 142 #[.agg #[.int .u8 k, .int .i64 wd, .int .u64 b, .string s, .int .i64 lo, .slice p 0 cap]] W fun e w' => e = .returned (.bool r) ∧ Below W.heap.size W w' := by
  have HO := Lib.hid (fun W => okW_any wd b W)
  have HV := Lib.hid (fun W => isVariable_any s W hm)
  have HL := Lib.hid (fun W => isLoaded_any wd W)
  have E := Lib.hid hr
  clear hm hr
  rcases hk with rfl | rfl
  all_goals
    go_enter Tryz.func142, Tryz.ntmps142
    go_wp2
    refine wp_loop_rounds 1 ?_
    iterate 1 (try (rw [rounds_succ]; go_wp2))
    go_quiet (fail)
    go_wp2_with (first
      | (go_at_call 10; (with_reducible refine (HO.out _).mono ?_); rintro e w' ⟨rfl, rfl⟩)
      | (go_at_call 53; (with_reducible refine (HV.out _).mono ?_); rintro e w' ⟨rfl, hb⟩)
      | (go_at_call 44; (with_reducible refine (HL.out _).mono ?_); rintro e w' ⟨rfl, rfl⟩))
    all_goals
      go_ret
      refine ⟨by rw [E.out]; rfl, ?_⟩
      have base : ∀ (a b : Obj) (m : Nat), Below W.heap.size W (((W.alloc a).alloc b).drewN m) := fun a b m => (((Below.refl _ W).alloc (Nat.le_refl _) a).alloc (by simp) b).trans ⟨rfl, rfl, rfl, Nat.le_refl _, fun _ _ => rfl⟩
      first
        | exact base _ _ _
        | exact (base _ _ _).trans (hb.mono (by simp; omega))

set_option maxRecDepth 100000 in
set_option maxHeartbeats 4000000 in
theorem fits_one (k : Nat) (wd lo : Int) (b : Nat) (s : ByteArray) (bk o : Nat) (x : Int) (cap : Nat) (W : World) (hm : s.size ≤ 1000) (a0 : W.cell? ⟨bk, o + 1, none⟩ = some (.int .i64 x)) (hk : k = 3 ∨ k = 4 ∨ k = 21 ∨ k = 22 ∨ k = 23 ∨ k = 24) (r : Bool) (hr : r = fitsK k wd x 0 0 lo b s) :
    Calls Tryz.prog 142 #[.agg #[.int .u8 k, .int .i64 wd, .int .u64 b, .string s, .int .i64 lo, .slice (some ⟨bk, o, none⟩) 1 cap]] W fun e w' => e = .returned (.bool r) ∧ Below W.heap.size W w' := by
  have a0 := cell_two a0
  have HO := Lib.hid (fun W => okW_any wd b W)
  have HV := Lib.hid (fun W => isVariable_any s W hm)
  have HL := Lib.hid (fun W => isLoaded_any wd W)
  have E := Lib.hid hr
  clear hm hr
  rcases hk with rfl | rfl | rfl | rfl | rfl | rfl
  all_goals
    go_enter Tryz.func142, Tryz.ntmps142
    go_wp2
    refine wp_loop_rounds 2 ?_
    iterate 2 (try (rw [rounds_succ]; go_wp2))
    go_quiet (fail)
    go_wp2_with (first
      | (go_at_call 10; (with_reducible refine (HO.out _).mono ?_); rintro e w' ⟨rfl, rfl⟩)
      | (go_at_call 53; (with_reducible refine (HV.out _).mono ?_); rintro e w' ⟨rfl, hb⟩)
      | (go_at_call 44; (with_reducible refine (HL.out _).mono ?_); rintro e w' ⟨rfl, rfl⟩))
    all_goals
      go_ret
      refine ⟨by rw [E.out]; first | rfl | (refine congrArg (fun q => Ending.returned (Value.bool q)) (?_ : (_ : Bool) = _); clear E HO HV HL; go_light; simp_all [fitsK]; (try (intros; omega))), ?_⟩
      have base : ∀ (a b : Obj) (m : Nat), Below W.heap.size W (((W.alloc a).alloc b).drewN m) := fun a b m => (((Below.refl _ W).alloc (Nat.le_refl _) a).alloc (by simp) b).trans ⟨rfl, rfl, rfl, Nat.le_refl _, fun _ _ => rfl⟩
      first
        | exact base _ _ _
        | exact (base _ _ _).trans (hb.mono (by simp; omega))

set_option maxRecDepth 100000 in
set_option maxHeartbeats 4000000 in
theorem fits_two (k : Nat) (wd lo : Int) (b : Nat) (s : ByteArray) (bk o : Nat) (x y : Int) (cap : Nat) (W : World) (hm : s.size ≤ 1000) (a0 : W.cell? ⟨bk, o + 1, none⟩ = some (.int .i64 x)) (a1 : W.cell? ⟨bk, o + 6 + 1, none⟩ = some (.int .i64 y)) (hk : k = 5 ∨ k = 6 ∨ k = 7 ∨ k = 8 ∨ k = 9 ∨ k = 10 ∨ k = 11 ∨ k = 12 ∨ k = 13 ∨ k = 14 ∨ k = 15 ∨ k = 16 ∨ k = 17 ∨ k = 18 ∨ k = 20) (r : Bool) (hr : r = fitsK k wd x y 0 lo b s) :
    Calls Tryz.prog 142 #[.agg #[.int .u8 k, .int .i64 wd, .int .u64 b, .string s, .int .i64 lo, .slice (some ⟨bk, o, none⟩) 2 cap]] W fun e w' => e = .returned (.bool r) ∧ Below W.heap.size W w' := by
  have a0 := cell_two a0
  have a1 := cell_two a1
  have HO := Lib.hid (fun W => okW_any wd b W)
  have HV := Lib.hid (fun W => isVariable_any s W hm)
  have HL := Lib.hid (fun W => isLoaded_any wd W)
  have E := Lib.hid hr
  clear hm hr
  rcases hk with rfl | rfl | rfl | rfl | rfl | rfl | rfl | rfl | rfl | rfl | rfl | rfl | rfl | rfl | rfl
  all_goals
    go_enter Tryz.func142, Tryz.ntmps142
    go_wp2
    refine wp_loop_rounds 3 ?_
    iterate 3 (try (rw [rounds_succ]; go_wp2))
    go_quiet (fail)
    go_wp2_with (first
      | (go_at_call 10; (with_reducible refine (HO.out _).mono ?_); rintro e w' ⟨rfl, rfl⟩)
      | (go_at_call 53; (with_reducible refine (HV.out _).mono ?_); rintro e w' ⟨rfl, hb⟩)
      | (go_at_call 44; (with_reducible refine (HL.out _).mono ?_); rintro e w' ⟨rfl, rfl⟩))
    all_goals
      go_ret
      refine ⟨by rw [E.out]; first | rfl | (refine congrArg (fun q => Ending.returned (Value.bool q)) (?_ : (_ : Bool) = _); clear E HO HV HL; go_light; simp_all [fitsK]; (try (intros; omega))), ?_⟩
      have base : ∀ (a b : Obj) (m : Nat), Below W.heap.size W (((W.alloc a).alloc b).drewN m) := fun a b m => (((Below.refl _ W).alloc (Nat.le_refl _) a).alloc (by simp) b).trans ⟨rfl, rfl, rfl, Nat.le_refl _, fun _ _ => rfl⟩
      first
        | exact base _ _ _
        | exact (base _ _ _).trans (hb.mono (by simp; omega))

set_option maxRecDepth 100000 in
set_option maxHeartbeats 4000000 in
theorem fits_three (k : Nat) (wd lo : Int) (b : Nat) (s : ByteArray) (bk o : Nat) (x y z : Int) (cap : Nat) (W : World) (hm : s.size ≤ 1000) (a0 : W.cell? ⟨bk, o + 1, none⟩ = some (.int .i64 x)) (a1 : W.cell? ⟨bk, o + 6 + 1, none⟩ = some (.int .i64 y)) (a2 : W.cell? ⟨bk, o + 12 + 1, none⟩ = some (.int .i64 z)) (hk : k = 19) (r : Bool) (hr : r = fitsK k wd x y z lo b s) :
    Calls Tryz.prog 142 #[.agg #[.int .u8 k, .int .i64 wd, .int .u64 b, .string s, .int .i64 lo, .slice (some ⟨bk, o, none⟩) 3 cap]] W fun e w' => e = .returned (.bool r) ∧ Below W.heap.size W w' := by
  have a0 := cell_two a0
  have a1 := cell_two a1
  have a2 := cell_two a2
  have HO := Lib.hid (fun W => okW_any wd b W)
  have HV := Lib.hid (fun W => isVariable_any s W hm)
  have HL := Lib.hid (fun W => isLoaded_any wd W)
  have E := Lib.hid hr
  clear hm hr
  subst hk
  all_goals
    go_enter Tryz.func142, Tryz.ntmps142
    go_wp2
    refine wp_loop_rounds 4 ?_
    iterate 4 (try (rw [rounds_succ]; go_wp2))
    go_quiet (fail)
    go_wp2_with (first
      | (go_at_call 10; (with_reducible refine (HO.out _).mono ?_); rintro e w' ⟨rfl, rfl⟩)
      | (go_at_call 53; (with_reducible refine (HV.out _).mono ?_); rintro e w' ⟨rfl, hb⟩)
      | (go_at_call 44; (with_reducible refine (HL.out _).mono ?_); rintro e w' ⟨rfl, rfl⟩))
    all_goals
      go_ret
      refine ⟨by rw [E.out]; first | rfl | (refine congrArg (fun q => Ending.returned (Value.bool q)) (?_ : (_ : Bool) = _); clear E HO HV HL; go_light; simp_all [fitsK]; (try (intros; omega))), ?_⟩
      have base : ∀ (a b : Obj) (m : Nat), Below W.heap.size W (((W.alloc a).alloc b).drewN m) := fun a b m => (((Below.refl _ W).alloc (Nat.le_refl _) a).alloc (by simp) b).trans ⟨rfl, rfl, rfl, Nat.le_refl _, fun _ _ => rfl⟩
      first
        | exact base _ _ _
        | exact (base _ _ _).trans (hb.mono (by simp; omega))

end Go.Proofs.YthogpmddijbigaaGreatDoor
