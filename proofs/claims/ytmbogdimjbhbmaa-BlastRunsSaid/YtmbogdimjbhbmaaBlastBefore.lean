/- Contracts of cmp.Or over two numbers and of before: the order of a circuit's inputs. -/
import Derived.Test.YtmbogdimjbhbmaaBlastStr
import Derived.Deep.RegionHeld3
namespace Go.Proofs.Ytmbogdimjbhbmaa
open Go.RowKit
set_option linter.unusedVariables false

def orR (x y : Int) : Int := if x = 0 then y else x
theorem or_any (g : Nat) (x y : Int) (w : World) (h0 : w.cell? ⟨g, 0, none⟩ = some (.int .i64 x)) (h1 : w.cell? ⟨g, 1, none⟩ = some (.int .i64 y)) :
    Calls Try.prog 43 #[.slice (some ⟨g, 0, none⟩) 2 2] w fun e w' => e = .returned (.int .i64 (orR x y)) ∧ w = w' := by
  have HR := Lib.hid (show orR x y = if x = 0 then y else x from rfl)
  generalize orR x y = r at *
  go_enter Try.func43, Try.ntmps43
  go_wp2
  go_loop [8] (fun i => (i = .int .i64 0) ∨ (i = .int .i64 1 ∧ x = 0) ∨ (i = .int .i64 2 ∧ x = 0 ∧ y = 0)) (fun i => 2 - (intOf i).toNat)
  case atStart => exact .inl rfl
  case round =>
    rcases hrel with rfl | ⟨rfl, hx⟩ | ⟨rfl, hx, hy⟩
    · by_cases hx : x = 0
      · have hx2 : (x != 0) = false := by simp [hx]
        have HX := Lib.hid hx
        clear hx
        go_wp2
        go_round
        case rel => exact .inr (.inl ⟨rfl, HX.out⟩)
        case measure => simp [intOf]
      · have hx2 : (x != 0) = true := by simp [hx]
        have HX := Lib.hid hx
        clear hx
        go_wp2
        go_ret
        exact ⟨by rw [HR.out, if_neg HX.out]; rfl, rfl⟩
    · have HX := Lib.hid hx
      clear hx
      by_cases hy : y = 0
      · have hy2 : (y != 0) = false := by simp [hy]
        have HY := Lib.hid hy
        clear hy
        go_wp2
        go_round
        case rel => exact .inr (.inr ⟨rfl, HX.out, HY.out⟩)
        case measure => simp [intOf]
      · have hy2 : (y != 0) = true := by simp [hy]
        clear hy
        go_wp2
        go_ret
        exact ⟨by rw [HR.out, if_pos HX.out]; rfl, rfl⟩
    · have HX := Lib.hid hx
      have HY := Lib.hid hy
      clear hx hy
      go_wp2
      go_ret
      exact ⟨by rw [HR.out, if_pos HX.out, HY.out]; rfl, rfl⟩

def befR (a : ByteArray) (i : Int) (b : ByteArray) (j : Int) : Bool := decide (orR (cmpS a b) (cmpI i j) < 0)
set_option maxRecDepth 100000 in
theorem before_any (a b : ByteArray) (i j : Int) (w : World) :
    Calls Try.prog 34 #[.agg #[.string a, .int .i64 i], .agg #[.string b, .int .i64 j]] w fun e w' => e = .returned (.bool (befR a i b j)) ∧ Below w.heap.size w w' := by
  have HR := Lib.hid (show befR a i b j = decide (orR (cmpS a b) (cmpI i j) < 0) from rfl)
  generalize befR a i b j = r at *
  obtain ⟨W2, hW2⟩ : ∃ W2, W2 = (w.alloc (.cells #[.string a, .int .i64 i] 45)).alloc (.cells #[.string b, .int .i64 j] 45) := ⟨_, rfl⟩
  have hb2 : Below w.heap.size w W2 := by rw [hW2]; exact ((Below.refl _ _).alloc (Nat.le_refl _) _).alloc (by simp) _
  have c0 : W2.cell? ⟨w.heap.size, 0, none⟩ = some (.string a) := by rw [hW2]; go_simp
  have c1 : W2.cell? ⟨w.heap.size, 1, none⟩ = some (.int .i64 i) := by rw [hW2]; go_simp
  have c2 : W2.cell? ⟨w.heap.size + 1, 0, none⟩ = some (.string b) := by rw [hW2]; go_simp
  have c3 : W2.cell? ⟨w.heap.size + 1, 1, none⟩ = some (.int .i64 j) := by rw [hW2]; go_simp
  have HB := Lib.hid hb2
  have HW := Lib.hid hW2
  clear hb2 hW2
  go_enter Try.func34, Try.ntmps34
  go_wp2_with fail
  rw [← HW.out]
  clear HW
  go_region_held3 (fun w' => w'.cell? ⟨w.heap.size, 0, none⟩ = some (.string a) ∧ w'.cell? ⟨w.heap.size, 1, none⟩ = some (.int .i64 i) ∧ w'.cell? ⟨w.heap.size + 1, 0, none⟩ = some (.string b) ∧ w'.cell? ⟨w.heap.size + 1, 1, none⟩ = some (.int .i64 j))
    (go_keep)
    (first
      | (go_at_call 23; (with_reducible refine (compareS_any _ _ _).mono ?_); rintro e w' ⟨rfl, rfl⟩)
      | (go_at_call 44; (with_reducible refine (compareI_any _ _ _).mono ?_); rintro e w' ⟨rfl, rfl⟩)
      | (go_at_call 43; refine (or_any _ (cmpS a b) (cmpI i j) _ (by go_simp) (by go_simp)).mono ?_; rintro e w' ⟨rfl, rfl⟩))
  all_goals go_wp2
  all_goals
    go_ret
    exact ⟨by rw [HR.out]; rfl, (HB.out.alloc HB.out.size _).drew⟩
end Go.Proofs.Ytmbogdimjbhbmaa
