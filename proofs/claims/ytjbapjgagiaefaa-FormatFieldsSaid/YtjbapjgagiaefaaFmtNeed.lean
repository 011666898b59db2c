/- The small functions of package format: need, isIn, isSigned. Each leaves the world alone. -/
import Derived.Test.YtjbapjgagiaefaaBitsCheck
import Derived.Laws.Rows
namespace Go.Proofs.Ytjbapjgagiaefaa
open Go.RowKit Go.Instr
set_option linter.unusedVariables false
set_option linter.unusedSimpArgs false
set_option maxRecDepth 100000

/-- A row of conditions in a fresh block. -/
def boolO (L : List Bool) : Obj := .cells (L.map .bool).toArray 4
theorem boolO_cell (w : World) (L : List Bool) (i : Nat) (b : Bool) (h : L[i]? = some b) : (w.alloc (boolO L)).cell? ⟨w.heap.size, i, none⟩ = some (.bool b) := by
  simp only [World.cell?]
  rw [show (w.alloc (boolO L)).heap[w.heap.size]? = some (boolO L) from heap_alloc_new w (boolO L)]
  simp [boolO, h]

set_option maxHeartbeats 4000000 in
theorem idx_false (L : List Bool) (w : World) (hL : L.length ≤ 4) :
    Calls Try.prog 57 #[.slice (some ⟨w.heap.size, 0, none⟩) L.length L.length, .bool false] (w.alloc (boolO L)) fun e w' => (∃ z : Int, e = .returned (.int .i64 z) ∧ decide (0 ≤ z) = !(L.all id)) ∧ w.alloc (boolO L) = w' := by
  have HC := Lib.hid (boolO_cell w L)
  obtain ⟨n, hn⟩ : ∃ n, L.length = n := ⟨_, rfl⟩
  have HN := Lib.hid hn
  rw [hn] at hL ⊢
  obtain ⟨B, hB⟩ : ∃ B, w.heap.size = B := ⟨_, rfl⟩
  rw [hB] at HC ⊢
  obtain ⟨X, hX⟩ : ∃ X, w.alloc (boolO L) = X := ⟨_, rfl⟩
  rw [hX] at HC ⊢
  clear hn hB hX
  go_enter Try.func57, Try.ntmps57
  go_wp2
  go_loopw [5, 8] (fun _ v wr => ∃ i : Nat, v = .int .i64 i ∧ i ≤ n ∧ wr = X ∧ Hid (∀ j y, j < i → L[j]? = some y → y = true)) (fun _ v _ => n - (intOf v).toNat)
  case atStart => exact ⟨0, rfl, Nat.zero_le _, rfl, Lib.hid (fun j y hj => absurd hj (Nat.not_lt_zero _))⟩
  case round =>
    obtain ⟨i, rfl, hi, rfl, HI⟩ := hrel
    by_cases hlt : i < n
    · obtain ⟨x, hx⟩ : ∃ x, L[i]? = some x := ⟨_, List.getElem?_eq_getElem (by rw [HN.out]; exact hlt)⟩
      have c0 := HC.out i x hx
      have HX := Lib.hid hx
      have HLT := Lib.hid hlt
      clear hx
      cases x with
      | false =>
        go_wp2
        go_ret
        refine ⟨⟨_, rfl, ?_⟩, rfl⟩
        have h1 : L.all id = false := by
          rw [List.all_eq_false]
          exact ⟨false, List.mem_of_getElem? HX.out, by simp⟩
        rw [h1]; simp
      | true =>
        go_wp2
        go_roundw
        case rel =>
          refine ⟨i + 1, by first | rfl | go_num | (congr 1), by have := HLT.out; omega, by trivial, Lib.hid (fun j y hj hy => ?_)⟩
          by_cases e : j = i
          · subst e
            rw [HX.out] at hy
            exact (Option.some.inj hy).symm
          · exact HI.out j y (by omega) hy
        case measure => simp only [intOf]; have := HLT.out; omega
    · obtain rfl : i = n := by omega
      go_wp2
      go_ret
      refine ⟨⟨_, rfl, ?_⟩, rfl⟩
      have h1 : L.all id = true := by
        rw [List.all_eq_true]
        intro y hy
        obtain ⟨j, hj⟩ := List.getElem?_of_mem hy
        exact HI.out j y (by rw [← HN.out]; exact (List.getElem?_eq_some_iff.1 hj).1) hj
      rw [h1]; rfl
theorem cont_false (L : List Bool) (w : World) (hL : L.length ≤ 4) :
    Calls Try.prog 51 #[.slice (some ⟨w.heap.size, 0, none⟩) L.length L.length, .bool false] (w.alloc (boolO L)) fun e w' => e = .returned (.bool (!(L.all id))) ∧ w.alloc (boolO L) = w' := by
  have HC := Lib.hid (idx_false L w hL)
  obtain ⟨q, hq⟩ : ∃ q, (!(L.all id)) = q := ⟨_, rfl⟩
  rw [hq] at HC ⊢
  obtain ⟨X, hX⟩ : ∃ X, w.alloc (boolO L) = X := ⟨_, rfl⟩
  rw [hX] at HC ⊢
  clear hq hX hL
  go_enter Try.func51, Try.ntmps51
  go_wp2_with (go_at_call 57; (with_reducible refine HC.out.mono ?_); rintro e w1 ⟨⟨z, rfl, hz⟩, rfl⟩; have HZ := Lib.hid hz; clear hz)
  go_ret
  exact ⟨by rw [← HZ.out]; rfl, rfl⟩
/-- need: the error unless all conditions hold. -/
def needR (e : Int) (L : List Bool) : Int := if L.all id = true then 0 else e
theorem need_list (er : Int) (L : List Bool) (w : World) (hL : L.length ≤ 4) :
    Calls Try.prog 31 #[.int .i64 er, .slice (some ⟨w.heap.size, 0, none⟩) L.length L.length] (w.alloc (boolO L)) fun e w' => e = .returned (.int .i64 (needR er L)) ∧ w.alloc (boolO L) = w' := by
  have HC := Lib.hid (cont_false L w hL)
  have HR := Lib.hid (show needR er L = if L.all id = true then 0 else er from rfl)
  obtain ⟨X, hX⟩ : ∃ X, w.alloc (boolO L) = X := ⟨_, rfl⟩
  rw [hX] at HC ⊢
  clear hX hL
  cases hq : L.all id
  all_goals
    rw [hq] at HC HR
    clear hq
    go_enter Try.func31, Try.ntmps31
    go_wp2_with (go_at_call 51; (with_reducible refine HC.out.mono ?_); rintro e w1 ⟨rfl, rfl⟩)
    go_ret
    exact ⟨by rw [HR.out]; simp, rfl⟩
theorem need1 (er : Int) (a : Bool) (w : World) :
    Calls Try.prog 31 #[.int .i64 er, .slice (some ⟨w.heap.size, 0, none⟩) 1 1] (w.alloc (.cells #[.bool a] 4)) fun e w' => e = .returned (.int .i64 (needR er [a])) ∧ w.alloc (.cells #[.bool a] 4) = w' := need_list er [a] w (by simp)
theorem need2 (er : Int) (a b : Bool) (w : World) :
    Calls Try.prog 31 #[.int .i64 er, .slice (some ⟨w.heap.size, 0, none⟩) 2 2] (w.alloc (.cells #[.bool a, .bool b] 4)) fun e w' => e = .returned (.int .i64 (needR er [a, b])) ∧ w.alloc (.cells #[.bool a, .bool b] 4) = w' := need_list er [a, b] w (by simp)
theorem need3 (er : Int) (a b c : Bool) (w : World) :
    Calls Try.prog 31 #[.int .i64 er, .slice (some ⟨w.heap.size, 0, none⟩) 3 3] (w.alloc (.cells #[.bool a, .bool b, .bool c] 4)) fun e w' => e = .returned (.int .i64 (needR er [a, b, c])) ∧ w.alloc (.cells #[.bool a, .bool b, .bool c] 4) = w' := need_list er [a, b, c] w (by simp)

/-- n is from a to b. -/
def inB (n a b : Int) : Bool := decide (a ≤ n ∧ n ≤ b)
theorem isIn_any (n a b : Int) (w : World) :
    Calls Try.prog 37 #[.int .i64 n, .int .i64 a, .int .i64 b] w fun e w' => e = .returned (.bool (inB n a b)) ∧ w = w' := by
  have HR := Lib.hid (show inB n a b = decide (a ≤ n ∧ n ≤ b) from rfl)
  by_cases h : a ≤ n
  · go_enter Try.func37, Try.ntmps37
    go_wp2
    go_ret
    exact ⟨by rw [HR.out]; simp [h], rfl⟩
  · have h' : decide (a ≤ n) = false := by simpa using h
    go_enter Try.func37, Try.ntmps37
    go_wp2
    go_ret
    exact ⟨by rw [HR.out]; simp; intro q; omega, rfl⟩
/-- A kind of signed numbers. -/
def sgK (k : Int) : Bool := k == 2 || k == 4
theorem isSigned_any (k : Int) (w : World) :
    Calls Try.prog 35 #[.int .u8 k] w fun e w' => e = .returned (.bool (sgK k)) ∧ w = w' := by
  have HR := Lib.hid (show sgK k = (k == 2 || k == 4) from rfl)
  cases h : (k == 2)
  all_goals
    rw [h] at HR
    go_enter Try.func35, Try.ntmps35
    go_wp2
    go_ret
    exact ⟨by rw [HR.out]; rfl, rfl⟩
end Go.Proofs.Ytjbapjgagiaefaa
