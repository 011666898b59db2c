/- Contracts of the reference's arithmetic on lists of bits: not, zeros, up, add. -/
import Derived.Test.YtdllophjfiebiaaRefConcat
import Derived.BigQuiet
namespace Go.Proofs.Ytdllophjfiebiaa
open Go.RowKit Go.Sort
set_option linter.unusedVariables false
set_option linter.unusedSimpArgs false

theorem thenBel {a b c : World} (h : Below a.heap.size a b) (k : Below b.heap.size b c) : Below a.heap.size a c := h.trans (k.mono h.size)
/-- Block g reads as the first n bits of X. -/
def Cells (w : World) (g n X : Nat) : Prop := ∀ j, j < n → w.cell? ⟨g, j, none⟩ = some (.int .i64 (bt X j : Nat))
theorem Cells.kept {w w' : World} {g n X : Nat} (h : Cells w g n X) (hb : Below w.heap.size w w') : Cells w' g n X := fun j hj => cell_later hb (h j hj)
theorem Cells.less {w : World} {g n m X : Nat} (h : Cells w g n X) (hm : m ≤ n) : Cells w g m X := fun j hj => h j (by omega)
theorem Cells.ext {w : World} {g n X Y : Nat} (h : Cells w g n X) (he : ∀ j, j < n → bt X j = bt Y j) : Cells w g n Y := fun j hj => by rw [← he j hj]; exact h j hj
theorem BitsAt.cells {w : World} {base g n cap X : Nat} (h : BitsAt w base g n cap X) : Cells w g n X := fun j hj => h.cell j hj
theorem BitsAt.ext {w : World} {base g n cap X Y : Nat} (h : BitsAt w base g n cap X) (he : ∀ j, j < n → bt X j = bt Y j) : BitsAt w base g n cap Y := by
  unfold BitsAt at *; rw [← bitCells_ext X Y n he]; exact h

/-- One element more: what the append of a single value leaves. -/
theorem step_own {w wr w1 : World} {X k : Nat} {v v' : Value} {o : Obj} {u : Value} (hown : wr.ownsRow w.heap.size 3 1 v k (bitCells X k)) (hb : Below w.heap.size w wr) (hu : u = .int .i64 (bt X k : Nat))
    (hown' : w1.ownsRow w.heap.size 3 1 v' (k + 1) (bitCells X k ++ [u])) (hgrow : (wr.alloc o).grownBy w1 v.ownBlock) :
    w1.ownsRow w.heap.size 3 1 v' (k + 1) (bitCells X (k + 1)) ∧ Below w.heap.size w w1 :=
  ⟨by rw [bitCells_succ, ← hu]; exact hown', grown_step hb hown hgrow⟩

def cpl (n X : Nat) : Nat := 2 ^ n - 1 - X % 2 ^ n
theorem bt_cpl (n X j : Nat) (h : j < n) : ((bt (cpl n X) j : Nat) : Int) = 1 - (bt X j : Nat) := by
  have hm := Nat.mod_lt X (pow_pos' n)
  have e : cpl n X = 2 ^ n - (X % 2 ^ n + 1) := by unfold cpl; omega
  rw [bt_test, e, Nat.testBit_two_pow_sub_succ hm, ← bt_md X n j h, bt_test (X % 2 ^ n)]
  cases (X % 2 ^ n).testBit j <;> simp [h]

theorem not_any (n X g cap : Nat) (w : World) (h0 : 1 ≤ n) (h1 : n ≤ 65) (hc : Cells w g n X) :
    Calls Try.prog 25 #[.slice (some ⟨g, 0, none⟩) n cap] w (Gives n (cpl n X) w) := by
  obtain ⟨i0, hi, hz0, hz1, hz2⟩ := info_parts int_info
  go_enter Try.func25, Try.ntmps25
  go_wp2
  go_loopw [3, 4] (fun v i wr => ∃ k : Nat, k ≤ n ∧ i = .int .i64 k ∧ wr.ownsRow w.heap.size 3 1 v k (bitCells (cpl n X) k) ∧ Below w.heap.size w wr)
    (fun _ i _ => n - (intOf i).toNat)
  case atStart => exact ⟨0, Nat.zero_le _, rfl, World.ownsRow_nil _ _ _ _, Below.refl _ _⟩
  case round =>
    obtain ⟨k, hk, rfl, hown, hb⟩ := hrel
    by_cases hlt : k < n
    · have hcell := cell_later hb (hc k hlt)
      have hs := bt_cpl n X k hlt
      have hcs := bt_cases X k
      generalize bt X k = q at hcell hs hcs
      have HS := Lib.hid hs
      have HB := Lib.hid hb
      have HO := Lib.hid hown
      clear hb hs hown
      go_wp2_with (at_builtin; refine wpList_append_own _ rfl _ _ 48 rfl w.heap.size 3 i0 (.int .i64 0) 1 8 Try.underlying48 hi hz0 hz1 hz2 rfl (by decide) _ _ _ rfl (World.ownsRow.alloc HO.out _) ⟨_, 0, none⟩ 1 1 [.int .i64 (1 - (q : Int))] rfl rfl ?c1 ?c2 ?c3 ?c4 ?c5 ?_)
      case c1 =>
        intro j u hj
        match j, hj with
        | 0, hj => simp at hj; subst hj; simp [Addr.add]
      case c2 => intro u hu; simp at hu; subst hu; rfl
      case c3 => unfold maxLen; omega
      case c4 => omega
      case c5 => have := HB.out.size; simp; omega
      · intro v' w1 hown' hgrow _
        have HR := Lib.hid (step_own HO.out HB.out (by rw [HS.out]) hown' hgrow)
        clear hown' hgrow
        go_wp2
        go_roundw
        case rel => exact ⟨k + 1, by omega, by go_num, HR.out.1, HR.out.2⟩
        case measure => simp [intOf]; omega
    · obtain rfl : k = n := by omega
      have HB := Lib.hid hb
      have HO := Lib.hid hown
      clear hb hown
      go_wp2
      go_ret
      exact Gives.mk' HO.out h0 HB.out

theorem bt_zero (j : Nat) : bt 0 j = 0 := bt_small 0 0 j (by decide) (Nat.zero_le _)
theorem zeros_any (n : Nat) (w : World) (h0 : 1 ≤ n) (h1 : n ≤ 65) :
    Calls Try.prog 28 #[.int .i64 n] w (Gives n 0 w) := by
  obtain ⟨i0, hi, hz0, hz1, hz2⟩ := info_parts int_info
  go_enter Try.func28, Try.ntmps28
  go_wp2_with (at_make; refine wpList_make_full _ rfl _ _ 48 rfl w.heap.size 3 i0 (.int .i64 0) 1 Try.underlying48 hi hz0 hz1 _ _ _ _ n rfl rfl rfl rfl (by rw [hz2]; omega) (by unfold maxLen; omega) (by simp) ?_; intro w1 hown hgrow)
  go_ret
  refine Gives.mk' ?_ h0 ((Below.refl _ _).grown hgrow (Nat.le_refl _) (by simp))
  have e : bitCells 0 n = List.replicate n (.int .i64 0) := by
    apply List.ext_getElem?
    intro j
    by_cases hj : j < n
    · rw [bitCells_get 0 n j hj, bt_zero]; simp [hj]
    · rw [List.getElem?_eq_none (by rw [bitCells_length]; omega), List.getElem?_eq_none (by simp; omega)]
  rw [e]
  simpa [Value.cells, toList_madeCells_one] using hown
end Go.Proofs.Ytdllophjfiebiaa
