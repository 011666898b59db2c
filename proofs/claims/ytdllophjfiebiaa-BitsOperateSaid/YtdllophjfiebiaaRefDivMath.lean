/- Plain mathematics of division bit by bit. -/
import Derived.Test.YtdllophjfiebiaaRefShift
namespace Go.Proofs.Ytdllophjfiebiaa
open Go.RowKit Go.Sort
set_option linter.unusedVariables false
set_option linter.unusedSimpArgs false

def remAt (X Y k : Nat) : Nat := X / 2 ^ k % Y
def quoAt (X Y k : Nat) : Nat := X / 2 ^ k / Y * 2 ^ k
theorem div_step (X k : Nat) : X / 2 ^ k = 2 * (X / 2 ^ (k + 1)) + bt X k := by
  unfold bt
  rw [Nat.pow_succ, ← Nat.div_div_eq_div_mul]; omega
theorem rem_less (X Y k : Nat) (h : 2 * remAt X Y (k + 1) + bt X k < Y) : remAt X Y k = 2 * remAt X Y (k + 1) + bt X k ∧ quoAt X Y k = quoAt X Y (k + 1) := by
  have hs := div_step X k
  have hd := Nat.div_add_mod (X / 2 ^ (k + 1)) Y
  unfold remAt quoAt at *
  generalize X / 2 ^ (k + 1) = T at *
  have e : X / 2 ^ k = Y * (2 * (T / Y)) + (2 * (T % Y) + bt X k) := by
    rw [hs, Nat.mul_left_comm]; omega
  have hY : 0 < Y := by omega
  rw [e, Nat.mul_add_mod, Nat.mod_eq_of_lt h, Nat.mul_add_div hY, Nat.div_eq_of_lt h, Nat.add_zero, Nat.pow_succ]
  refine ⟨rfl, ?_⟩
  rw [Nat.mul_comm 2, Nat.mul_assoc, Nat.mul_comm 2]
theorem rem_more (X Y k : Nat) (hY : 0 < Y) (h : ¬ 2 * remAt X Y (k + 1) + bt X k < Y) : remAt X Y k = 2 * remAt X Y (k + 1) + bt X k - Y ∧ quoAt X Y k = quoAt X Y (k + 1) + 2 ^ k := by
  have hs := div_step X k
  have hd := Nat.div_add_mod (X / 2 ^ (k + 1)) Y
  have hm := Nat.mod_lt (X / 2 ^ (k + 1)) hY
  have hb := bt_cases X k
  unfold remAt quoAt at *
  generalize X / 2 ^ (k + 1) = T at *
  have e : X / 2 ^ k = Y * (2 * (T / Y) + 1) + (2 * (T % Y) + bt X k - Y) := by
    rw [hs, Nat.mul_add, Nat.mul_left_comm]; omega
  have hlt : 2 * (T % Y) + bt X k - Y < Y := by omega
  rw [e, Nat.mul_add_mod, Nat.mod_eq_of_lt hlt, Nat.mul_add_div hY, Nat.div_eq_of_lt hlt, Nat.add_zero, Nat.pow_succ]
  refine ⟨rfl, ?_⟩
  rw [Nat.add_mul, Nat.one_mul, Nat.mul_comm 2, Nat.mul_assoc, Nat.mul_comm 2]
theorem rem_lt (X Y k : Nat) (hY : 0 < Y) : remAt X Y k < Y := Nat.mod_lt _ hY
theorem rem_top (X Y n : Nat) (hx : X < 2 ^ n) : remAt X Y n = 0 ∧ quoAt X Y n = 0 := by
  unfold remAt quoAt; rw [Nat.div_eq_of_lt hx]; simp
theorem rem_end (X Y : Nat) : remAt X Y 0 = X % Y ∧ quoAt X Y 0 = X / Y := by
  unfold remAt quoAt; simp
theorem bt_pow (k j : Nat) : bt (2 ^ k) j = if j = k then 1 else 0 := by
  rw [bt_test, Nat.testBit_two_pow]
  by_cases h : k = j
  · subst h; simp
  · have : ¬ j = k := fun e => h e.symm
    simp [h, this]
theorem set_bit (X Y n k : Nat) (hk : k < n) : (bitCells (quoAt X Y (k + 1)) n).set k (.int .i64 1) = bitCells (quoAt X Y (k + 1) + 2 ^ k) n := by
  have hp : 2 ^ k < 2 ^ (k + 1) := Nat.pow_lt_pow_right (by decide) (by omega)
  apply List.ext_getElem?
  intro j
  rw [List.getElem?_set]
  by_cases hj : j < n
  · rw [bitCells_get _ n j hj, bitCells_get _ n j hj]
    unfold quoAt
    rw [bt_join _ _ _ _ hp]
    have h0 := bt_join (X / 2 ^ (k + 1) / Y) 0 (k + 1) j (pow_pos' _)
    rw [Nat.add_zero, bt_zero] at h0
    rw [h0, bt_pow]
    by_cases he : k = j
    · subst he
      rw [if_pos rfl, if_pos (by rw [bitCells_length]; exact hk), if_pos (by omega), if_pos rfl]; rfl
    · rw [if_neg he]
      by_cases hlt : j < k + 1
      · rw [if_pos hlt, if_pos hlt, if_neg (by omega)]
      · rw [if_neg hlt, if_neg hlt]
  · rw [if_neg (by omega), List.getElem?_eq_none (by rw [bitCells_length]; omega), List.getElem?_eq_none (by rw [bitCells_length]; omega)]
theorem set_low (R b n : Nat) (h0 : 1 ≤ n) (hb : b ≤ 1) : (bitCells (2 * R) n).set 0 (.int .i64 (b : Nat)) = bitCells (2 * R + b) n := by
  apply List.ext_getElem?
  intro j
  rw [List.getElem?_set]
  by_cases hj : j < n
  · rw [bitCells_get _ n j hj, bitCells_get _ n j hj]
    have h1 := bt_join R b 1 j (by omega)
    have h2 := bt_double R j
    rw [Nat.pow_one, Nat.mul_comm] at h1
    rw [h1, h2]
    rcases j with _ | j
    · rw [if_pos rfl, if_pos (by rw [bitCells_length]; exact h0), if_pos (by omega)]
      unfold bt; rw [Nat.pow_zero, Nat.div_one, Nat.mod_eq_of_lt (by omega)]
    · rw [if_neg (by omega), if_neg (by omega), if_neg (by omega)]
  · rw [if_neg (by omega), List.getElem?_eq_none (by rw [bitCells_length]; omega), List.getElem?_eq_none (by rw [bitCells_length]; omega)]
theorem bt_mod_eq (A B n j : Nat) (h : A % 2 ^ n = B % 2 ^ n) (hj : j < n) : bt A j = bt B j := by
  rw [← bt_md A n j hj, ← bt_md B n j hj, h]
theorem sub_bits (R Y n : Nat) (h : Y ≤ R) (hY : Y < 2 ^ n) : (R + cpl n Y + 1) % 2 ^ n = (R - Y) % 2 ^ n := by
  unfold cpl
  rw [Nat.mod_eq_of_lt hY]
  have e : R + (2 ^ n - 1 - Y) + 1 = R - Y + 2 ^ n := by omega
  rw [e, Nat.add_mod_right]
theorem ltB_small (n A B : Nat) (ha : A < 2 ^ n) (hb : B < 2 ^ n) : ltB n A B = decide (A < B) := by
  unfold ltB md; rw [Nat.mod_eq_of_lt ha, Nat.mod_eq_of_lt hb]

theorem cell_setOther (w : World) (a : Addr) (v : Value) (g j : Nat) (h : g ≠ a.block) : (w.setCell a v).cell? ⟨g, j, none⟩ = w.cell? ⟨g, j, none⟩ :=
  World.cell?_of_block (w := w) (Below.heap_setCell w a v g h)
theorem Cells.setOther {w : World} {g n X : Nat} (h : Cells w g n X) (a : Addr) (v : Value) (hne : g ≠ a.block) : Cells (w.setCell a v) g n X := fun j hj => by rw [cell_setOther w a v g j hne]; exact h j hj
theorem BitsAt.setOther {w : World} {base g n cap X : Nat} (h : BitsAt w base g n cap X) (a : Addr) (v : Value) (hne : g ≠ a.block) : BitsAt (w.setCell a v) base g n cap X := by
  obtain ⟨h1, h2⟩ := h
  refine ⟨h1, ?_⟩
  rcases h2 with ⟨h2, _⟩ | ⟨g', cap', cur, hv, hg, hh, r⟩
  · cases h2
  · cases hv
    exact Or.inr ⟨g, cap, cur, rfl, hg, by rw [Below.heap_setCell w a v g hne]; exact hh, r⟩
theorem BitsAt.frozen {w : World} {base g n cap X : Nat} (h : BitsAt w base g n cap X) (j : Nat) : w.frozen? ⟨g, j, none⟩ = false := World.ownsRow.frozenAt h j
end Go.Proofs.Ytdllophjfiebiaa
