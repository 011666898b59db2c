/- Contracts of the reference's less, places, truth and shift. -/
import Derived.Test.YtdllophjfiebiaaRefSum
namespace Go.Proofs.Ytdllophjfiebiaa
open Go.RowKit Go.Sort
set_option linter.unusedVariables false
set_option linter.unusedSimpArgs false

theorem eq_of_bt (a b : Nat) (h : ∀ j, bt a j = bt b j) : a = b := by
  apply Nat.eq_of_testBit_eq
  intro j
  have := h j
  rw [bt_test, bt_test] at this
  cases h1 : a.testBit j <;> cases h2 : b.testBit j <;> simp_all
theorem bt_md' (X n j : Nat) : bt (md X n) j = if j < n then bt X j else 0 := by
  by_cases h : j < n
  · rw [if_pos h]; exact bt_md X n j h
  · rw [if_neg h]; exact bt_small _ n j (Nat.mod_lt _ (pow_pos' n)) (by omega)
theorem md_lt (n X Y k : Nat) (hk : k < n) (hab : ∀ j, k < j → j < n → bt X j = bt Y j) (h : bt X k < bt Y k) : md X n < md Y n := by
  have hx : bt (md X n) k = 0 := by rw [bt_md', if_pos hk]; rcases bt_cases X k with h1 | h1 <;> rcases bt_cases Y k with h2 | h2 <;> omega
  have hy : bt (md Y n) k = 1 := by rw [bt_md', if_pos hk]; rcases bt_cases Y k with h2 | h2 <;> omega
  have he : md X n / 2 ^ (k + 1) = md Y n / 2 ^ (k + 1) := by
    apply eq_of_bt
    intro j
    rw [bt_shift, bt_shift, bt_md', bt_md']
    by_cases hj : k + 1 + j < n
    · rw [if_pos hj, if_pos hj]; exact hab _ (by omega) hj
    · rw [if_neg hj, if_neg hj]
  generalize md X n = A at *
  generalize md Y n = B at *
  have d1 := Nat.div_add_mod A (2 ^ (k + 1))
  have d2 := Nat.div_add_mod B (2 ^ (k + 1))
  rw [mod_succ, hx] at d1
  rw [mod_succ, hy, ← he] at d2
  have m1 := Nat.mod_lt A (pow_pos' k)
  omega
theorem md_eq (n X Y : Nat) (hab : ∀ j, j < n → bt X j = bt Y j) : md X n = md Y n := by
  unfold md
  apply Nat.eq_of_testBit_eq
  intro j
  rw [Nat.testBit_mod_two_pow, Nat.testBit_mod_two_pow]
  by_cases hjn : j < n
  · have := hab j hjn
    rw [bt_test, bt_test] at this
    cases h1 : X.testBit j <;> cases h2 : Y.testBit j <;> simp_all
  · simp [hjn]
def ltB (n X Y : Nat) : Bool := decide (md X n < md Y n)

theorem less_any (n X Y g1 cap1 g2 cap2 n2 : Nat) (w : World) (h1 : n ≤ 65) (hn2 : n ≤ n2) (hx : Cells w g1 n X) (hy : Cells w g2 n Y) :
    Calls Try.prog 35 #[.slice (some ⟨g1, 0, none⟩) n cap1, .slice (some ⟨g2, 0, none⟩) n2 cap2] w fun e w' => e = .returned (.bool (ltB n X Y)) ∧ Below w.heap.size w w' := by
  go_enter Try.func35, Try.ntmps35
  go_wp2
  go_loopw [5] (fun i wr => ∃ (k : Nat) (z : Int), k ≤ n ∧ z = (k : Int) - 1 ∧ i = .int .i64 z ∧ (∀ j, k ≤ j → j < n → bt X j = bt Y j) ∧ Below w.heap.size w wr)
    (fun i _ => (intOf i + 1).toNat)
  case atStart => exact ⟨n, _, Nat.le_refl _, rfl, rfl, fun j h1 h2 => by omega, Below.refl _ _⟩
  case round =>
    obtain ⟨k, z, hk, hz, rfl, hab, hb⟩ := hrel
    by_cases hlt : 1 ≤ k
    · have hj : ((k - 1 : Nat) : Int) = z := by omega
      have hz0 : 0 ≤ z := by omega
      have hzt : z.toNat = k - 1 := by omega
      have hzn : z < (n : Int) := by omega
      have hzn2 : z < (n2 : Int) := by omega
      have cx := cell_later hb (hx (k - 1) (by omega))
      have cy := cell_later hb (hy (k - 1) (by omega))
      have hx1 := fun d os => cell_regrown cx d os
      have hy1 := fun d os => cell_regrown cy d os
      have hx2 := Lib.hid (fun (W : World) (h : Below wr.heap.size wr W) d os => cell_regrown (cell_later h cx) d os)
      have hy2 := Lib.hid (fun (W : World) (h : Below wr.heap.size wr W) d os => cell_regrown (cell_later h cy) d os)
      have HAB := Lib.hid hab; have HB := Lib.hid hb; have HX := Lib.hid hx; have HY := Lib.hid hy; have HJ := Lib.hid hj; have HZ := Lib.hid hz
      have hca := bt_cases X (k - 1)
      have hcb := bt_cases Y (k - 1)
      have HXY := Lib.hid (show ∀ a b : Nat, bt X (k - 1) = a → bt Y (k - 1) = b → (a < b → ltB n X Y = true) ∧ (b < a → ltB n X Y = false) by
        intro a b ha hb'
        constructor
        · intro h; exact decide_eq_true (md_lt n X Y (k - 1) (by omega) (fun j h1 h2 => hab j (by omega) h2) (by omega))
        · intro h
          have := md_lt n Y X (k - 1) (by omega) (fun j h1 h2 => (hab j (by omega) h2).symm) (by omega)
          exact decide_eq_false (by omega))
      obtain ⟨a, ha⟩ : ∃ a, bt X (k - 1) = a := ⟨_, rfl⟩
      obtain ⟨b, hb'⟩ : ∃ b, bt Y (k - 1) = b := ⟨_, rfl⟩
      rw [ha] at hx1 hx2 hca
      rw [hb'] at hy1 hy2 hcb
      have HA := Lib.hid ha; have HBB := Lib.hid hb'
      clear hab hb hx hy hj hz cx cy ha hb'
      by_cases hne : a = b
      · have HN := Lib.hid hne
        have tne : (((a : Int) == (b : Int)) = true) := by simp [hne]
        subst hne
        go_wp2
        refine wp_region_quiet_below (by kernel_rfl) (by kernel_rfl) ?_
        repeat (first | go_big_quiet_step (fail) | quiet_step (fail))
        refine wpQuiet_nil ?_
        intro _ hw'
        obtain ⟨⟨dq, osq⟩, hw''⟩ := hw'
        subst hw''
        have HB2 := Lib.hid (thenBel HB.out (below_regrown _ dq osq))
        clear hx1 hy1
        generalize grow (redrawn wr dq) osq = w2 at *
        go_wp2
        go_roundw
        case rel => exact ⟨k - 1, _, by omega, by have := HZ.out; omega, rfl, fun j h1 h2 => (by
          by_cases hjk : j = k - 1
          · subst hjk; rw [HA.out, HBB.out]
          · exact HAB.out j (by omega) h2), HB2.out⟩
        case measure => simp [intOf]; omega
      · have tne : ¬ a = b := hne
        go_wp2
        refine wp_region_quiet_below (by kernel_rfl) (by kernel_rfl) ?_
        repeat (first | go_big_quiet_step (fail) | quiet_step (fail))
        refine wpQuiet_nil ?_
        intro _ hw'
        obtain ⟨⟨dq, osq⟩, hw''⟩ := hw'
        subst hw''
        have HB2 := Lib.hid (thenBel HB.out (below_regrown _ dq osq))
        have hx1 := hx2.out _ (below_regrown wr dq osq)
        have hy1 := hy2.out _ (below_regrown wr dq osq)
        generalize grow (redrawn wr dq) osq = w2 at *
        go_wp2
        refine wp_region_quiet_below (by kernel_rfl) (by kernel_rfl) ?_
        repeat (first | go_big_quiet_step (fail) | quiet_step (fail))
        refine wpQuiet_nil ?_
        intro _ hw'
        obtain ⟨⟨dq, osq⟩, hw''⟩ := hw'
        subst hw''
        have HB3 := Lib.hid (thenBel HB2.out (below_regrown _ dq osq))
        clear hx1 hy1
        generalize grow (redrawn w2 dq) osq = w3 at *
        go_wp2
        go_ret
        refine ⟨?_, HB3.out⟩
        have hxy := HXY.out a b HA.out HBB.out
        by_cases hab : a < b
        · rw [hxy.1 hab]; show Ending.returned (.bool _) = _; simp [hab]
        · rw [hxy.2 (by omega)]; show Ending.returned (.bool _) = _; simp [hab]
    · obtain rfl : k = 0 := by omega
      have hzn : z < 0 := by omega
      have HB := Lib.hid hb
      have E := Lib.hid (show ltB n X Y = false by
        unfold ltB; rw [md_eq n X Y (fun j hj => hab j (Nat.zero_le _) hj)]; simp)
      clear hb hab hz hx hy
      go_wp2
      go_ret
      exact ⟨by rw [E.out]; rfl, HB.out⟩
end Go.Proofs.Ytdllophjfiebiaa
