/- Contracts of the reference's arithmetic on lists of bits: up, add, mul. -/
import Derived.Test.YtdllophjfiebiaaRefNum
namespace Go.Proofs.Ytdllophjfiebiaa
open Go.RowKit Go.Sort
set_option linter.unusedVariables false
set_option linter.unusedSimpArgs false

theorem bt_double (X j : Nat) : bt (2 * X) j = if j < 1 then 0 else bt X (j - 1) := by
  have h := bt_join X 0 1 j (by decide)
  rw [Nat.pow_one, Nat.add_zero, Nat.mul_comm, bt_zero] at h
  exact h
theorem bitCells_up (X n : Nat) (h0 : 1 ≤ n) : [Value.int .i64 0] ++ bitCells X (n - 1) = bitCells (2 * X) n := by
  apply List.ext_getElem?
  intro j
  by_cases hj : j < n
  · rw [bitCells_get _ n j hj, bt_double]
    rcases j with _ | j
    · rfl
    · simp only [List.cons_append, List.nil_append, List.getElem?_cons_succ]
      rw [bitCells_get X (n - 1) j (by omega), if_neg (by omega)]
      rfl
  · rw [List.getElem?_eq_none (by simp [bitCells_length]; omega), List.getElem?_eq_none (by rw [bitCells_length]; omega)]

theorem up_any (n X g cap : Nat) (w : World) (h0 : 1 ≤ n) (h1 : n ≤ 65) (hcap : n ≤ cap) (hc : Cells w g n X) :
    Calls Try.prog 45 #[.slice (some ⟨g, 0, none⟩) n cap] w (Gives n (2 * X) w) := by
  obtain ⟨i0, hi, hz0, hz1, hz2⟩ := info_parts int_info
  have hown : (w.alloc (.cells #[.int .i64 0] 3)).ownsRow w.heap.size 3 1 (.slice (some ⟨w.heap.size, 0, none⟩) 1 1) 1 [.int .i64 0] := World.ownsRow_lit w #[.int .i64 0] 1 (Nat.le_refl _) (by unfold maxLen; omega) rfl
  have hsrc : ∀ (j : Nat) (u : Value), (bitCells X (n - 1))[j]? = some u → (w.alloc (.cells #[.int .i64 0] 3)).cell? ((⟨g, 0, none⟩ : Addr).add j) = some u := by
    intro j u hu
    have hj : j < n - 1 := by
      have := (List.getElem?_eq_some_iff.1 hu).1
      simpa [bitCells_length] using this
    have ha : (⟨g, 0, none⟩ : Addr).add j = ⟨g, j, none⟩ := by unfold Addr.add; split <;> simp_all
    rw [ha, ← hu, bitCells_get X _ j hj]
    exact cell_later ((Below.refl _ _).alloc (Nat.le_refl _) _) (hc j (by omega))
  have HO := Lib.hid hown
  have HS := Lib.hid hsrc
  have HU := Lib.hid (bitCells_up X n h0)
  have hm : ((n - 1 : Nat) : Int) = (n : Int) - 1 := by omega
  have HM := Lib.hid hm
  clear hown hsrc hc hm
  go_enter Try.func45, Try.ntmps45
  go_wp2_with (at_builtin; refine wpList_append_own _ rfl _ _ 48 rfl w.heap.size 3 i0 (.int .i64 0) 1 8 Try.underlying48 hi hz0 hz1 hz2 rfl (by decide) _ _ _ rfl HO.out ⟨g, 0, none⟩ (n - 1) cap (bitCells X (n - 1)) rfl (by rw [bitCells_length, Nat.mul_one]) HS.out (bitCells_one _ _) (by unfold maxLen; omega) (by omega) (by simp) ?_; intro v' w1 hown' hgrow _; rw [HU.out, show 1 + (n - 1) = n by omega] at hown'; have HR := Lib.hid hown'; have HG := Lib.hid hgrow; clear hown' hgrow)
  go_ret
  refine Gives.mk' HR.out h0 (((Below.refl _ _).alloc (Nat.le_refl _) _).grown HG.out (by simp) ?_)
  intro r hr
  exact (World.ownsRow.lt HO.out r hr).1

/-- The carry into bit k. -/
def car (X Y c k : Nat) : Nat := (X % 2 ^ k + Y % 2 ^ k + c) / 2 ^ k
theorem car_le (X Y c k : Nat) (hc : c ≤ 1) : car X Y c k ≤ 1 := by
  have h1 := Nat.mod_lt X (pow_pos' k)
  have h2 := Nat.mod_lt Y (pow_pos' k)
  unfold car
  have : (X % 2 ^ k + Y % 2 ^ k + c) / 2 ^ k < 2 := by rw [Nat.div_lt_iff_lt_mul (pow_pos' k)]; omega
  omega
theorem car_zero (X Y c : Nat) : car X Y c 0 = c := by unfold car; simp [Nat.mod_one]
theorem bt_sum (X Y c k : Nat) : (bt X k + bt Y k + car X Y c k) % 2 = bt (X + Y + c) k := by
  unfold bt car
  have hp := pow_pos' k
  have e : (X + Y + c) / 2 ^ k = X / 2 ^ k + Y / 2 ^ k + (X % 2 ^ k + Y % 2 ^ k + c) / 2 ^ k := by
    have h1 := Nat.div_add_mod X (2 ^ k)
    have h2 := Nat.div_add_mod Y (2 ^ k)
    have : X + Y + c = 2 ^ k * (X / 2 ^ k + Y / 2 ^ k) + (X % 2 ^ k + Y % 2 ^ k + c) := by rw [Nat.mul_add]; omega
    rw [this, Nat.mul_add_div hp]
  rw [e]; omega
theorem car_succ (X Y c k : Nat) : (bt X k + bt Y k + car X Y c k) / 2 = car X Y c (k + 1) := by
  have hp := pow_pos' k
  unfold car
  rw [mod_succ X k, mod_succ Y k, Nat.pow_succ, ← Nat.div_div_eq_div_mul]
  congr 1
  have : X % 2 ^ k + bt X k * 2 ^ k + (Y % 2 ^ k + bt Y k * 2 ^ k) + c = 2 ^ k * (bt X k + bt Y k) + (X % 2 ^ k + Y % 2 ^ k + c) := by
    rw [Nat.mul_add, Nat.mul_comm (2 ^ k) (bt X k), Nat.mul_comm (2 ^ k) (bt Y k)]; omega
  rw [this, Nat.mul_add_div hp]

theorem add_any (n X Y c g1 cap1 g2 cap2 n2 : Nat) (w : World) (h0 : 1 ≤ n) (h1 : n ≤ 65) (hn2 : n ≤ n2) (hcc : c ≤ 1) (hx : Cells w g1 n X) (hy : Cells w g2 n Y) :
    Calls Try.prog 27 #[.slice (some ⟨g1, 0, none⟩) n cap1, .slice (some ⟨g2, 0, none⟩) n2 cap2, .int .i64 c] w (Gives n (X + Y + c) w) := by
  obtain ⟨i0, hi, hz0, hz1, hz2⟩ := info_parts int_info
  go_enter Try.func27, Try.ntmps27
  go_wp2
  go_loopw [2, 7, 8] (fun r v i wr => ∃ k q : Nat, k ≤ n ∧ i = .int .i64 k ∧ q = car X Y c k ∧ r = .int .i64 q ∧ wr.ownsRow w.heap.size 3 1 v k (bitCells (X + Y + c) k) ∧ Below w.heap.size w wr)
    (fun _ _ i _ => n - (intOf i).toNat)
  case atStart => exact ⟨0, c, Nat.zero_le _, rfl, (car_zero X Y c).symm, rfl, World.ownsRow_nil _ _ _ _, Below.refl _ _⟩
  case round =>
    obtain ⟨k, q, hk, rfl, hq, rfl, hown, hb⟩ := hrel
    by_cases hlt : k < n
    · have hx1 := fun d os => cell_regrown (cell_later hb (hx k hlt)) d os
      have hy1 := fun d os => cell_regrown (cell_later hb (hy k hlt)) d os
      have hq1 := car_le X Y c k hcc
      have hb1 := bt_cases X k
      have hb2 := bt_cases Y k
      have hs := bt_sum X Y c k
      have hcs := car_succ X Y c k
      rw [← hq] at hs hcs hq1
      generalize bt X k = a at *
      generalize bt Y k = b at *
      have ha1 : a ≤ 1 := by omega
      have hb1' : b ≤ 1 := by omega
      have tk : (k : Int) < (n : Int) := by omega
      have tk2 : (k : Int) < (n2 : Int) := by omega
      have HS := Lib.hid hs
      have HC := Lib.hid hcs
      have HB := Lib.hid hb
      have HO := Lib.hid hown
      have HX := Lib.hid hx; have HY := Lib.hid hy
      clear hb hs hown hcs hq hb1 hb2 hx hy
      go_wp2
      refine wp_region_quiet_below (by kernel_rfl) (by kernel_rfl) ?_
      repeat (first | go_big_quiet_step (fail) | quiet_step (fail))
      refine wpQuiet_nil ?_
      intro _ hw'
      obtain ⟨⟨dq, osq⟩, hw''⟩ := hw'
      subst hw''
      have HB2 := Lib.hid (thenBel HB.out (below_regrown _ dq osq))
      have HO2 := Lib.hid (ownsRow_kept HO.out (below_regrown wr dq osq) (Nat.le_refl _))
      clear hx1 hy1
      generalize grow (redrawn wr dq) osq = w2 at *
      go_wp2_with (at_builtin; refine wpList_append_own _ rfl _ _ 48 rfl w.heap.size 3 i0 (.int .i64 0) 1 8 Try.underlying48 hi hz0 hz1 hz2 rfl (by decide) _ _ _ rfl (World.ownsRow.alloc HO2.out _) ⟨_, 0, none⟩ 1 1 [.int .i64 (((a : Int) + (b : Int) + (q : Int)) % 2)] rfl rfl ?c1 ?c2 ?c3 ?c4 ?c5 ?_)
      case c1 =>
        intro j u hj
        match j, hj with
        | 0, hj => simp at hj; subst hj; simp [Addr.add]
      case c2 => intro u hu; simp at hu; subst hu; rfl
      case c3 => unfold maxLen; omega
      case c4 => omega
      case c5 => have := HB2.out.size; simp; omega
      · intro v' w1 hown' hgrow _
        have HR := Lib.hid (step_own HO2.out HB2.out (by rw [← HS.out]; rfl) hown' hgrow)
        clear hown' hgrow
        go_wp2
        go_roundw
        case rel => exact ⟨k + 1, (a + b + q) / 2, by omega, by go_num, HC.out, rfl, HR.out.1, HR.out.2⟩
        case measure => simp [intOf]; omega
    · obtain rfl : k = n := by omega
      have HB := Lib.hid hb
      have HO := Lib.hid hown
      clear hb hown hq
      go_wp2
      go_ret
      exact Gives.mk' HO.out h0 HB.out

theorem add0_any (n X Y g1 cap1 g2 cap2 n2 : Nat) (w : World) (h0 : 1 ≤ n) (h1 : n ≤ 65) (hn2 : n ≤ n2) (hx : Cells w g1 n X) (hy : Cells w g2 n Y) :
    Calls Try.prog 27 #[.slice (some ⟨g1, 0, none⟩) n cap1, .slice (some ⟨g2, 0, none⟩) n2 cap2, .int .i64 0] w (Gives n (X + Y) w) :=
  add_any n X Y 0 g1 cap1 g2 cap2 n2 w h0 h1 hn2 (by decide) hx hy
theorem add1_any (n X Y g1 cap1 g2 cap2 n2 : Nat) (w : World) (h0 : 1 ≤ n) (h1 : n ≤ 65) (hn2 : n ≤ n2) (hx : Cells w g1 n X) (hy : Cells w g2 n Y) :
    Calls Try.prog 27 #[.slice (some ⟨g1, 0, none⟩) n cap1, .slice (some ⟨g2, 0, none⟩) n2 cap2, .int .i64 1] w (Gives n (X + Y + 1) w) :=
  add_any n X Y 1 g1 cap1 g2 cap2 n2 w h0 h1 hn2 (by decide) hx hy

theorem mul_any (n X Y g1 cap1 g2 cap2 : Nat) (w : World) (h0 : 1 ≤ n) (h1 : n ≤ 64) (hx : Cells w g1 n X) (hcap : n ≤ cap1) (hy : Cells w g2 n Y) :
    Calls Try.prog 30 #[.slice (some ⟨g1, 0, none⟩) n cap1, .slice (some ⟨g2, 0, none⟩) n cap2] w (Gives n (X * (Y % 2 ^ n)) w) := by
  have HZ := fun W => Lib.hid (zeros_any n W h0 (by omega))
  have HA := Lib.hid (fun (W : World) (X1 Y1 a1 p1 a2 p2 : Nat) (h : Cells W a1 n X1) (h' : Cells W a2 n Y1) => add0_any n X1 Y1 a1 p1 a2 p2 n W h0 (by omega) (Nat.le_refl _) h h')
  have HU := Lib.hid (fun (W : World) (X1 a1 p1 : Nat) (hp : n ≤ p1) (h : Cells W a1 n X1) => up_any n X1 a1 p1 W h0 (by omega) hp h)
  go_enter Try.func30, Try.ntmps30
  go_wp2_with (go_at_call 28; (with_reducible refine (HZ _).out.mono ?_); rintro e w1 ⟨g3, cap3, rfl, hat, hb1⟩; have H3 := Lib.hid hat; have HB1 := Lib.hid hb1; clear hat hb1)
  go_loopw [0, 5, 6] (fun a v i wr => ∃ k ga pa go po Z : Nat, k ≤ n ∧ i = .int .i64 k ∧ a = .slice (some ⟨ga, 0, none⟩) n pa ∧ v = .slice (some ⟨go, 0, none⟩) n po ∧ n ≤ pa ∧ n ≤ po ∧ Cells wr ga n (X * 2 ^ k) ∧ Z = X * (Y % 2 ^ k) ∧ BitsAt wr w.heap.size go n po Z ∧ Below w.heap.size w wr)
    (fun _ _ i _ => n - (intOf i).toNat)
  case atStart => exact ⟨0, g1, cap1, g3, cap3, 0, Nat.zero_le _, rfl, rfl, rfl, hcap, H3.out.cap.1, by rw [Nat.pow_zero, Nat.mul_one]; exact hx.kept HB1.out, by rw [Nat.pow_zero, Nat.mod_one, Nat.mul_zero], H3.out, HB1.out⟩
  case round =>
    obtain ⟨k, ga, pa, go, po, Z, hk, rfl, rfl, rfl, hpa, hpo, hca, hZ, hat, hb⟩ := hrel
    by_cases hlt : k < n
    · have hcell := cell_later hb (hy k hlt)
      have hm := mod_succ Y k
      have HCA := Lib.hid hca; have HAT := Lib.hid hat; have HB := Lib.hid hb
      have HD := Lib.hid (show 2 * (X * 2 ^ k) = X * 2 ^ (k + 1) by rw [Nat.pow_succ, Nat.mul_comm 2, Nat.mul_assoc])
      rcases bt_cases Y k with hbt | hbt
      · rw [hbt] at hcell hm
        have HE := Lib.hid (show Z = X * (Y % 2 ^ (k + 1)) by rw [hZ, hm, Nat.zero_mul, Nat.add_zero])
        clear hca hat hb hm hbt hZ
        go_wp2_with (go_at_call 45; (with_reducible refine (HU.out _ _ _ _ hpa HCA.out).mono ?_); rintro e w2 ⟨g4, cap4, rfl, hat4, hb4⟩; have H4 := Lib.hid hat4; have HB4 := Lib.hid hb4; clear hat4 hb4)
        go_roundw
        case rel => exact ⟨k + 1, g4, cap4, go, po, Z, by omega, by go_num, rfl, rfl, H4.out.cap.1, hpo, by rw [← HD.out]; exact H4.out.cells, HE.out, HAT.out.kept HB4.out, thenBel HB.out HB4.out⟩
        case measure => simp [intOf]; omega
      · rw [hbt] at hcell hm
        have HE := Lib.hid (show Z + X * 2 ^ k = X * (Y % 2 ^ (k + 1)) by rw [hZ, hm, Nat.one_mul, Nat.mul_add])
        clear hca hat hb hm hbt hZ
        go_wp2_with (first
          | (go_at_call 27; (with_reducible refine (HA.out _ _ _ _ _ _ _ HAT.out.cells HCA.out).mono ?_); rintro e w3 ⟨g5, cap5, rfl, hat5, hb5⟩; have H5 := Lib.hid hat5; have HB5 := Lib.hid hb5; have HCA2 := Lib.hid (HCA.out.kept hb5); clear hat5 hb5)
          | (go_at_call 45; (with_reducible refine (HU.out _ _ _ _ hpa HCA2.out).mono ?_); rintro e w2 ⟨g4, cap4, rfl, hat4, hb4⟩; have H4 := Lib.hid hat4; have HB4 := Lib.hid hb4; clear hat4 hb4))
        go_roundw
        case rel => exact ⟨k + 1, g4, cap4, g5, cap5, _, by omega, by go_num, rfl, rfl, H4.out.cap.1, H5.out.cap.1, by rw [← HD.out]; exact H4.out.cells, HE.out, (H5.out.mono HB.out.size).kept HB4.out, thenBel (thenBel HB.out HB5.out) HB4.out⟩
        case measure => simp [intOf]; omega
    · obtain rfl : k = n := by omega
      have HAT := Lib.hid hat; have HB := Lib.hid hb; have HZ2 := Lib.hid hZ
      clear hca hat hb hZ
      go_wp2
      go_ret
      exact ⟨go, po, rfl, by rw [← HZ2.out]; exact HAT.out, HB.out⟩
end Go.Proofs.Ytdllophjfiebiaa
