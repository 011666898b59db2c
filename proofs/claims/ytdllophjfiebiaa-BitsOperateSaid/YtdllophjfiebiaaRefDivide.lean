/- Contract of the reference's divide. -/
import Derived.Test.YtdllophjfiebiaaRefDivMath
namespace Go.Proofs.Ytdllophjfiebiaa
open Go.RowKit Go.Sort
set_option linter.unusedVariables false
set_option linter.unusedSimpArgs false

/-- A call hands back two lists of n bits, those of Q and R. -/
def GivesTwo (n Q R : Nat) (W : World) (e : Ending) (w' : World) : Prop :=
  ∃ gq pq gr pr, e = .returned (.tuple #[.slice (some ⟨gq, 0, none⟩) n pq, .slice (some ⟨gr, 0, none⟩) n pr]) ∧ Cells w' gq n Q ∧ Cells w' gr n R ∧ Below W.heap.size W w'

theorem store_low {w : World} {base g n cap R b : Nat} (h : BitsAt w base g n cap (2 * R)) (h0 : 1 ≤ n) (hb : b ≤ 1) : BitsAt (w.setCell ⟨g, 0, none⟩ (.int .i64 (b : Nat))) base g n cap (2 * R + b) := by
  have := (World.ownsRow.stored h 0 (.int .i64 (b : Nat))).1
  rw [set_low R b n h0 hb] at this
  exact this
theorem store_bit {w : World} {base g n cap X Y k : Nat} (h : BitsAt w base g n cap (quoAt X Y (k + 1))) (hk : k < n) : BitsAt (w.setCell ⟨g, k, none⟩ (.int .i64 1)) base g n cap (quoAt X Y (k + 1) + 2 ^ k) := by
  have := (World.ownsRow.stored h k (.int .i64 1)).1
  rw [set_bit X Y n k hk] at this
  exact this

/-- What stays true of the quotient's list, the divisor and the dividend while the remainder's list changes. -/
structure DivInv (w W : World) (n gq pq gw g1 X Y Q : Nat) : Prop where
  q : BitsAt W w.heap.size gq n pq Q
  wide : Cells W gw (n + 1) Y
  num : Cells W g1 n X
  b : Below w.heap.size w W
theorem DivInv.kept {w W W' : World} {n gq pq gw g1 X Y Q : Nat} (h : DivInv w W n gq pq gw g1 X Y Q) (hb : Below W.heap.size W W') : DivInv w W' n gq pq gw g1 X Y Q :=
  ⟨h.q.kept hb, h.wide.kept hb, h.num.kept hb, thenBel h.b hb⟩
theorem Cells.lt {w : World} {g n X : Nat} (h : Cells w g n X) (h0 : 1 ≤ n) : g < w.heap.size := block_lt_of_cell (h 0 (by omega))

theorem divide_zero (n X g1 cap1 g2 cap2 : Nat) (w : World) (h0 : 1 ≤ n) (h1 : n ≤ 64) (hx : Cells w g1 n X) (hy : Cells w g2 n 0) :
    Calls Try.prog 33 #[.slice (some ⟨g1, 0, none⟩) n cap1, .slice (some ⟨g2, 0, none⟩) n cap2] w (GivesTwo n (2 ^ n - 1) X w) := by
  have HN := Lib.hid (number_any n 0 g2 0 cap2 w h1 (fun j hj => by rw [Nat.zero_add]; exact hy j hj))
  rw [show md 0 n = 0 from Nat.zero_mod _] at HN
  have HZ := fun W => Lib.hid (zeros_any n W h0 (by omega))
  have HNo := Lib.hid (fun (W : World) (g cap : Nat) (h : Cells W g n 0) => not_any n 0 g cap W h0 (by omega) h)
  have HX := Lib.hid hx
  clear hx hy
  go_enter Try.func33, Try.ntmps33
  go_wp2_with (first
    | (go_at_call 29; (with_reducible refine HN.out.mono ?_); rintro e w' ⟨rfl, rfl⟩)
    | (go_at_call 28; (with_reducible refine (HZ _).out.mono ?_); rintro e w1 ⟨g3, cap3, rfl, hat, hb1⟩; have H3 := Lib.hid hat; have HB1 := Lib.hid hb1; clear hat hb1)
    | (go_at_call 25; (with_reducible refine (HNo.out _ _ _ H3.out.cells).mono ?_); rintro e w2 ⟨g4, cap4, rfl, hat, hb2⟩; have H4 := Lib.hid hat; have HB2 := Lib.hid hb2; clear hat hb2))
  go_ret2
  refine ⟨g4, cap4, g1, cap1, rfl, ?_, (HX.out.kept HB1.out).kept HB2.out, thenBel HB1.out HB2.out⟩
  have e : cpl n 0 = 2 ^ n - 1 := by unfold cpl; rw [Nat.zero_mod]; omega
  rw [← e]; exact H4.out.cells

set_option maxHeartbeats 2000000 in
theorem divide_pos (n X Y g1 cap1 g2 cap2 : Nat) (w : World) (h0 : 1 ≤ n) (h1 : n ≤ 64) (hcap : n ≤ cap1) (hX : X < 2 ^ n) (hY : Y < 2 ^ n) (hY0 : 0 < Y) (hx : Cells w g1 n X) (hy : BitsAt w 0 g2 n cap2 Y) :
    Calls Try.prog 33 #[.slice (some ⟨g1, 0, none⟩) n cap1, .slice (some ⟨g2, 0, none⟩) n cap2] w (GivesTwo n (X / Y) (X % Y) w) := by
  obtain ⟨i0, hi, hz0, hz1, hz2⟩ := info_parts int_info
  have HN := Lib.hid (number_any n Y g2 0 cap2 w h1 (fun j hj => by rw [Nat.zero_add]; exact hy.cell j hj))
  rw [show md Y n = Y from Nat.mod_eq_of_lt hY] at HN
  have tY : ((Y : Int) == 0) = false := by simp; omega
  have HZ1 := fun W => Lib.hid (zeros_any n W h0 (by omega))
  have HZ2 := fun W => zeros_any (n + 1) W (by omega) (by omega)
  rw [show ((n + 1 : Nat) : Int) = (n : Int) + 1 by omega] at HZ2
  have HZ2 := Lib.hid HZ2
  have HX := Lib.hid hx
  have HY := Lib.hid hy
  have HT := Lib.hid (show bitCells Y n ++ [.int .i64 0] = bitCells Y (n + 1) by rw [bitCells_succ, bt_small Y n n hY (Nat.le_refl _)]; rfl)
  have HXn := Lib.hid hX; have HYn := Lib.hid hY; have HYp := Lib.hid hY0
  have hcap2 := hy.cap.1
  clear hx hy hX hY hY0
  go_enter Try.func33, Try.ntmps33
  go_wp2_with (first
    | (go_at_call 29; (with_reducible refine HN.out.mono ?_); rintro e w' ⟨rfl, rfl⟩)
    | (go_at_call 28; (with_reducible refine (HZ1 _).out.mono ?_); rintro e w1 ⟨gq, pq, rfl, hat, hb1⟩; have H3 := Lib.hid hat; have HB1 := Lib.hid hb1; clear hat hb1)
    | (go_at_call 28; (with_reducible refine (HZ2.out _).mono ?_); rintro e w2 ⟨gr, pr, rfl, hat, hb2⟩; have H4 := Lib.hid hat; have HB2 := Lib.hid hb2; have HY2 := Lib.hid (((HY.out.kept HB1.out).kept hb2).kept ((Below.refl _ _).alloc (Nat.le_refl _) (.cells #[] 3))); clear hat hb2)
    | (at_builtin; refine wpList_append_own _ rfl (.tmp 25) (.tmp 26) 48 rfl w2.heap.size 3 i0 (.int .i64 0) 1 8 Try.underlying48 hi hz0 hz1 hz2 rfl (by decide) _ 0 [] rfl (World.ownsRow_lit w2 #[] 0 (Nat.le_refl _) (Nat.zero_le _) rfl) ⟨g2, 0, none⟩ n cap2 (bitCells Y n) rfl (by rw [bitCells_length, Nat.mul_one]) HY2.out.at (bitCells_one _ _) (by unfold maxLen; omega) (by omega) (by simp) ?_; intro v3 w3 hown3 hgrow3 _; rw [Nat.zero_add, List.nil_append] at hown3; have HO3 := Lib.hid hown3; have HB3 := Lib.hid (((Below.refl w2.heap.size w2).alloc (Nat.le_refl _) (.cells #[] 3)).grown hgrow3 (by simp) (fun r hr => (World.ownsRow.lt (World.ownsRow_lit w2 #[] 0 (Nat.le_refl _) (Nat.zero_le _) rfl (e := 3) (size := 1)) r hr).1)); clear hown3 hgrow3)
    | (at_builtin; refine wpList_append_own _ rfl (.tmp 27) (.tmp 28) 48 rfl w2.heap.size 3 i0 (.int .i64 0) 1 8 Try.underlying48 hi hz0 hz1 hz2 rfl (by decide) _ _ _ rfl (World.ownsRow.alloc HO3.out _) ⟨_, 0, none⟩ 1 1 [.int .i64 0] rfl rfl (cell_one_new _ _ _) (by intro u hu; simp at hu; subst hu; rfl) (by unfold maxLen; omega) (by omega) (by have := HB3.out.size; simp; omega) ?_; intro v4 w4 hown4 hgrow4 _; rw [HT.out] at hown4; have HO4 := Lib.hid hown4; have HB4 := Lib.hid ((HB3.out.alloc HB3.out.size _).grown hgrow4 (by have := HB3.out.size; simp; omega) (fun r hr => (World.ownsRow.lt HO3.out r hr).1)); clear hown4 hgrow4))
  obtain ⟨gw, pw, hv4⟩ := ownsRow_head HO4.out (by omega)
  subst hv4
  have HW4 := Lib.hid (show BitsAt w4 w2.heap.size gw (n + 1) pw Y from HO4.out)
  have hgq := Lib.hid (show gq ≠ gw ∧ w.heap.size ≤ gq by
    have e1 := H3.out.block; have e2 := HW4.out.block; have e3 := HB2.out.size; omega)
  have hg1 := Lib.hid (show g1 < w.heap.size from HX.out.lt h0)
  have htop := rem_top X Y n HXn.out
  have hpr := H4.out.cap.1
  have HC4 := Lib.hid (show Cells w4 gr (n + 1) 0 from H4.out.cells.kept HB4.out)
  have HI := Lib.hid (show DivInv w w4 n gq pq gw g1 X Y 0 from ⟨(H3.out.kept HB2.out).kept HB4.out, HW4.out.cells, ((HX.out.kept HB1.out).kept HB2.out).kept HB4.out, thenBel (thenBel HB1.out HB2.out) HB4.out⟩)
  have HTOP := Lib.hid htop
  have hpw := HW4.out.cap.1
  have HUp := Lib.hid (fun (W : World) (g cap R : Nat) (hp : n + 1 ≤ cap) (h : Cells W g (n + 1) R) => up_any (n + 1) R g cap W (by omega) (by omega) hp h)
  have HLe := Lib.hid (fun (W : World) (A a1 p1 : Nat) (h : Cells W a1 (n + 1) A) (h' : Cells W gw (n + 1) Y) => less_any (n + 1) A Y a1 p1 gw pw (n + 1) W (by omega) (Nat.le_refl _) h h')
  have HNo := Lib.hid (fun (W : World) (h : Cells W gw (n + 1) Y) => not_any (n + 1) Y gw pw W (by omega) (by omega) h)
  have HAd := Lib.hid (fun (W : World) (A B a1 p1 a2 p2 : Nat) (h : Cells W a1 (n + 1) A) (h' : Cells W a2 (n + 1) B) => add1_any (n + 1) A B a1 p1 a2 p2 (n + 1) W (by omega) (by omega) (Nat.le_refl _) h h')
  clear htop
  go_loopw [7, 9] (fun r i wr => ∃ (k : Nat) (z : Int) (gr pr R Q : Nat), k ≤ n ∧ z = (k : Int) - 1 ∧ i = .int .i64 z ∧ r = .slice (some ⟨gr, 0, none⟩) (n + 1) pr ∧ n + 1 ≤ pr ∧ R = remAt X Y k ∧ Q = quoAt X Y k ∧ Cells wr gr (n + 1) R ∧ DivInv w wr n gq pq gw g1 X Y Q)
    (fun _ i _ => (intOf i + 1).toNat)
  case atStart => exact ⟨n, _, gr, pr, 0, 0, Nat.le_refl _, rfl, rfl, rfl, hpr, HTOP.out.1.symm, HTOP.out.2.symm, HC4.out, HI.out⟩
  case round =>
    obtain ⟨k, z, gr', pr', R, Q, hk, hz, rfl, rfl, hpr', hR, hQ, hcr, hinv⟩ := hrel
    rcases k with _ | m
    · have hzn : z < 0 := by omega
      have HCR := Lib.hid hcr; have HIN := Lib.hid hinv
      have E1 := Lib.hid (show R = X % Y by rw [hR]; exact (rem_end X Y).1)
      have E2 := Lib.hid (show Q = X / Y by rw [hQ]; exact (rem_end X Y).2)
      clear hcr hinv hR hQ hz
      go_wp2
      refine wp_region_quiet_below (by kernel_rfl) (by kernel_rfl) ?_
      repeat (first | go_big_quiet_step (fail) | quiet_step (fail))
      refine wpQuiet_nil ?_
      intro _ hw'
      obtain ⟨⟨dq, osq⟩, hw''⟩ := hw'
      subst hw''
      go_wp2
      go_ret2
      refine ⟨gq, pq, gr', pr', rfl, ?_, ?_, thenBel HIN.out.b (below_regrown wr dq osq)⟩
      · rw [← E2.out]; exact (HIN.out.q.kept (below_regrown wr dq osq)).cells
      · rw [← E1.out]; exact (HCR.out.less (by omega)).kept (below_regrown wr dq osq)
    · have hzm : z = (m : Int) := by omega
      subst hzm
      have hcx := hinv.num m (by omega)
      have hb := bt_cases X m
      have HCR := Lib.hid hcr; have HIN := Lib.hid hinv
      have hYp := HYp.out
      have hRl := rem_lt X Y (m + 1) hYp
      have hless := rem_less X Y m
      have hmore := rem_more X Y m hYp
      rw [← hR, ← hQ] at hless hmore
      rw [← hR] at hRl
      generalize hbt : bt X m = b at hcx hb hless hmore
      have hb1 : b ≤ 1 := by omega
      have hR2 : 2 * R + b < 2 ^ (n + 1) := by have := HYn.out; rw [Nat.pow_succ]; omega
      have hY2 : Y < 2 ^ (n + 1) := by have := HYn.out; rw [Nat.pow_succ]; omega
      have hlt := ltB_small (n + 1) (2 * R + b) Y hR2 hY2
      obtain ⟨R2, hR2e⟩ : ∃ R2, R2 = 2 * R + b := ⟨_, rfl⟩
      have HQ := Lib.hid hQ; have HR := Lib.hid hR
      clear hcr hinv hR hz hRl hYp hbt hb
      have HLow := Lib.hid (fun (W : World) (base g cap : Nat) (h : BitsAt W base g (n + 1) cap (2 * R)) => (show BitsAt (W.setCell ⟨g, 0, none⟩ (.int .i64 (b : Nat))) base g (n + 1) cap R2 by rw [hR2e]; exact store_low h (by omega) hb1))
      rw [← hR2e] at hlt hless hmore
      by_cases hc : R2 < Y
      · rw [decide_eq_true hc] at hlt
        have HL2 := Lib.hid (fun (W : World) (a1 p1 : Nat) (h : Cells W a1 (n + 1) R2) (h' : Cells W gw (n + 1) Y) => HLe.out W R2 a1 p1 h h')
        rw [hlt] at HL2
        have HE := Lib.hid (hless hc)
        clear hless hmore hc hlt hR2 hY2 hR2e hQ
        go_wp2_with (first
          | (go_at_call 45; (with_reducible refine (HUp.out _ _ _ _ hpr' HCR.out).mono ?_); rintro e w5 ⟨g5, p5, rfl, hat, hb5⟩; have cx5 := cell_later hb5 hcx; have cz5 := hat.cell 0 (by omega); have cf5 := hat.frozen 0; have hp5 := hat.cap.1; have hat0 := HLow.out _ _ _ _ hat; have h5 := hat.block.1; have B5 := Lib.hid ((Below.trans hb5 ((Below.refl wr.heap.size w5).setCell h5 (.int .i64 (b : Nat))) : Below wr.heap.size wr (w5.setCell ⟨g5, 0, none⟩ (.int .i64 (b : Nat))))); have H5 := Lib.hid hat0; have HI5 := Lib.hid (HIN.out.kept B5.out); clear hat hb5 hat0)
          | (go_at_call 35; (with_reducible refine (HL2.out _ _ _ H5.out.cells HI5.out.wide).mono ?_); rintro e w6 ⟨rfl, hb6⟩; have B6 := Lib.hid hb6; clear hb6))
        go_roundw
        case rel => exact ⟨m, _, g5, p5, R2, Q, by omega, rfl, rfl, rfl, hp5, HE.out.1.symm, HE.out.2.symm, H5.out.cells.kept B6.out, HI5.out.kept B6.out⟩
        case measure => simp [intOf] <;> omega
      · rw [decide_eq_false hc] at hlt
        have HL2 := Lib.hid (fun (W : World) (a1 p1 : Nat) (h : Cells W a1 (n + 1) R2) (h' : Cells W gw (n + 1) Y) => HLe.out W R2 a1 p1 h h')
        rw [hlt] at HL2
        have HE := Lib.hid (hmore hc)
        have HSub := Lib.hid (show ∀ j, j < n + 1 → bt (R2 + cpl (n + 1) Y + 1) j = bt (R2 - Y) j from fun j hj => bt_mod_eq _ _ _ j (sub_bits R2 Y (n + 1) (by omega) hY2) hj)
        have HQb := Lib.hid (fun (W : World) (h : BitsAt W w.heap.size gq n pq Q) => (show BitsAt (W.setCell ⟨gq, m, none⟩ (.int .i64 1)) w.heap.size gq n pq (Q + 2 ^ m) by rw [hQ] at h ⊢; exact store_bit h (by omega)))
        clear hless hmore hc hlt hR2 hY2 hR2e hQ
        go_wp2_with (first
          | (go_at_call 45; (with_reducible refine (HUp.out _ _ _ _ hpr' HCR.out).mono ?_); rintro e w5 ⟨g5, p5, rfl, hat, hb5⟩; have cx5 := cell_later hb5 hcx; have cz5 := hat.cell 0 (by omega); have cf5 := hat.frozen 0; have hp5 := hat.cap.1; have hat0 := HLow.out _ _ _ _ hat; have h5 := hat.block.1; have B5 := Lib.hid ((Below.trans hb5 ((Below.refl wr.heap.size w5).setCell h5 (.int .i64 (b : Nat))) : Below wr.heap.size wr (w5.setCell ⟨g5, 0, none⟩ (.int .i64 (b : Nat))))); have H5 := Lib.hid hat0; have HI5 := Lib.hid (HIN.out.kept B5.out); clear hat hb5 hat0)
          | (go_at_call 35; (with_reducible refine (HL2.out _ _ _ H5.out.cells HI5.out.wide).mono ?_); rintro e w6 ⟨rfl, hb6⟩; have B6 := Lib.hid hb6; have HI6 := Lib.hid (HI5.out.kept hb6); have H6 := Lib.hid (H5.out.cells.kept hb6); clear hb6)
          | (go_at_call 25; (with_reducible refine (HNo.out _ HI6.out.wide).mono ?_); rintro e w7 ⟨g7, p7, rfl, hat, hb7⟩; have H7 := Lib.hid hat; have HI7 := Lib.hid (HI6.out.kept hb7); have H67 := Lib.hid (H6.out.kept hb7); clear hat hb7)
          | (go_at_call 27; (with_reducible refine (HAd.out _ _ _ _ _ _ _ H67.out H7.out.cells).mono ?_); rintro e w8 ⟨g8, p8, rfl, hat, hb8⟩; have H8 := Lib.hid (hat.ext HSub.out); have hp8 := hat.cap.1; have h8 := hat.block.1; have HI8 := Lib.hid (HI7.out.kept hb8); have hq7 := HI7.out.q.block.2; have cq8 := HI8.out.q.cell m (by omega); have cqf8 := HI8.out.q.frozen m; clear hat hb8))
        have hne := hgq.out
        have hg1' := hg1.out
        go_roundw
        case rel => exact ⟨m, _, g8, p8, R2 - Y, Q + 2 ^ m, by omega, rfl, rfl, rfl, hp8, HE.out.1.symm, HE.out.2.symm, H8.out.cells.setOther _ _ (by show g8 ≠ gq; omega),
          ⟨HQb.out _ HI8.out.q, HI8.out.wide.setOther _ _ (by show gw ≠ gq; omega), HI8.out.num.setOther _ _ (by show g1 ≠ gq; omega), HI8.out.b.setCell hne.2 _⟩⟩
        case measure => simp [intOf] <;> omega
end Go.Proofs.Ytdllophjfiebiaa
