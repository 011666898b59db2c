/- Contract of the reference's Extend, for all arguments. -/
import Derived.Test.YtdllophjfiebiaaRefConcat
namespace Go.Proofs.Ytdllophjfiebiaa
open Go.RowKit Go.Sort
set_option linter.unusedVariables false
set_option linter.unusedSimpArgs false

def lenOf : Value → Nat | .slice _ n _ => n | _ => 0

theorem refExtend_true (n x to : Nat) (w : World) (h0 : 1 ≤ n) (h1 : n ≤ to) (h2 : to ≤ 64) (hx : x < 2 ^ n) :
    Calls Try.prog 22 #[.int .i64 n, .int .u64 x, .int .i64 to, .bool true] w fun e w' => e = .returned (.tuple #[.int .u64 ((sg n x % 2 ^ to).toNat : Nat), .int .i64 0]) ∧ Below w.heap.size w w' := by
  have px := pow_le n (by omega)
  have O1 := fun W => refOk_yes n x W h0 (by omega) (by omega)
  rw [(okB_iff _ _).2 hx] at O1
  have O1 := fun W => Lib.hid (O1 W)
  have V1 := fun W => Lib.hid (wide_yes n W (by omega) (by omega))
  have V2 := fun W => Lib.hid (wide_yes to W (by omega) (by omega))
  have B1 := fun W => Lib.hid (bits_any n x W h0 (by omega) (by omega))
  have t1 : decide (to < n) = false := by simp; omega
  obtain ⟨X, hX⟩ : ∃ X, X = sx n x := ⟨_, rfl⟩
  obtain ⟨T, hT0⟩ : ∃ T, T = bt x (n - 1) := ⟨_, rfl⟩
  have HT := Lib.hid (show ∀ k, n ≤ k → k < to → bt X k = T by intro k hk hk2; rw [hX, hT0, bt_sx n x k h0 hx (by omega), if_neg (by omega)])
  have HE := Lib.hid (show bitCells x n = bitCells X n from bitCells_ext _ _ _ (by intro j hj; rw [hX, bt_sx n x j h0 hx (by omega), if_pos hj]))
  have HV := Lib.hid (show md X to = (sg n x % 2 ^ to).toNat by rw [hX]; exact sx_md n x to h0 h1 h2 hx)
  have HC := Lib.hid (show bt x (n - 1) = T from hT0.symm)
  have HN := Lib.hid (fun (g cap : Nat) (W : World) (hw : ∀ j, j < to → W.cell? ⟨g, 0 + j, none⟩ = some (.int .i64 (bt X j : Nat))) => number_any to X g 0 cap W h2 hw)
  rw [HV.out] at HN
  generalize (sg n x % 2 ^ to).toNat = v at *
  obtain ⟨i0, hi, hz0, hz1, hz2⟩ := info_parts int_info
  have HTop := Lib.hid (fun (W : World) (g cap : Nat) (h : BitsAt W w.heap.size g n cap x) => show W.cell? ⟨g, n - 1, none⟩ = some (.int .i64 (T : Nat)) by rw [hT0]; exact h.cell (n - 1) (by omega))
  clear hx px HV hX hT0
  go_enter Try.func22, Try.ntmps22
  go_wp2_with (first
    | (go_at_call 24; (with_reducible refine (V1 _).out.mono ?_); rintro e w' ⟨rfl, rfl⟩)
    | (go_at_call 24; (with_reducible refine (V2 _).out.mono ?_); rintro e w' ⟨rfl, rfl⟩)
    | (go_at_call 14; (with_reducible refine (O1 _).out.mono ?_); rintro e w' ⟨rfl, rfl⟩)
    | (go_at_call 26; (with_reducible refine (B1 _).out.mono ?_); rintro e w1 ⟨g1, cap1, rfl, hat, hb1⟩; have hcap := hat.cap.1; have htop := HTop.out _ _ _ hat; have HA1 := Lib.hid (show BitsAt w1 w.heap.size g1 n cap1 X by unfold BitsAt; rw [← HE.out]; exact hat); clear hat))
  clear htop hcap
  go_loopw [10] (fun v wr => ∃ k g cap : Nat, n ≤ k ∧ k ≤ to ∧ v = .slice (some ⟨g, 0, none⟩) k cap ∧ BitsAt wr w.heap.size g k cap X ∧ Below w.heap.size w wr) (fun v _ => to - lenOf v)
  case atStart => exact ⟨n, g1, cap1, Nat.le_refl _, h1, rfl, HA1.out, hb1⟩
  case round =>
    obtain ⟨k, g, cap, hk0, hk1, rfl, hat, hb⟩ := hrel
    by_cases hlt : k < to
    · have HBe := Lib.hid hb
      have HA := Lib.hid hat
      clear hat hb
      go_wp2_with (at_builtin; refine wpList_append_own _ rfl _ _ 48 rfl w.heap.size 3 i0 (.int .i64 0) 1 8 Try.underlying48 hi hz0 hz1 hz2 rfl (by decide) _ _ _ rfl (World.ownsRow.alloc HA.out _) ⟨_, 0, none⟩ 1 1 [.int .i64 (T : Nat)] rfl rfl ?c1 ?c2 ?c3 ?c4 ?c5 ?_)
      case c1 =>
        intro j u hj
        match j, hj with
        | 0, hj => simp at hj; subst hj; simp [Addr.add]
      case c2 => intro u hu; simp at hu; subst hu; rfl
      case c3 => unfold maxLen; omega
      case c4 => omega
      case c5 => have := HBe.out.size; simp; omega
      · intro v' w3 hown3 hgrow3 _
        have HG := Lib.hid (grown_step HBe.out HA.out hgrow3)
        have hown4 : w3.ownsRow w.heap.size 3 1 v' (k + 1) (bitCells X (k + 1)) := by
          rw [bitCells_succ, HT.out k hk0 hlt]; exact hown3
        obtain ⟨g3, cap3, hv3⟩ := ownsRow_head hown4 (by omega)
        subst hv3
        have HO := Lib.hid (show BitsAt w3 w.heap.size g3 (k + 1) cap3 X from hown4)
        clear hown3 hgrow3 hown4
        go_wp2
        go_roundw
        case rel => exact ⟨k + 1, g3, cap3, by omega, by omega, rfl, HO.out, HG.out⟩
        case measure => simp [lenOf]; omega
    · obtain rfl : k = to := by omega
      have HA := Lib.hid hat
      have HBe := Lib.hid hb
      clear hat hb
      go_wp2_with (go_at_call 29; (with_reducible refine (HN.out _ _ _ (fun j hj => by rw [Nat.zero_add]; exact HA.out.cell j hj)).mono ?_); rintro e w' ⟨rfl, rfl⟩)
      go_ret2
      exact ⟨rfl, HBe.out⟩

theorem refExtend_false (n x to : Nat) (w : World) (h0 : 1 ≤ n) (h1 : n ≤ to) (h2 : to ≤ 64) (hx : x < 2 ^ n) :
    Calls Try.prog 22 #[.int .i64 n, .int .u64 x, .int .i64 to, .bool false] w fun e w' => e = .returned (.tuple #[.int .u64 (x : Nat), .int .i64 0]) ∧ Below w.heap.size w w' := by
  have px := pow_le n (by omega)
  have O1 := fun W => refOk_yes n x W h0 (by omega) (by omega)
  rw [(okB_iff _ _).2 hx] at O1
  have O1 := fun W => Lib.hid (O1 W)
  have V1 := fun W => Lib.hid (wide_yes n W (by omega) (by omega))
  have V2 := fun W => Lib.hid (wide_yes to W (by omega) (by omega))
  have B1 := fun W => Lib.hid (bits_any n x W h0 (by omega) (by omega))
  have t1 : decide (to < n) = false := by simp; omega
  obtain ⟨X, hX⟩ : ∃ X, X = x := ⟨_, rfl⟩
  have HT := Lib.hid (show ∀ k, n ≤ k → k < to → bt X k = 0 by intro k hk hk2; rw [hX]; exact bt_small x n k hx hk)
  have HE := Lib.hid (show bitCells x n = bitCells X n by rw [hX])
  have HV := Lib.hid (show md X to = x by rw [hX]; exact Nat.mod_eq_of_lt (Nat.lt_of_lt_of_le hx (Nat.pow_le_pow_right (by decide) h1)))
  have HC : Hid True := Lib.hid trivial
  obtain ⟨T, hT0⟩ : ∃ T, T = bt x (n - 1) := ⟨_, rfl⟩
  have HN := Lib.hid (fun (g cap : Nat) (W : World) (hw : ∀ j, j < to → W.cell? ⟨g, 0 + j, none⟩ = some (.int .i64 (bt X j : Nat))) => number_any to X g 0 cap W h2 hw)
  rw [HV.out] at HN
  obtain ⟨v, hv⟩ : ∃ v, v = x := ⟨_, rfl⟩
  rw [← hv] at HN
  rw [show ((x : Nat) : Int) = ((x : Nat) : Int) from rfl]
  obtain ⟨i0, hi, hz0, hz1, hz2⟩ := info_parts int_info
  have HTop := Lib.hid (fun (W : World) (g cap : Nat) (h : BitsAt W w.heap.size g n cap x) => show W.cell? ⟨g, n - 1, none⟩ = some (.int .i64 (T : Nat)) by rw [hT0]; exact h.cell (n - 1) (by omega))
  clear hx px HV hX hT0
  go_enter Try.func22, Try.ntmps22
  go_wp2_with (first
    | (go_at_call 24; (with_reducible refine (V1 _).out.mono ?_); rintro e w' ⟨rfl, rfl⟩)
    | (go_at_call 24; (with_reducible refine (V2 _).out.mono ?_); rintro e w' ⟨rfl, rfl⟩)
    | (go_at_call 14; (with_reducible refine (O1 _).out.mono ?_); rintro e w' ⟨rfl, rfl⟩)
    | (go_at_call 26; (with_reducible refine (B1 _).out.mono ?_); rintro e w1 ⟨g1, cap1, rfl, hat, hb1⟩; have hcap := hat.cap.1; have htop := HTop.out _ _ _ hat; have HA1 := Lib.hid (show BitsAt w1 w.heap.size g1 n cap1 X by unfold BitsAt; rw [← HE.out]; exact hat); clear hat))
  clear htop hcap
  go_loopw [10] (fun v wr => ∃ k g cap : Nat, n ≤ k ∧ k ≤ to ∧ v = .slice (some ⟨g, 0, none⟩) k cap ∧ BitsAt wr w.heap.size g k cap X ∧ Below w.heap.size w wr) (fun v _ => to - lenOf v)
  case atStart => exact ⟨n, g1, cap1, Nat.le_refl _, h1, rfl, HA1.out, hb1⟩
  case round =>
    obtain ⟨k, g, cap, hk0, hk1, rfl, hat, hb⟩ := hrel
    by_cases hlt : k < to
    · have HBe := Lib.hid hb
      have HA := Lib.hid hat
      clear hat hb
      go_wp2_with (at_builtin; refine wpList_append_own _ rfl _ _ 48 rfl w.heap.size 3 i0 (.int .i64 0) 1 8 Try.underlying48 hi hz0 hz1 hz2 rfl (by decide) _ _ _ rfl (World.ownsRow.alloc HA.out _) ⟨_, 0, none⟩ 1 1 [.int .i64 0] rfl rfl ?c1 ?c2 ?c3 ?c4 ?c5 ?_)
      case c1 =>
        intro j u hj
        match j, hj with
        | 0, hj => simp at hj; subst hj; simp [Addr.add]
      case c2 => intro u hu; simp at hu; subst hu; rfl
      case c3 => unfold maxLen; omega
      case c4 => omega
      case c5 => have := HBe.out.size; simp; omega
      · intro v' w3 hown3 hgrow3 _
        have HG := Lib.hid (grown_step HBe.out HA.out hgrow3)
        have hown4 : w3.ownsRow w.heap.size 3 1 v' (k + 1) (bitCells X (k + 1)) := by
          rw [bitCells_succ, HT.out k hk0 hlt]; exact hown3
        obtain ⟨g3, cap3, hv3⟩ := ownsRow_head hown4 (by omega)
        subst hv3
        have HO := Lib.hid (show BitsAt w3 w.heap.size g3 (k + 1) cap3 X from hown4)
        clear hown3 hgrow3 hown4
        go_wp2
        go_roundw
        case rel => exact ⟨k + 1, g3, cap3, by omega, by omega, rfl, HO.out, HG.out⟩
        case measure => simp [lenOf]; omega
    · obtain rfl : k = to := by omega
      have HA := Lib.hid hat
      have HBe := Lib.hid hb
      clear hat hb
      go_wp2_with (go_at_call 29; (with_reducible refine (HN.out _ _ _ (fun j hj => by rw [Nat.zero_add]; exact HA.out.cell j hj)).mono ?_); rintro e w' ⟨rfl, rfl⟩)
      go_ret2
      exact ⟨by rw [← hv]; rfl, HBe.out⟩

theorem refExtend_any (n : Int) (x : Nat) (to : Int) (sign : Bool) (w : World) (hx64 : x < 18446744073709551616) :
    Calls Try.prog 22 #[.int .i64 n, .int .u64 x, .int .i64 to, .bool sign] w fun e w' => e = .returned (.tuple #[.int .u64 (extR n x to sign).1, .int .i64 (extR n x to sign).2]) ∧ Below w.heap.size w w' := by
  by_cases hn : n < 1 ∨ 64 < n
  · rw [show extR n x to sign = (0, 14) by unfold extR; rw [if_pos hn]]
    have V1 := fun W => Lib.hid (wide_no n W hn)
    clear hn hx64
    go_enter Try.func22, Try.ntmps22
    go_wp2_with (first
      | (go_at_call 24; (with_reducible refine (V1 _).out.mono ?_); rintro e w' ⟨rfl, rfl⟩))
    go_ret2
    exact ⟨rfl, Below.refl _ _⟩

  · obtain ⟨n, rfl⟩ : ∃ m : Nat, n = m := ⟨n.toNat, by omega⟩
    have h0 : 1 ≤ n := by omega
    have h1 : n ≤ 64 := by omega
    have V1 := fun W => Lib.hid (wide_yes n W (by omega) (by omega))
    by_cases hl : to < n ∨ 64 < to
    · rw [show extR n x to sign = (0, 14) by unfold extR; rw [if_neg hn, if_pos hl]]
      by_cases hl1 : to < 1 ∨ 64 < to
      · have V2 := fun W => Lib.hid (wide_no to W hl1)
        clear hn hx64 hl hl1
        go_enter Try.func22, Try.ntmps22
        go_wp2_with (first
          | (go_at_call 24; (with_reducible refine (V1 _).out.mono ?_); rintro e w' ⟨rfl, rfl⟩)
          | (go_at_call 24; (with_reducible refine (V2 _).out.mono ?_); rintro e w' ⟨rfl, rfl⟩))
        go_ret2
        exact ⟨rfl, Below.refl _ _⟩

      · have V2 := fun W => Lib.hid (wide_yes to W (by omega) (by omega))
        have t1 : decide (to < (n : Int)) = true := by simp; omega
        clear hn hx64 hl hl1
        go_enter Try.func22, Try.ntmps22
        go_wp2_with (first
          | (go_at_call 24; (with_reducible refine (V1 _).out.mono ?_); rintro e w' ⟨rfl, rfl⟩)
          | (go_at_call 24; (with_reducible refine (V2 _).out.mono ?_); rintro e w' ⟨rfl, rfl⟩))
        go_ret2
        exact ⟨rfl, Below.refl _ _⟩

    · obtain ⟨to, rfl⟩ : ∃ m : Nat, to = m := ⟨to.toNat, by omega⟩
      by_cases hx : x < 2 ^ n
      · have k1 : ¬ chk1 n x = 8 := by unfold chk1; rw [if_pos ((okB_iff _ _).2 hx)]; decide
        cases sign
        · rw [show extR n x to false = (x, 0) by unfold extR; rw [if_neg hn, if_neg hl, Int.toNat_natCast, if_neg k1, if_neg (by decide)]]
          exact refExtend_false n x to w h0 (by omega) (by omega) hx
        · rw [show extR n x to true = ((sg n x % 2 ^ to).toNat, 0) by unfold extR; rw [if_neg hn, if_neg hl, Int.toNat_natCast, Int.toNat_natCast, if_neg k1, if_pos rfl]]
          exact refExtend_true n x to w h0 (by omega) (by omega) hx
      · have k1 : okB n x = false := by simp [okB]; omega
        rw [show extR n x to sign = (0, 8) by unfold extR; rw [if_neg hn, if_neg hl, Int.toNat_natCast, if_pos (by unfold chk1; rw [k1]; rfl)]]
        have O1 := fun W => refOk_yes n x W h0 h1 hx64
        rw [k1] at O1
        have O1 := fun W => Lib.hid (O1 W)
        have V2 := fun W => Lib.hid (wide_yes to W (by omega) (by omega))
        have t1 : decide (to < n) = false := by simp; omega
        clear hn hx64 hl hx k1
        go_enter Try.func22, Try.ntmps22
        go_wp2_with (first
          | (go_at_call 24; (with_reducible refine (V1 _).out.mono ?_); rintro e w' ⟨rfl, rfl⟩)
          | (go_at_call 24; (with_reducible refine (V2 _).out.mono ?_); rintro e w' ⟨rfl, rfl⟩)
          | (go_at_call 14; (with_reducible refine (O1 _).out.mono ?_); rintro e w' ⟨rfl, rfl⟩))
        go_ret2
        exact ⟨rfl, Below.refl _ _⟩
end Go.Proofs.Ytdllophjfiebiaa
