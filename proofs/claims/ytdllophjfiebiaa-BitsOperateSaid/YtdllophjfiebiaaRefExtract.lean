/- Contracts of the reference's Extract and Concat, for all arguments. -/
import Derived.Test.YtdllophjfiebiaaRefJoin
namespace Go.Proofs.Ytdllophjfiebiaa
open Go.RowKit Go.Sort
set_option linter.unusedVariables false
set_option linter.unusedSimpArgs false

theorem refExtract_any (n : Int) (x : Nat) (low many : Int) (w : World) (hx : x < 18446744073709551616) (hl : -9223372036854775808 ≤ low ∧ low ≤ 9223372036854775807) (hm : -9223372036854775808 ≤ many ∧ many ≤ 9223372036854775807) :
    Calls Try.prog 18 #[.int .i64 n, .int .u64 x, .int .i64 low, .int .i64 many] w fun e w' => e = .returned (.tuple #[.int .u64 (exR n x low many).1, .int .i64 (exR n x low many).2]) ∧ Below w.heap.size w w' := by
  by_cases h : n < 1 ∨ 64 < n
  · rw [show exR n x low many = (0, 14) by unfold exR; rw [if_pos h]]
    have H := Lib.hid h
    clear h hl hm hx
    go_enter Try.func18, Try.ntmps18
    go_wp2_with (go_at_call 24; refine (wide_no _ _ H.out).mono ?_; rintro e w' ⟨rfl, rfl⟩)
    go_ret2
    exact ⟨rfl, Below.refl _ _⟩
  · obtain ⟨n, rfl⟩ : ∃ m : Nat, n = m := ⟨n.toNat, by omega⟩
    have h0 : 1 ≤ n := by omega
    have h1 : n ≤ 64 := by omega
    have HO := fun W => refOk_yes n x W h0 h1 hx
    by_cases hxm : x < 2 ^ n
    · rw [(okB_iff _ _).2 hxm] at HO
      have HO := fun W => Lib.hid (HO W)
      have hk : ¬ chk1 n x = 8 := by unfold chk1; rw [if_pos ((okB_iff _ _).2 hxm)]; decide
      by_cases hb : low < 0 ∨ many < 1 ∨ n - low < many
      · rw [show exR n x low many = (0, 2) by unfold exR; rw [if_neg h, Int.toNat_natCast, if_neg hk, if_pos hb]]
        clear hx hxm hk h
        by_cases b1 : low < 0
        · have t1 : decide (low < 0) = true := by simp [b1]
          clear hl hm hb b1
          go_enter Try.func18, Try.ntmps18
          go_wp2_with (first
            | (go_at_call 24; refine (wide_yes _ _ (by omega) (by omega)).mono ?_; rintro e w' ⟨rfl, rfl⟩)
            | (go_at_call 14; refine (HO _).out.mono ?_; rintro e w' ⟨rfl, rfl⟩))
          go_ret2
          exact ⟨rfl, Below.refl _ _⟩
        · have t1 : decide (low < 0) = false := by simp; omega
          by_cases b2 : many < 1
          · have t2 : decide (many < 1) = true := by simp [b2]
            clear hl hm hb b1 b2
            go_enter Try.func18, Try.ntmps18
            go_wp2_with (first
              | (go_at_call 24; refine (wide_yes _ _ (by omega) (by omega)).mono ?_; rintro e w' ⟨rfl, rfl⟩)
              | (go_at_call 14; refine (HO _).out.mono ?_; rintro e w' ⟨rfl, rfl⟩))
            go_ret2
            exact ⟨rfl, Below.refl _ _⟩
          · have t2 : decide (many < 1) = false := by simp; omega
            by_cases b3 : (n : Int) < low
            · have t3 : decide ((n : Int) < low) = true := by simp [b3]
              clear hl hm hb b1 b2 b3
              go_enter Try.func18, Try.ntmps18
              go_wp2_with (first
                | (go_at_call 24; refine (wide_yes _ _ (by omega) (by omega)).mono ?_; rintro e w' ⟨rfl, rfl⟩)
                | (go_at_call 14; refine (HO _).out.mono ?_; rintro e w' ⟨rfl, rfl⟩))
              go_ret2
              exact ⟨rfl, Below.refl _ _⟩
            · have t3 : decide ((n : Int) < low) = false := by simp; omega
              by_cases b4 : (n : Int) < many
              · have t4 : decide ((n : Int) < many) = true := by simp [b4]
                clear hl hm hb b1 b2 b3 b4
                go_enter Try.func18, Try.ntmps18
                go_wp2_with (first
                  | (go_at_call 24; refine (wide_yes _ _ (by omega) (by omega)).mono ?_; rintro e w' ⟨rfl, rfl⟩)
                  | (go_at_call 14; refine (HO _).out.mono ?_; rintro e w' ⟨rfl, rfl⟩))
                go_ret2
                exact ⟨rfl, Below.refl _ _⟩
              · have t4 : decide ((n : Int) < many) = false := by simp; omega
                have t5 : decide ((n : Int) < low + many) = true := by simp; omega
                have g0 : 0 ≤ low := by omega
                have g1 : low ≤ 64 := by omega
                have g2 : 0 ≤ many := by omega
                have g3 : many ≤ 64 := by omega
                clear hl hm hb b1 b2 b3 b4
                go_enter Try.func18, Try.ntmps18
                go_wp2_with (first
                  | (go_at_call 24; refine (wide_yes _ _ (by omega) (by omega)).mono ?_; rintro e w' ⟨rfl, rfl⟩)
                  | (go_at_call 14; refine (HO _).out.mono ?_; rintro e w' ⟨rfl, rfl⟩))
                go_ret2
                exact ⟨rfl, Below.refl _ _⟩
      · obtain ⟨l, rfl⟩ : ∃ l : Nat, low = l := ⟨low.toNat, by omega⟩
        obtain ⟨m, rfl⟩ : ∃ m : Nat, many = m := ⟨many.toNat, by omega⟩
        rw [show exR n x l m = (md (x / 2 ^ l) m, 0) by unfold exR; rw [if_neg h, Int.toNat_natCast, if_neg hk, if_neg hb, Int.toNat_natCast, Int.toNat_natCast]; rfl]
        have hm0 : 1 ≤ m := by omega
        have hlm : l + m ≤ n := by omega
        have HB := fun W => Lib.hid (bits_any n x W h0 h1 hx)
        have HN := Lib.hid (fun (g cap : Nat) (W : World) (hw : ∀ j, j < n → W.cell? ⟨g, j, none⟩ = some (.int .i64 (bt x j : Nat))) => number_any m (x / 2 ^ l) g l cap W (by omega) (fun j hj => by rw [bt_shift]; exact hw (l + j) (by omega)))
        generalize md (x / 2 ^ l) m = v at *
        have t1 : decide ((l : Int) < 0) = false := by simp
        have t2 : decide ((m : Int) < 1) = false := by simp; omega
        have t3 : decide (n < l) = false := by simp; omega
        have t4 : decide (n < m) = false := by simp; omega
        have t5 : decide ((n : Int) < l + m) = false := by simp; omega
        clear hx hxm hk h hl hm hb
        go_enter Try.func18, Try.ntmps18
        go_wp2_with (first
          | (go_at_call 24; refine (wide_yes _ _ (by omega) (by omega)).mono ?_; rintro e w' ⟨rfl, rfl⟩)
          | (go_at_call 14; refine (HO _).out.mono ?_; rintro e w' ⟨rfl, rfl⟩)
          | (go_at_call 26; refine (HB _).out.mono ?_; rintro e w1 ⟨g, cap, rfl, hat, hb1⟩; have hcap := hat.cap.1; have HA := Lib.hid hat; clear hat)
          | (go_at_call 29; (with_reducible refine (HN.out _ _ _ (fun j hj => HA.out.cell j hj)).mono ?_); rintro e w' ⟨rfl, rfl⟩))
        go_ret2
        exact ⟨rfl, hb1⟩
    · rw [show exR n x low many = (0, 8) by unfold exR; rw [if_neg h, Int.toNat_natCast, if_pos (by unfold chk1; rw [if_neg (by simp [okB]; omega)])]]
      rw [show okB n x = false by simp [okB]; omega] at HO
      have HO := fun W => Lib.hid (HO W)
      clear h hx hxm hl hm
      go_enter Try.func18, Try.ntmps18
      go_wp2_with (first
        | (go_at_call 24; refine (wide_yes _ _ (by omega) (by omega)).mono ?_; rintro e w' ⟨rfl, rfl⟩)
        | (go_at_call 14; refine (HO _).out.mono ?_; rintro e w' ⟨rfl, rfl⟩))
      go_ret2
      exact ⟨rfl, Below.refl _ _⟩
end Go.Proofs.Ytdllophjfiebiaa
