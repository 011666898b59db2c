/- The walk of FormatFits. -/
import Derived.Test.YtjbapjgagiaefaaFormatBackWalk
namespace Go.Proofs.Ytjbapjgagiaefaa.formatFits
open Go.RowKit Go.Instr Go.Sort Go.Proofs.Ytjbapjgagiaefaa.formatBack
set_option linter.unusedVariables false
set_option linter.unusedSimpArgs false
set_option maxRecDepth 100000
set_option maxHeartbeats 2000000

theorem pow_mono {v w : Nat} (h : v ≤ w) : (2 : Int) ^ v ≤ 2 ^ w := by
  rw [← castPow, ← castPow]; exact Int.ofNat_le.2 (Nat.pow_le_pow_right (by omega) h)
theorem numB_mono {g : Bool} {v w s : Nat} {n : Int} (h : v ≤ w) (hn : numB g v s n = true) : numB g w s n = true := by
  obtain ⟨h1, h2, h3⟩ := numB_iff.1 hn
  have p1 := pow_mono h
  have p2 := pow_mono (show v - 1 ≤ w - 1 by omega)
  refine numB_iff.2 ⟨h1, ?_, ?_⟩
  · unfold lowN at *; split at h2 <;> simp_all; omega
  · unfold highN at *; split at h3 <;> simp_all <;> omega
theorem chkK_zero {k w s : Int} (h : chkK k 32 s = 0) (hw : 1 ≤ w ∧ w ≤ 32) : chkK k w s = 0 := by
  unfold chkK needR at *
  split at h
  · rename_i h'
    rw [if_pos]
    simp [inB] at h' ⊢
    exact ⟨h'.1, hw, h'.2⟩
  · cases h
theorem chkK_32 {k w s : Int} (h : chkK k w s = 0) : chkK k 32 s = 0 := by
  unfold chkK needR at *
  split at h
  · rename_i h'
    rw [if_pos]
    simp [inB] at h' ⊢
    exact ⟨h'.1, h'.2.2⟩
  · cases h
theorem fits_math {k s n z f : Int} (h : FitP k s n z f) :
    ((f == 0) = false ∧ z = 0 ∧ ∀ w, ((fieldR k w s n).2 == 0) = false) ∨
    (f = 0 ∧ ∃ v : Nat, 1 ≤ v ∧ v ≤ 32 ∧ z = v ∧ (fieldR k v s n).2 = 0 ∧ ∀ w, 1 ≤ w → w ≤ 32 → ((fieldR k w s n).2 == 0) = decide ((v : Int) ≤ w)) := by
  rcases h with ⟨h1, rfl, rfl⟩ | ⟨h1, v, a1, a2, rfl, rfl, a3, a4⟩ | ⟨h1, rfl, rfl, a4⟩
  · refine .inl ⟨by simpa using h1, rfl, fun w => ?_⟩
    have : ¬ (fieldR k w s n).2 = 0 := fun h => h1 (chkK_32 (fieldR_zero.1 h).1)
    simpa using this
  · refine .inr ⟨rfl, v, a1, a2, rfl, fieldR_zero.2 ⟨chkK_zero h1 (by omega), by simpa using a3⟩, fun w b1 b2 => ?_⟩
    by_cases hw : (v : Int) ≤ w
    · rw [fieldR_zero.2 ⟨chkK_zero h1 ⟨b1, b2⟩, numB_mono (by omega) a3⟩]
      simp [hw]
    · have : ¬ (fieldR k w s n).2 = 0 := fun h => by
        have h2 := (fieldR_zero.1 h).2
        rw [a4 w.toNat (by omega) (by omega)] at h2; cases h2
      simp [hw, this]
  · refine .inl ⟨rfl, rfl, fun w => ?_⟩
    have : ¬ (fieldR k w s n).2 = 0 := fun h => by
      obtain ⟨c1, c2⟩ := fieldR_zero.1 h
      obtain ⟨⟨d1, d2⟩, _⟩ := chkK_ok c1
      rw [a4 w.toNat (by omega) (by omega)] at c2; cases c2
    simpa using this
theorem core (k s n w : Int) (wo : World) (hn : -9223372036854775808 ≤ n ∧ n ≤ 9223372036854775807) :
    Calls Try.prog 11 #[.int .u8 k, .int .i64 s, .int .i64 n, .int .i64 w] wo fun e w' => e = .returned (.bool true) ∧ Below wo.heap.size wo w' := by
  have HA := Lib.hid (fun W => alive_walk W)
  have T1 := Lib.hid (fun W => fit_any k s n W hn)
  have F1 := Lib.hid (fun W => field_any k w s n W hn)
  by_cases hfit : ∃ z f, FitP k s n z f
  case neg =>
    go_enter Try.func11, Try.ntmps11
    go_wp2_with (first
      | (go_at_call 20; (with_reducible refine (HA.out _).mono ?_); rintro e w1 ⟨rfl, hb1⟩)
      | (go_at_call 15; (with_reducible refine (T1.out _).mono ?_); rintro e w2 ⟨z', f', rfl, hP, hb2⟩; exact absurd ⟨z', f', hP⟩ hfit))
  obtain ⟨z, f, hF⟩ := hfit
  have T2 : Hid (∀ W, Calls Try.prog 15 #[.int .u8 k, .int .i64 s, .int .i64 n] W fun e w' => e = .returned (.tuple #[.int .i64 z, .int .i64 f]) ∧ Below W.heap.size W w') :=
    Lib.hid (fun W => (T1.out W).mono fun e w' ⟨z', f', he, hP, hb⟩ => by obtain ⟨rfl, rfl⟩ := hF.one hP; exact ⟨he, hb⟩)
  clear T1
  rcases fits_math hF with ⟨hf, rfl, h0⟩ | ⟨rfl, v, hv1, hv2, rfl, hv, hw⟩
  · have h1 := h0 w
    generalize (fieldR k w s n).1 = x at *
    generalize (fieldR k w s n).2 = e1 at *
    have h2 : (e1 != 0) = true := by simp [bne, h1]
    have h3 : (f != 0) = true := by simp [bne, hf]
    clear hF h0 hn
    go_enter Try.func11, Try.ntmps11
    go_wp2_with (first
      | (go_at_call 20; (with_reducible refine (HA.out _).mono ?_); rintro e w1 ⟨rfl, hb1⟩)
      | (go_at_call 15; (with_reducible refine (T2.out _).mono ?_); rintro e w2 ⟨rfl, hb2⟩)
      | (go_at_call 13; (with_reducible refine (F1.out _).mono ?_); rintro e w3 ⟨rfl, hb3⟩))
    go_ret
    exact ⟨rfl, thenBel (thenBel hb1 hb2) hb3⟩
  · have F2 := Lib.hid (fun W => field_any k v s n W hn)
    rw [hv] at F2
    generalize (fieldR k v s n).1 = x2 at *
    have hv3 : (1 : Int) ≤ v := by omega
    have hv4 : (v : Int) ≤ 32 := by omega
    by_cases hw1 : 1 ≤ w
    · by_cases hw2 : w ≤ 32
      · have h1 := hw w hw1 hw2
        generalize (fieldR k w s n).1 = x at *
        generalize (fieldR k w s n).2 = e1 at *
        clear hF hw hn hv
        by_cases hq : (v : Int) ≤ w
        all_goals
          simp only [hq, decide_true, decide_false] at h1
          go_enter Try.func11, Try.ntmps11
          go_wp2_with (first
            | (go_at_call 20; (with_reducible refine (HA.out _).mono ?_); rintro e w1 ⟨rfl, hb1⟩)
            | (go_at_call 15; (with_reducible refine (T2.out _).mono ?_); rintro e w2 ⟨rfl, hb2⟩)
            | (go_at_call 13; (with_reducible refine (F1.out _).mono ?_); rintro e w3 ⟨rfl, hb3⟩)
            | (go_at_call 13; (with_reducible refine (F2.out _).mono ?_); rintro e w4 ⟨rfl, hb4⟩))
          all_goals
            go_ret
            exact ⟨by simp_all, by first | exact thenBel (thenBel (thenBel hb1 hb2) hb3) hb4 | exact thenBel (thenBel (thenBel hb1 hb2) hb3) hb3⟩
      · generalize (fieldR k w s n).1 = x at *
        generalize (fieldR k w s n).2 = e1 at *
        clear hF hw hn hv
        go_enter Try.func11, Try.ntmps11
        go_wp2_with (first
          | (go_at_call 20; (with_reducible refine (HA.out _).mono ?_); rintro e w1 ⟨rfl, hb1⟩)
          | (go_at_call 15; (with_reducible refine (T2.out _).mono ?_); rintro e w2 ⟨rfl, hb2⟩)
          | (go_at_call 13; (with_reducible refine (F1.out _).mono ?_); rintro e w3 ⟨rfl, hb3⟩)
          | (go_at_call 13; (with_reducible refine (F2.out _).mono ?_); rintro e w4 ⟨rfl, hb4⟩))
        all_goals
          go_ret
          exact ⟨rfl, thenBel (thenBel (thenBel hb1 hb2) hb3) hb4⟩
    · generalize (fieldR k w s n).1 = x at *
      generalize (fieldR k w s n).2 = e1 at *
      clear hF hw hn hv
      go_enter Try.func11, Try.ntmps11
      go_wp2_with (first
        | (go_at_call 20; (with_reducible refine (HA.out _).mono ?_); rintro e w1 ⟨rfl, hb1⟩)
        | (go_at_call 15; (with_reducible refine (T2.out _).mono ?_); rintro e w2 ⟨rfl, hb2⟩)
        | (go_at_call 13; (with_reducible refine (F1.out _).mono ?_); rintro e w3 ⟨rfl, hb3⟩)
        | (go_at_call 13; (with_reducible refine (F2.out _).mono ?_); rintro e w4 ⟨rfl, hb4⟩))
      all_goals
        go_ret
        exact ⟨rfl, thenBel (thenBel (thenBel hb1 hb2) hb3) hb4⟩
theorem walk (a0 a1 a2 a3 : Int) (w0 : (Lit.int .u8 a0).wf = true) (w1 : (Lit.int .i64 a1).wf = true) (w2 : (Lit.int .i64 a2).wf = true) (w3 : (Lit.int .i64 a3).wf = true) (w : World) :
    Calls Try.prog 11 #[.int .u8 a0, .int .i64 a1, .int .i64 a2, .int .i64 a3] w fun e w' => e = .returned (.bool true) ∧ Below w.heap.size w w' :=
  core a0 a1 a2 a3 w (int_i64 w2)
end Go.Proofs.Ytjbapjgagiaefaa.formatFits
