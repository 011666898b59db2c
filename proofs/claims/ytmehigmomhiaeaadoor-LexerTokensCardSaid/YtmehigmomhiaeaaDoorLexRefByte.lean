/- The reference's letter, digit, word, mark, hexadecimal. -/
import Derived.Test.YtmehigmomhiaeaaDoorLexForms
namespace Go.Proofs.YtmehigmomhiaeaaDoor
open Go.RowKit
set_option linter.unusedVariables false
set_option linter.unusedSimpArgs false

set_option maxRecDepth 100000 in
theorem refLetter_any (c : Nat) (w : World) (h : c < 256) :
    Calls Tryd.prog 54 #[.int .u8 c] w fun e w' => e = .returned (.bool (letN c)) ∧ w = w' := by
  have H : ∀ b, letN c = b → Calls Tryd.prog 54 #[.int .u8 c] w fun e w' => e = .returned (.bool b) ∧ w = w' := by
    intro b hb
    have hi : (c : Int) < 256 := by omega
    rcases (by omega : c < 65 ∨ (65 ≤ c ∧ c ≤ 90) ∨ (90 < c ∧ c < 97) ∨ (97 ≤ c ∧ c ≤ 122) ∨ 122 < c) with g | g | g | g | g
    all_goals
      obtain rfl : (_ : Bool) = b := hb
      first
        | rw [show letN c = false by unfold letN; simp; omega]
        | rw [show letN c = true by unfold letN; simp; omega]
      go_enter Tryd.func54, Tryd.ntmps54
      go_wp2
      all_goals first | (exfalso; omega) | (go_ret; first | exact ⟨rfl, rfl⟩ | exact ⟨by simp <;> omega, rfl⟩)
  exact H _ rfl

set_option maxRecDepth 100000 in
theorem refDigit_any (c : Nat) (w : World) (h : c < 256) :
    Calls Tryd.prog 55 #[.int .u8 c] w fun e w' => e = .returned (.bool (digN c)) ∧ w = w' := by
  have hi : (c : Int) < 256 := by omega
  rcases (by omega : c < 48 ∨ (48 ≤ c ∧ c ≤ 57) ∨ 57 < c) with g | g | g
  all_goals
    first
      | rw [show digN c = false by unfold digN; simp; omega]
      | rw [show digN c = true by unfold digN; simp; omega]
    go_enter Tryd.func55, Tryd.ntmps55
    go_wp2
    all_goals first | (exfalso; omega) | (go_ret; first | exact ⟨rfl, rfl⟩ | exact ⟨by simp <;> omega, rfl⟩)

set_option maxRecDepth 100000 in
theorem refWord_any (c : Nat) (w : World) (h : c < 256) :
    Calls Tryd.prog 56 #[.int .u8 c] w fun e w' => e = .returned (.bool (letN c || digN c || c == 95)) ∧ w = w' := by
  have HL := Lib.hid (refLetter_any c w h)
  have HD := Lib.hid (refDigit_any c w h)
  have h95 : (c == 95) = ((c : Int) == 95) := by rw [Bool.eq_iff_iff]; simp; omega
  rw [h95]
  generalize letN c = p at HL ⊢
  generalize digN c = q at HD ⊢
  clear h95
  cases p <;> cases q
  all_goals
    go_enter Tryd.func56, Tryd.ntmps56
    go_wp2_with (first
      | (go_at_call 54; (with_reducible refine HL.out.mono ?_); rintro e w' ⟨rfl, rfl⟩)
      | (go_at_call 55; (with_reducible refine HD.out.mono ?_); rintro e w' ⟨rfl, rfl⟩))
    go_ret
    exact ⟨rfl, rfl⟩

theorem isW_eq (c : UInt8) : isW c = (letN c.toNat || digN c.toNat || c.toNat == 95) := by
  have H : ∀ n : Fin 256, (cls n.val == 3 || cls n.val == 4 || cls n.val == 5) = (letN n.val || digN n.val || n.val == 95) := by decide +kernel
  exact H ⟨c.toNat, c.toNat_lt⟩

set_option maxRecDepth 100000 in
theorem refHex_any (c : Nat) (w : World) (h : c < 256) :
    Calls Tryd.prog 67 #[.int .u8 c] w fun e w' => e = .returned (.int .i64 (if hexN c then (hexD1 c : Nat) else -1)) ∧ w = w' := by
  have HD := Lib.hid (refDigit_any c w h)
  have hi : (c : Int) < 256 := by omega
  rcases (by omega : c < 48 ∨ (48 ≤ c ∧ c ≤ 57) ∨ (57 < c ∧ c < 97) ∨ (97 ≤ c ∧ c ≤ 102) ∨ 102 < c) with g | g | g | g | g
  · have hd : digN c = false := by unfold digN; simp; omega
    rw [if_neg (by unfold hexN; rw [hd]; simp; omega)]
    rw [hd] at HD
    clear hd
    go_enter Tryd.func67, Tryd.ntmps67
    go_wp2_with (go_at_call 55; (with_reducible refine HD.out.mono ?_); rintro e w' ⟨rfl, rfl⟩)
    all_goals first | (exfalso; omega) | (go_ret; exact ⟨rfl, rfl⟩)
  · have hd : digN c = true := by unfold digN; simp; omega
    have hv : ((hexD1 c : Nat) : Int) = (c : Int) - 48 := by unfold hexD1; rw [if_pos hd]; omega
    rw [if_pos (by unfold hexN; rw [hd]; rfl), hv]
    rw [hd] at HD
    clear hd hv
    go_enter Tryd.func67, Tryd.ntmps67
    go_wp2_with (go_at_call 55; (with_reducible refine HD.out.mono ?_); rintro e w' ⟨rfl, rfl⟩)
    all_goals first | (exfalso; omega) | (go_ret; exact ⟨by go_num, rfl⟩)
  · have hd : digN c = false := by unfold digN; simp; omega
    rw [if_neg (by unfold hexN; rw [hd]; simp; omega)]
    rw [hd] at HD
    clear hd
    go_enter Tryd.func67, Tryd.ntmps67
    go_wp2_with (go_at_call 55; (with_reducible refine HD.out.mono ?_); rintro e w' ⟨rfl, rfl⟩)
    all_goals first | (exfalso; omega) | (go_ret; exact ⟨rfl, rfl⟩)
  · have hd : digN c = false := by unfold digN; simp; omega
    have hv : ((hexD1 c : Nat) : Int) = (c : Int) - 97 + 10 := by unfold hexD1; rw [if_neg (by rw [hd]; simp)]; omega
    rw [if_pos (by unfold hexN; rw [hd]; simp; omega), hv]
    rw [hd] at HD
    clear hd hv
    go_enter Tryd.func67, Tryd.ntmps67
    go_wp2_with (go_at_call 55; (with_reducible refine HD.out.mono ?_); rintro e w' ⟨rfl, rfl⟩)
    all_goals first | (exfalso; omega) | (go_ret; exact ⟨by go_num, rfl⟩)
  · have hd : digN c = false := by unfold digN; simp; omega
    rw [if_neg (by unfold hexN; rw [hd]; simp; omega)]
    rw [hd] at HD
    clear hd
    go_enter Tryd.func67, Tryd.ntmps67
    go_wp2_with (go_at_call 55; (with_reducible refine HD.out.mono ?_); rintro e w' ⟨rfl, rfl⟩)
    all_goals first | (exfalso; omega) | (go_ret; exact ⟨rfl, rfl⟩)

def marksL : List Nat := [44, 58, 61, 40, 41, 91, 93, 123, 125, 64, 46, 43, 42, 47]
theorem marks_all : ∀ c : Fin 256, marksL.any (fun m => m == c.val) = markN c.val := by decide +kernel
set_option maxHeartbeats 1000000 in
set_option maxRecDepth 100000 in
theorem refMark_any (c : Nat) (w : World) (h : c < 256) :
    Calls Tryd.prog 53 #[.int .u8 c] w fun e w' => e = .returned (.bool (markN c)) ∧ w = w' := by
  have HM := Lib.hid (marks_all ⟨c, h⟩).symm
  go_enter Tryd.func53, Tryd.ntmps53
  go_wp2
  go_loop [3] (fun v => ∃ k : Nat, v = .int .i64 k ∧ k ≤ 14 ∧ Hid (markN c = (marksL.drop k).any fun m => m == c)) (fun v => 14 - (intOf v).toNat)
  case atStart => exact ⟨0, rfl, by omega, HM⟩
  case round =>
    obtain ⟨k, rfl, hk, HK⟩ := hrel
    clear HM
    rcases (by omega : k = 0 ∨ k = 1 ∨ k = 2 ∨ k = 3 ∨ k = 4 ∨ k = 5 ∨ k = 6 ∨ k = 7 ∨ k = 8 ∨ k = 9 ∨ k = 10 ∨ k = 11 ∨ k = 12 ∨ k = 13 ∨ k = 14) with rfl | rfl | rfl | rfl | rfl | rfl | rfl | rfl | rfl | rfl | rfl | rfl | rfl | rfl | rfl
    · go_wp2
      · have hc : ((marksL.getD 0 0 : Nat) : Int) = (c : Int) := eq_of_beq ‹(_ == (c : Int)) = true›
        have hc2 : marksL.getD 0 0 = c := by exact_mod_cast hc
        go_ret
        refine ⟨?_, rfl⟩
        rw [show markN c = true by rw [← hc2]; decide]
        rfl
      · have hc : ¬ ((marksL.getD 0 0 : Nat) : Int) = (c : Int) := by
          intro e
          have e2 : (((marksL.getD 0 0 : Nat) : Int) == (c : Int)) = false := ‹(_ == (c : Int)) = false›
          rw [e] at e2
          simp at e2
        have HN := Lib.hid (show markN c = (marksL.drop 1).any (fun m => m == c) by
          rw [HK.out, show marksL.drop 0 = marksL.getD 0 0 :: marksL.drop 1 from rfl, List.any_cons, show (marksL.getD 0 0 == c) = false by simp only [beq_eq_false_iff_ne]; intro e; exact hc (by rw [e])]
          rfl)
        go_round
        case rel => exact ⟨1, rfl, by omega, HN⟩
        case measure => decide
    · go_wp2
      · have hc : ((marksL.getD 1 0 : Nat) : Int) = (c : Int) := eq_of_beq ‹(_ == (c : Int)) = true›
        have hc2 : marksL.getD 1 0 = c := by exact_mod_cast hc
        go_ret
        refine ⟨?_, rfl⟩
        rw [show markN c = true by rw [← hc2]; decide]
        rfl
      · have hc : ¬ ((marksL.getD 1 0 : Nat) : Int) = (c : Int) := by
          intro e
          have e2 : (((marksL.getD 1 0 : Nat) : Int) == (c : Int)) = false := ‹(_ == (c : Int)) = false›
          rw [e] at e2
          simp at e2
        have HN := Lib.hid (show markN c = (marksL.drop 2).any (fun m => m == c) by
          rw [HK.out, show marksL.drop 1 = marksL.getD 1 0 :: marksL.drop 2 from rfl, List.any_cons, show (marksL.getD 1 0 == c) = false by simp only [beq_eq_false_iff_ne]; intro e; exact hc (by rw [e])]
          rfl)
        go_round
        case rel => exact ⟨2, rfl, by omega, HN⟩
        case measure => decide
    · go_wp2
      · have hc : ((marksL.getD 2 0 : Nat) : Int) = (c : Int) := eq_of_beq ‹(_ == (c : Int)) = true›
        have hc2 : marksL.getD 2 0 = c := by exact_mod_cast hc
        go_ret
        refine ⟨?_, rfl⟩
        rw [show markN c = true by rw [← hc2]; decide]
        rfl
      · have hc : ¬ ((marksL.getD 2 0 : Nat) : Int) = (c : Int) := by
          intro e
          have e2 : (((marksL.getD 2 0 : Nat) : Int) == (c : Int)) = false := ‹(_ == (c : Int)) = false›
          rw [e] at e2
          simp at e2
        have HN := Lib.hid (show markN c = (marksL.drop 3).any (fun m => m == c) by
          rw [HK.out, show marksL.drop 2 = marksL.getD 2 0 :: marksL.drop 3 from rfl, List.any_cons, show (marksL.getD 2 0 == c) = false by simp only [beq_eq_false_iff_ne]; intro e; exact hc (by rw [e])]
          rfl)
        go_round
        case rel => exact ⟨3, rfl, by omega, HN⟩
        case measure => decide
    · go_wp2
      · have hc : ((marksL.getD 3 0 : Nat) : Int) = (c : Int) := eq_of_beq ‹(_ == (c : Int)) = true›
        have hc2 : marksL.getD 3 0 = c := by exact_mod_cast hc
        go_ret
        refine ⟨?_, rfl⟩
        rw [show markN c = true by rw [← hc2]; decide]
        rfl
      · have hc : ¬ ((marksL.getD 3 0 : Nat) : Int) = (c : Int) := by
          intro e
          have e2 : (((marksL.getD 3 0 : Nat) : Int) == (c : Int)) = false := ‹(_ == (c : Int)) = false›
          rw [e] at e2
          simp at e2
        have HN := Lib.hid (show markN c = (marksL.drop 4).any (fun m => m == c) by
          rw [HK.out, show marksL.drop 3 = marksL.getD 3 0 :: marksL.drop 4 from rfl, List.any_cons, show (marksL.getD 3 0 == c) = false by simp only [beq_eq_false_iff_ne]; intro e; exact hc (by rw [e])]
          rfl)
        go_round
        case rel => exact ⟨4, rfl, by omega, HN⟩
        case measure => decide
    · go_wp2
      · have hc : ((marksL.getD 4 0 : Nat) : Int) = (c : Int) := eq_of_beq ‹(_ == (c : Int)) = true›
        have hc2 : marksL.getD 4 0 = c := by exact_mod_cast hc
        go_ret
        refine ⟨?_, rfl⟩
        rw [show markN c = true by rw [← hc2]; decide]
        rfl
      · have hc : ¬ ((marksL.getD 4 0 : Nat) : Int) = (c : Int) := by
          intro e
          have e2 : (((marksL.getD 4 0 : Nat) : Int) == (c : Int)) = false := ‹(_ == (c : Int)) = false›
          rw [e] at e2
          simp at e2
        have HN := Lib.hid (show markN c = (marksL.drop 5).any (fun m => m == c) by
          rw [HK.out, show marksL.drop 4 = marksL.getD 4 0 :: marksL.drop 5 from rfl, List.any_cons, show (marksL.getD 4 0 == c) = false by simp only [beq_eq_false_iff_ne]; intro e; exact hc (by rw [e])]
          rfl)
        go_round
        case rel => exact ⟨5, rfl, by omega, HN⟩
        case measure => decide
    · go_wp2
      · have hc : ((marksL.getD 5 0 : Nat) : Int) = (c : Int) := eq_of_beq ‹(_ == (c : Int)) = true›
        have hc2 : marksL.getD 5 0 = c := by exact_mod_cast hc
        go_ret
        refine ⟨?_, rfl⟩
        rw [show markN c = true by rw [← hc2]; decide]
        rfl
      · have hc : ¬ ((marksL.getD 5 0 : Nat) : Int) = (c : Int) := by
          intro e
          have e2 : (((marksL.getD 5 0 : Nat) : Int) == (c : Int)) = false := ‹(_ == (c : Int)) = false›
          rw [e] at e2
          simp at e2
        have HN := Lib.hid (show markN c = (marksL.drop 6).any (fun m => m == c) by
          rw [HK.out, show marksL.drop 5 = marksL.getD 5 0 :: marksL.drop 6 from rfl, List.any_cons, show (marksL.getD 5 0 == c) = false by simp only [beq_eq_false_iff_ne]; intro e; exact hc (by rw [e])]
          rfl)
        go_round
        case rel => exact ⟨6, rfl, by omega, HN⟩
        case measure => decide
    · go_wp2
      · have hc : ((marksL.getD 6 0 : Nat) : Int) = (c : Int) := eq_of_beq ‹(_ == (c : Int)) = true›
        have hc2 : marksL.getD 6 0 = c := by exact_mod_cast hc
        go_ret
        refine ⟨?_, rfl⟩
        rw [show markN c = true by rw [← hc2]; decide]
        rfl
      · have hc : ¬ ((marksL.getD 6 0 : Nat) : Int) = (c : Int) := by
          intro e
          have e2 : (((marksL.getD 6 0 : Nat) : Int) == (c : Int)) = false := ‹(_ == (c : Int)) = false›
          rw [e] at e2
          simp at e2
        have HN := Lib.hid (show markN c = (marksL.drop 7).any (fun m => m == c) by
          rw [HK.out, show marksL.drop 6 = marksL.getD 6 0 :: marksL.drop 7 from rfl, List.any_cons, show (marksL.getD 6 0 == c) = false by simp only [beq_eq_false_iff_ne]; intro e; exact hc (by rw [e])]
          rfl)
        go_round
        case rel => exact ⟨7, rfl, by omega, HN⟩
        case measure => decide
    · go_wp2
      · have hc : ((marksL.getD 7 0 : Nat) : Int) = (c : Int) := eq_of_beq ‹(_ == (c : Int)) = true›
        have hc2 : marksL.getD 7 0 = c := by exact_mod_cast hc
        go_ret
        refine ⟨?_, rfl⟩
        rw [show markN c = true by rw [← hc2]; decide]
        rfl
      · have hc : ¬ ((marksL.getD 7 0 : Nat) : Int) = (c : Int) := by
          intro e
          have e2 : (((marksL.getD 7 0 : Nat) : Int) == (c : Int)) = false := ‹(_ == (c : Int)) = false›
          rw [e] at e2
          simp at e2
        have HN := Lib.hid (show markN c = (marksL.drop 8).any (fun m => m == c) by
          rw [HK.out, show marksL.drop 7 = marksL.getD 7 0 :: marksL.drop 8 from rfl, List.any_cons, show (marksL.getD 7 0 == c) = false by simp only [beq_eq_false_iff_ne]; intro e; exact hc (by rw [e])]
          rfl)
        go_round
        case rel => exact ⟨8, rfl, by omega, HN⟩
        case measure => decide
    · go_wp2
      · have hc : ((marksL.getD 8 0 : Nat) : Int) = (c : Int) := eq_of_beq ‹(_ == (c : Int)) = true›
        have hc2 : marksL.getD 8 0 = c := by exact_mod_cast hc
        go_ret
        refine ⟨?_, rfl⟩
        rw [show markN c = true by rw [← hc2]; decide]
        rfl
      · have hc : ¬ ((marksL.getD 8 0 : Nat) : Int) = (c : Int) := by
          intro e
          have e2 : (((marksL.getD 8 0 : Nat) : Int) == (c : Int)) = false := ‹(_ == (c : Int)) = false›
          rw [e] at e2
          simp at e2
        have HN := Lib.hid (show markN c = (marksL.drop 9).any (fun m => m == c) by
          rw [HK.out, show marksL.drop 8 = marksL.getD 8 0 :: marksL.drop 9 from rfl, List.any_cons, show (marksL.getD 8 0 == c) = false by simp only [beq_eq_false_iff_ne]; intro e; exact hc (by rw [e])]
          rfl)
        go_round
        case rel => exact ⟨9, rfl, by omega, HN⟩
        case measure => decide
    · go_wp2
      · have hc : ((marksL.getD 9 0 : Nat) : Int) = (c : Int) := eq_of_beq ‹(_ == (c : Int)) = true›
        have hc2 : marksL.getD 9 0 = c := by exact_mod_cast hc
        go_ret
        refine ⟨?_, rfl⟩
        rw [show markN c = true by rw [← hc2]; decide]
        rfl
      · have hc : ¬ ((marksL.getD 9 0 : Nat) : Int) = (c : Int) := by
          intro e
          have e2 : (((marksL.getD 9 0 : Nat) : Int) == (c : Int)) = false := ‹(_ == (c : Int)) = false›
          rw [e] at e2
          simp at e2
        have HN := Lib.hid (show markN c = (marksL.drop 10).any (fun m => m == c) by
          rw [HK.out, show marksL.drop 9 = marksL.getD 9 0 :: marksL.drop 10 from rfl, List.any_cons, show (marksL.getD 9 0 == c) = false by simp only [beq_eq_false_iff_ne]; intro e; exact hc (by rw [e])]
          rfl)
        go_round
        case rel => exact ⟨10, rfl, by omega, HN⟩
        case measure => decide
    · go_wp2
      · have hc : ((marksL.getD 10 0 : Nat) : Int) = (c : Int) := eq_of_beq ‹(_ == (c : Int)) = true›
        have hc2 : marksL.getD 10 0 = c := by exact_mod_cast hc
        go_ret
        refine ⟨?_, rfl⟩
        rw [show markN c = true by rw [← hc2]; decide]
        rfl
      · have hc : ¬ ((marksL.getD 10 0 : Nat) : Int) = (c : Int) := by
          intro e
          have e2 : (((marksL.getD 10 0 : Nat) : Int) == (c : Int)) = false := ‹(_ == (c : Int)) = false›
          rw [e] at e2
          simp at e2
        have HN := Lib.hid (show markN c = (marksL.drop 11).any (fun m => m == c) by
          rw [HK.out, show marksL.drop 10 = marksL.getD 10 0 :: marksL.drop 11 from rfl, List.any_cons, show (marksL.getD 10 0 == c) = false by simp only [beq_eq_false_iff_ne]; intro e; exact hc (by rw [e])]
          rfl)
        go_round
        case rel => exact ⟨11, rfl, by omega, HN⟩
        case measure => decide
    · go_wp2
      · have hc : ((marksL.getD 11 0 : Nat) : Int) = (c : Int) := eq_of_beq ‹(_ == (c : Int)) = true›
        have hc2 : marksL.getD 11 0 = c := by exact_mod_cast hc
        go_ret
        refine ⟨?_, rfl⟩
        rw [show markN c = true by rw [← hc2]; decide]
        rfl
      · have hc : ¬ ((marksL.getD 11 0 : Nat) : Int) = (c : Int) := by
          intro e
          have e2 : (((marksL.getD 11 0 : Nat) : Int) == (c : Int)) = false := ‹(_ == (c : Int)) = false›
          rw [e] at e2
          simp at e2
        have HN := Lib.hid (show markN c = (marksL.drop 12).any (fun m => m == c) by
          rw [HK.out, show marksL.drop 11 = marksL.getD 11 0 :: marksL.drop 12 from rfl, List.any_cons, show (marksL.getD 11 0 == c) = false by simp only [beq_eq_false_iff_ne]; intro e; exact hc (by rw [e])]
          rfl)
        go_round
        case rel => exact ⟨12, rfl, by omega, HN⟩
        case measure => decide
    · go_wp2
      · have hc : ((marksL.getD 12 0 : Nat) : Int) = (c : Int) := eq_of_beq ‹(_ == (c : Int)) = true›
        have hc2 : marksL.getD 12 0 = c := by exact_mod_cast hc
        go_ret
        refine ⟨?_, rfl⟩
        rw [show markN c = true by rw [← hc2]; decide]
        rfl
      · have hc : ¬ ((marksL.getD 12 0 : Nat) : Int) = (c : Int) := by
          intro e
          have e2 : (((marksL.getD 12 0 : Nat) : Int) == (c : Int)) = false := ‹(_ == (c : Int)) = false›
          rw [e] at e2
          simp at e2
        have HN := Lib.hid (show markN c = (marksL.drop 13).any (fun m => m == c) by
          rw [HK.out, show marksL.drop 12 = marksL.getD 12 0 :: marksL.drop 13 from rfl, List.any_cons, show (marksL.getD 12 0 == c) = false by simp only [beq_eq_false_iff_ne]; intro e; exact hc (by rw [e])]
          rfl)
        go_round
        case rel => exact ⟨13, rfl, by omega, HN⟩
        case measure => decide
    · go_wp2
      · have hc : ((marksL.getD 13 0 : Nat) : Int) = (c : Int) := eq_of_beq ‹(_ == (c : Int)) = true›
        have hc2 : marksL.getD 13 0 = c := by exact_mod_cast hc
        go_ret
        refine ⟨?_, rfl⟩
        rw [show markN c = true by rw [← hc2]; decide]
        rfl
      · have hc : ¬ ((marksL.getD 13 0 : Nat) : Int) = (c : Int) := by
          intro e
          have e2 : (((marksL.getD 13 0 : Nat) : Int) == (c : Int)) = false := ‹(_ == (c : Int)) = false›
          rw [e] at e2
          simp at e2
        have HN := Lib.hid (show markN c = (marksL.drop 14).any (fun m => m == c) by
          rw [HK.out, show marksL.drop 13 = marksL.getD 13 0 :: marksL.drop 14 from rfl, List.any_cons, show (marksL.getD 13 0 == c) = false by simp only [beq_eq_false_iff_ne]; intro e; exact hc (by rw [e])]
          rfl)
        go_round
        case rel => exact ⟨14, rfl, by omega, HN⟩
        case measure => decide
    · go_wp2
      go_ret
      refine ⟨?_, rfl⟩
      rw [HK.out]
      rfl
end Go.Proofs.YtmehigmomhiaeaaDoor
