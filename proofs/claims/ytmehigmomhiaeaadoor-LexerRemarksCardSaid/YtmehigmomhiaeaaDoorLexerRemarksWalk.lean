/- The walk of LexerRemarks: a remark at the end and spaces around change nothing but places. -/
import Derived.Test.YtmehigmomhiaeaaDoorLexSame
import Derived.Test.YtmehigmomhiaeaaDoorLexShift
import Derived.Test.YtmehigmomhiaeaaDoorLexLaid
import Derived.Test.YtmehigmomhiaeaaDoorLexerCoversPlay
namespace Go.Proofs.YtmehigmomhiaeaaDoor.lexerRemarks
open Go.Play Go.RowKit
set_option linter.unusedVariables false
set_option linter.unusedSimpArgs false

set_option maxHeartbeats 4000000 in
set_option maxRecDepth 100000 in
theorem core (s r : ByteArray) (w : World) (hL : LaidAt w) (hA : ∀ Y, Below w.heap.size w Y → Calls Tryd.prog 14 #[] Y fun e w' => e = .returned (.bool true) ∧ Below Y.heap.size Y w') :
    Calls Tryd.prog 7 #[.string s, .string r] w fun e w' => e = .returned (.bool true) ∧ Below w.heap.size w w' := by
  have HA := Lib.hid (hA w (Below.refl _ _))
  have HL := Lib.hid hL
  clear hL hA
  by_cases hbig : 30000 < s.size
  · have g1 : (30000 : Int) < (s.size : Int) := by omega
    clear hbig
    go_enter Tryd.func7, Tryd.ntmps7
    go_wp2_with (go_at_call 14; (with_reducible refine HA.out.mono ?_); rintro e w1 ⟨rfl, hb1⟩)
    go_ret
    exact ⟨rfl, hb1⟩
  by_cases hbig2 : 30000 < r.size
  · have g1 : ¬ (30000 : Int) < (s.size : Int) := by omega
    have g2 : (30000 : Int) < (r.size : Int) := by omega
    clear hbig hbig2
    go_enter Tryd.func7, Tryd.ntmps7
    go_wp2_with (go_at_call 14; (with_reducible refine HA.out.mono ?_); rintro e w1 ⟨rfl, hb1⟩)
    go_ret
    exact ⟨rfl, hb1⟩
  have g1 : ¬ (30000 : Int) < (s.size : Int) := by omega
  have g2 : ¬ (30000 : Int) < (r.size : Int) := by omega
  have HS := Lib.hid (show s.size ≤ 30000 ∧ r.size ≤ 30000 by omega)
  have HT : Hid (∀ W, Below w.heap.size w W → Calls Tryd.prog 11 #[.string s] W fun e w' => ∃ v, e = .returned (.tuple #[v, .int .i64 ((lexR s.data.toList).2.1 : Nat), .int .i64 ((lexR s.data.toList).2.2 : Nat)]) ∧ w'.ownsRow W.heap.size 33 4 v (lexR s.data.toList).1.length (tkRow (lexR s.data.toList).1) ∧ Below W.heap.size W w') := Lib.hid (fun W hb => tokens_any s W (by omega) (HL.out.below hb))
  have hcov := fun h => (cov_lex (l := s.data.toList) h).2
  have hlen := lex_len s.data.toList
  obtain ⟨L, hLd⟩ : ∃ L, (lexR s.data.toList).1 = L := ⟨_, rfl⟩
  obtain ⟨P, hPd⟩ : ∃ P, (lexR s.data.toList).2.1 = P := ⟨_, rfl⟩
  obtain ⟨E, hEd⟩ : ∃ E, (lexR s.data.toList).2.2 = E := ⟨_, rfl⟩
  rw [hLd, hPd, hEd] at HT
  rw [hLd, hEd] at hcov
  rw [hLd] at hlen
  clear hLd hPd hEd hbig hbig2
  by_cases hE : E = 0
  · have HCV := Lib.hid (hcov hE)
    subst hE
    have hne : ((((0 : Nat) : Int)) != 0) = false := by decide
    have HLN := Lib.hid hlen
    clear hcov hlen
    obtain ⟨U, hU⟩ : ∃ U : ByteArray, U = ⟨#[32, 32]⟩ ++ s ++ ⟨#[32, 35]⟩ ++ r := ⟨_, rfl⟩
    have hUl : U.data.toList = 32 :: 32 :: (s.data.toList ++ 32 :: 35 :: r.data.toList) := by rw [hU]; simp
    have hUs : U.size ≤ 70000 := by
      have e1 : U.data.toList.length = U.size := rfl
      have e2 : s.data.toList.length = s.size := rfl
      have e3 : r.data.toList.length = r.size := rfl
      have := HS.out
      rw [← e1, hUl]; simp only [List.length_cons, List.length_append]; omega
    have HT2 := Lib.hid (fun W (hb : Below w.heap.size w W) => tokens_any U W (by omega) (HL.out.below hb))
    have HUL := Lib.hid hUl
    have HU := Lib.hid hU
    have n1 : ¬ 9223372036854775807 < 2 + s.size := by have := HS.out; omega
    have n2 : ¬ 9223372036854775807 < 2 + s.size + 2 := by have := HS.out; omega
    have n3 : ¬ 9223372036854775807 < 2 + s.size + 2 + r.size := by have := HS.out; omega
    have hrl : r.data.toList.length = r.size := rfl
    have HRL := Lib.hid hrl
    clear hU hUl hUs hrl
    go_enter Tryd.func7, Tryd.ntmps7
    go_wp2_with (first
      | (go_at_call 14; (with_reducible refine HA.out.mono ?_); rintro e w1 ⟨rfl, hb1⟩; have HB1 := Lib.hid hb1; clear hb1)
      | (go_at_call 11; (with_reducible refine (HT.out _ HB1.out).mono ?_); rintro e w2 ⟨v, rfl, hown, hb2⟩; obtain ⟨A, cp, rfl, ht⟩ := toksAt_of hown; have HB2 := Lib.hid (HB1.out.trans (hb2.mono HB1.out.size)); have HO := Lib.hid ht; clear hb2 hown ht))
    go_loop [9] (fun vi => ∃ i : Nat, vi = .int .i64 i ∧ i ≤ r.size ∧ Hid (∀ c ∈ r.data.toList.take i, c ≠ 10)) (fun vi => r.size - (intOf vi).toNat)
    case atStart => exact ⟨0, rfl, by omega, Lib.hid (by simp)⟩
    case round =>
      obtain ⟨i, rfl, hi, HI⟩ := hrel
      by_cases hlt : i < r.size
      · obtain ⟨c, hc⟩ : ∃ c : UInt8, r[i]'hlt = c := ⟨_, rfl⟩
        have hd : r.data.toList[i]? = some c := by rw [Lib.data_getElem? r i hlt, hc]
        have z1 : (i : Int) + 1 ≤ 30000 := by have := HS.out; omega
        have HLT := Lib.hid hlt
        by_cases h10 : c.toNat = 10
        · have g10 : ((c.toNat : Int) == 10) = true := by simp; omega
          clear hd h10 n1 n2 n3
          go_wp2
          go_ret
          exact ⟨rfl, HB2.out⟩
        · have g10 : ((c.toNat : Int) == 10) = false := by simp; omega
          have HN := Lib.hid (show ∀ b ∈ r.data.toList.take (i + 1), b ≠ 10 from by
            obtain ⟨h1, h2⟩ := List.getElem?_eq_some_iff.1 hd
            rw [List.take_succ_eq_append_getElem h1, h2]
            intro b hb
            rcases List.mem_append.1 hb with hb | hb
            · exact HI.out b hb
            · simp only [List.mem_singleton] at hb
              subst hb
              intro e; apply h10; rw [e]; rfl)
          clear hd h10 n1 n2 n3
          go_wp2
          go_round
          case rel => exact ⟨i + 1, by first | rfl | go_num | (congr 1), by have := HLT.out; omega, HN⟩
          case measure => simp only [intOf]; have := HLT.out; omega
      · obtain rfl : i = r.size := by omega
        have hr10 : ∀ c ∈ r.data.toList, c ≠ 10 := by
          have := HI.out
          rwa [List.take_of_length_le (by have := HRL.out; omega)] at this
        have hX : lexR U.data.toList = (movT 2 L, 0, 0) := by
          rw [HUL.out]
          exact remark_lex HCV.out hr10 (by have := HS.out.1; have e : s.data.toList.length = s.size := rfl; omega) (by have := HS.out.2; have := HRL.out; omega) HLN.out
        have HT3 : Hid (∀ W, Below w.heap.size w W → Calls Tryd.prog 11 #[.string U] W fun e w' => ∃ v, e = .returned (.tuple #[v, .int .i64 ((0 : Nat) : Int), .int .i64 ((0 : Nat) : Int)]) ∧ w'.ownsRow W.heap.size 33 4 v (movT 2 L).length (tkRow (movT 2 L)) ∧ Below W.heap.size W w') := Lib.hid (fun W hb => by
          have := HT2.out W hb
          unfold TokensGives at this
          rw [hX] at this
          exact this)
        rw [HU.out] at HT3
        clear hr10 hX hlt
        go_wp2_with (first
          | (go_at_call 11; (with_reducible refine (HT3.out _ HB2.out).mono ?_); rintro e w4 ⟨v4, rfl, hown4, hb4⟩; obtain ⟨A4, cp4, rfl, ht4⟩ := toksAt_of hown4; have HB4 := Lib.hid (HB2.out.trans (hb4.mono HB2.out.size)); have HO4 := Lib.hid ht4; have HOL := Lib.hid (HO.out.below hb4); clear hb4 hown4 ht4)
          | (go_at_call 13; (refine (same_yes _ _ _ _ false L (movT 2 L) _ HOL.out HO4.out ⟨(same_mov 2 L).1, fun i y y' h h' => ⟨(same_mov 2 L).2 i y y' h h', fun h => by cases h⟩⟩ (by have := HLN.out; omega)).mono ?_); rintro e w5 ⟨rfl, hb5⟩))
        go_ret
        exact ⟨rfl, HB4.out.trans (hb5.mono HB4.out.size)⟩
  · have hne : ((((E : Nat) : Int)) != 0) = true := by simp; omega
    clear hcov hlen hE
    go_enter Tryd.func7, Tryd.ntmps7
    go_wp2_with (first
      | (go_at_call 14; (with_reducible refine HA.out.mono ?_); rintro e w1 ⟨rfl, hb1⟩; have HB1 := Lib.hid hb1; clear hb1)
      | (go_at_call 11; (with_reducible refine (HT.out _ HB1.out).mono ?_); rintro e w2 ⟨v, rfl, hown, hb2⟩; have HB2 := Lib.hid (HB1.out.trans (hb2.mono HB1.out.size)); clear hb2 hown))
    go_ret
    exact ⟨rfl, HB2.out⟩

theorem walk (a0 a1 : ByteArray) {q0 q1 : Prop} (w0 : q0) (w1 : q1) (W : World) (hL : laidMetH Tryd.prog Rows.lexerRemarksRow.laid W) :
    Calls Tryd.prog 7 #[.string a0, .string a1] W fun e w' => e = .returned (.bool true) ∧ Below W.heap.size W w' :=
  core a0 a1 W (laid_of W hL) (fun Y hb => lexerCovers.alive_later W Y hb hL)
end Go.Proofs.YtmehigmomhiaeaaDoor.lexerRemarks
