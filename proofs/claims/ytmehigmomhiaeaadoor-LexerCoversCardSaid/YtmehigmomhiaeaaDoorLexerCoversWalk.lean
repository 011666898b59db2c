/- The walk of LexerCovers: the tokens cover the text. -/
import Derived.Test.YtmehigmomhiaeaaDoorLexGap
import Derived.Test.YtmehigmomhiaeaaDoorLexLaid
import Derived.Test.YtmehigmomhiaeaaDoorLexerCoversPlay
namespace Go.Proofs.YtmehigmomhiaeaaDoor.lexerCovers
open Go.Play Go.RowKit
set_option linter.unusedVariables false
set_option linter.unusedSimpArgs false

set_option maxHeartbeats 4000000 in
set_option maxRecDepth 100000 in
theorem core (s : ByteArray) (w : World) (hL : LaidAt w) (hA : ∀ Y, Below w.heap.size w Y → Calls Tryd.prog 14 #[] Y fun e w' => e = .returned (.bool true) ∧ Below Y.heap.size Y w') :
    Calls Tryd.prog 4 #[.string s] w fun e w' => e = .returned (.bool true) ∧ Below w.heap.size w w' := by
  have HA := Lib.hid (hA w (Below.refl _ _))
  have HL := Lib.hid hL
  clear hL hA
  by_cases hbig : 70000 < s.size
  · have g1 : (70000 : Int) < (s.size : Int) := by omega
    clear hbig
    go_enter Tryd.func4, Tryd.ntmps4
    go_wp2_with (go_at_call 14; (with_reducible refine HA.out.mono ?_); rintro e w1 ⟨rfl, hb1⟩)
    go_ret
    exact ⟨rfl, hb1⟩
  have g1 : ¬ (70000 : Int) < (s.size : Int) := by omega
  have HS := Lib.hid (show s.size ≤ 70000 by omega)
  have HT : Hid (∀ W, Below w.heap.size w W → Calls Tryd.prog 11 #[.string s] W fun e w' => ∃ v, e = .returned (.tuple #[v, .int .i64 ((lexR s.data.toList).2.1 : Nat), .int .i64 ((lexR s.data.toList).2.2 : Nat)]) ∧ w'.ownsRow W.heap.size 33 4 v (lexR s.data.toList).1.length (tkRow (lexR s.data.toList).1) ∧ Below W.heap.size W w') := Lib.hid (fun W hb => tokens_any s W (by omega) (HL.out.below hb))
  have hcov := fun h => (cov_lex (l := s.data.toList) h).2
  have herr := lex_err (l := s.data.toList)
  have hlen := lex_len s.data.toList
  obtain ⟨L, hLd⟩ : ∃ L, (lexR s.data.toList).1 = L := ⟨_, rfl⟩
  obtain ⟨P, hPd⟩ : ∃ P, (lexR s.data.toList).2.1 = P := ⟨_, rfl⟩
  obtain ⟨E, hEd⟩ : ∃ E, (lexR s.data.toList).2.2 = E := ⟨_, rfl⟩
  rw [hLd, hPd, hEd] at HT
  rw [hLd, hEd] at hcov herr
  rw [hLd] at hlen
  clear hLd hPd hEd hbig
  by_cases hE : E = 0
  · have hcv := Lib.hid (hcov hE)
    subst hE
    have hne : ((((0 : Nat) : Int)) != 0) = false := by decide
    clear hcov herr
    go_enter Tryd.func4, Tryd.ntmps4
    go_wp2_with (first
      | (go_at_call 14; (with_reducible refine HA.out.mono ?_); rintro e w1 ⟨rfl, hb1⟩; have HB1 := Lib.hid hb1; clear hb1)
      | (go_at_call 11; (with_reducible refine (HT.out _ HB1.out).mono ?_); rintro e w2 ⟨v, rfl, hown, hb2⟩; obtain ⟨A, cp, rfl, ht⟩ := toksAt_of hown; have HB2 := Lib.hid (HB1.out.trans (hb2.mono HB1.out.size)); have HO := Lib.hid ht; clear hb2 hown ht))
    go_loopw [7, 8] (fun va vi wr => ∃ (a i : Nat), va = .int .i64 a ∧ vi = .int .i64 i ∧ i ≤ L.length ∧ Hid (Cov s.data.toList a (L.drop i)) ∧ Hid (ToksAt wr A L) ∧ Below w.heap.size w wr) (fun _ vi _ => L.length - (intOf vi).toNat)
    case atStart => exact ⟨0, 0, rfl, rfl, by omega, Lib.hid (by rw [List.drop_zero]; exact hcv.out), HO, HB2.out⟩
    case round =>
      obtain ⟨a, i, rfl, rfl, hi, HC, HTK, hbr⟩ := hrel
      have HBR := Lib.hid hbr
      clear hbr
      by_cases hlt : i < L.length
      · obtain ⟨y, hy⟩ : ∃ y, L[i]? = some y := ⟨_, List.getElem?_eq_getElem hlt⟩
        obtain ⟨x, p⟩ := y
        have hdr : L.drop i = (x, p) :: L.drop (i + 1) := by
          obtain ⟨h1, h2⟩ := List.getElem?_eq_some_iff.1 hy
          rw [List.drop_eq_getElem_cons h1, h2]
        have hc := HC.out
        rw [hdr] at hc
        obtain ⟨s1, s2, s3, s4, s5, s6, s7⟩ := cov_next hc
        obtain ⟨g, rfl, hg, t0, t1, t2, t3⟩ := HTK.out i (x, p) hy
        have HW := Lib.hid (fun W => lwritten_any x (p : Int) W (by have := HS.out; omega))
        obtain ⟨B, hB⟩ : ∃ B : ByteArray, wrB x = B := ⟨_, rfl⟩
        rw [hB] at HW s2 s3 s5 s7
        have HG := Lib.hid (fun W => gap_any (s.extract a p) W (by rw [ByteArray.size_extract]; have := HS.out; omega))
        rw [s6] at HG
        have HX := Lib.hid (And.intro s5 s7)
        have z1 : (a : Int) ≤ (p : Int) := by omega
        have z2 : (p : Int) + (B.size : Int) ≤ (s.size : Int) := by omega
        have z3 : 1 ≤ (B.size : Int) := by omega
        have z4 : (s.size : Int) ≤ 70000 := by have := HS.out; omega
        clear hdr hc s1 s2 s3 s4 s5 s6 s7 hB hy
        go_wp2_with (first
          | (go_at_call 15; (with_reducible refine (HW.out _).mono ?_); rintro e w5 ⟨rfl, hb5⟩; have HB5 := Lib.hid hb5; obtain ⟨q3⟩ : PLift (w5.cell? ⟨g, i * 4 + 3, none⟩ = some (.int .i64 (p : Nat))) := (PLift.up (by rw [hb5.cell hg]; exact t3)); have s5 := HX.out.1; clear hb5 t0 t1 t2 t3))
        obtain ⟨d1, d2, d4, d5, d5a, d5b, d5c, d1a, d2a⟩ : decide ((p : Int) < (a : Int)) = false ∧ decide ((s.size : Int) < (p : Int)) = false ∧ decide ((s.size : Int) - (p : Int) < (B.size : Int)) = false ∧ decide ((B.size : Int) < 1) = false ∧ decide (B.size < 1) = false ∧ ¬ B.size = 0 ∧ decide (B.size = 0) = false ∧ decide (p < a) = false ∧ decide (s.size < p) = false := by
          exact ⟨decide_eq_false (show ¬ (p : Int) < (a : Int) by omega), decide_eq_false (show ¬ (s.size : Int) < (p : Int) by omega), decide_eq_false (show ¬ (s.size : Int) - (p : Int) < (B.size : Int) by omega), decide_eq_false (show ¬ (B.size : Int) < 1 by omega), decide_eq_false (show ¬ B.size < 1 by omega), by omega, decide_eq_false (show ¬ B.size = 0 by omega), decide_eq_false (show ¬ p < a by omega), decide_eq_false (show ¬ s.size < p by omega)⟩
        have z7 : (i : Int) + 1 ≤ 20000 := by omega
        have z5 : (p : Int) ≤ (s.size : Int) := by omega
        have z6 : (p : Int) ≤ (p : Int) + (B.size : Int) := by omega
        have d7 : ((p : Int) + (B.size : Int)).toNat = p + B.size := by omega
        have hd3 := IntWalk.i64_in ((s.size : Int) - (p : Int)) (by omega)
        have d6 := IntWalk.i64_in ((p : Int) + (B.size : Int)) (by omega)
        have d3 := hd3
        clear hd3
        go_quiet ((go_at_call 16; exact quiet_left (HG.out _)))
        go_wp2
        have HS5 := Lib.hid (And.intro hlt hlen)
        clear d1 d2 d3 d4 d5 d5a d5b d5c d1a d2a d6 d7 z1 z2 z3 z4 z5 z6
        go_roundw
        case rel => exact ⟨p + B.size, i + 1, by first | rfl | go_num | (congr 1), by first | rfl | go_num | (congr 1), by have := HS5.out; omega, Lib.hid HX.out.2, Lib.hid ((HTK.out.below HB5.out).below (drewN_below _ _)), (HBR.out.trans (HB5.out.mono HBR.out.size)).trans (drewN_below _ _ |>.mono (HBR.out.trans (HB5.out.mono HBR.out.size)).size)⟩
        case measure => simp only [intOf]; have := HS5.out; omega
      · obtain rfl : i = L.length := by omega
        have hc := HC.out
        rw [List.drop_of_length_le (Nat.le_refl _)] at hc
        obtain ⟨s1, s2⟩ := cov_end hc
        have HG := Lib.hid (fun W => gap_any (s.extract a s.size) W (by rw [ByteArray.size_extract]; have := HS.out; omega))
        rw [s2] at HG
        have z1 : (a : Int) ≤ (s.size : Int) := by omega
        have z4 : (s.size : Int) ≤ 70000 := by have := HS.out; omega
        have z5 : (L.length : Int) ≤ 20000 := by omega
        clear hc s1 s2 hlen
        go_wp2_with (go_at_call 16; (with_reducible refine (HG.out _).mono ?_); rintro e w6 ⟨rfl, rfl⟩)
        go_ret
        exact ⟨rfl, HBR.out⟩
  · have hL0 := herr hE
    subst hL0
    have hne : ((((E : Nat) : Int)) != 0) = true := by simp; omega
    clear hcov herr hlen hE
    go_enter Tryd.func4, Tryd.ntmps4
    go_wp2_with (first
      | (go_at_call 14; (with_reducible refine HA.out.mono ?_); rintro e w1 ⟨rfl, hb1⟩; have HB1 := Lib.hid hb1; clear hb1)
      | (go_at_call 11; (with_reducible refine (HT.out _ HB1.out).mono ?_); rintro e w2 ⟨v, rfl, hown, hb2⟩; obtain ⟨A, cp, rfl, ht⟩ := toksAt_of hown; have HB2 := Lib.hid (HB1.out.trans (hb2.mono HB1.out.size)); clear hb2 hown ht))
    go_ret
    exact ⟨rfl, HB2.out⟩

theorem walk (a0 : ByteArray) {q0 : Prop} (w0 : q0) (W : World) (hL : laidMetH Tryd.prog Rows.lexerCoversRow.laid W) :
    Calls Tryd.prog 4 #[.string a0] W fun e w' => e = .returned (.bool true) ∧ Below W.heap.size W w' :=
  core a0 W (laid_of W hL) (fun Y hb => alive_later W Y hb hL)
end Go.Proofs.YtmehigmomhiaeaaDoor.lexerCovers
