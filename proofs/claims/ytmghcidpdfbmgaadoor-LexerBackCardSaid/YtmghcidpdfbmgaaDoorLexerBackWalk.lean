/- The walk of LexerBack: the tokens of the text of tokens. -/
import Derived.Test.YtmghcidpdfbmgaaDoorLexBackMore
import Derived.Test.YtmghcidpdfbmgaaDoorLexLaid
import Derived.Test.YtmghcidpdfbmgaaDoorLexerCoversPlay
namespace Go.Proofs.YtmghcidpdfbmgaaDoor.lexerBack
open Go.Play Go.RowKit Go.Instr
set_option linter.unusedVariables false
set_option linter.unusedSimpArgs false

/-- What a call of Tokens gives, with the values named. -/
def TokIs (t : ByteArray) (w : World) (L : List (Tk × Nat)) (P E : Int) : Prop := ∀ W, Below w.heap.size w W → Calls Tryd.prog 7 #[.string t] W fun e w' => ∃ v, e = .returned (.tuple #[v, .int .i64 P, .int .i64 E]) ∧ w'.ownsRow W.heap.size 29 4 v L.length (tkRow L) ∧ Below W.heap.size W w'
theorem tokIs (t : ByteArray) (w : World) (ht : t.size ≤ 999999) (hL : LaidAt w) : TokIs t w (lexR t.data.toList).1 ((lexR t.data.toList).2.1 : Nat) ((lexR t.data.toList).2.2 : Nat) :=
  fun W hb => tokens_any t W ht (hL.below hb)
theorem tokIs_ok (t : ByteArray) (w : World) (M : List (Tk × Nat)) (ht : t.size ≤ 65536) (hL : LaidAt w) (h : lexR t.data.toList = (M, 0, 0)) : TokIs t w M 0 0 := by
  have := tokIs t w (by omega) hL
  rw [h] at this
  exact this
theorem sameM (A A' : Option Addr) (c c' : Nat) (M : List (Tk × Nat)) (L : List Raw) (w : World) (hA : ToksAt w A M) (hA' : RawAt w A' L) (hs : SameQ (M.map rawT) L) (hlen : M.length ≤ 20000) :
    Calls Tryd.prog 12 #[.slice A M.length c, .slice A' L.length c', .bool false] w fun e w' => e = .returned (.bool true) ∧ Below w.heap.size w w' := by
  have h := sameRaw A A' c c' (M.map rawT) L w (rawAt_toks hA) hA' hs (by rw [List.length_map]; omega)
  rw [List.length_map] at h
  exact h
theorem sameMM (A A' : Option Addr) (c c' : Nat) (M K : List (Tk × Nat)) (w : World) (hA : ToksAt w A M) (hA' : ToksAt w A' K) (hs : SameQ (M.map rawT) (K.map rawT)) (hlen : M.length ≤ 20000) :
    Calls Tryd.prog 12 #[.slice A M.length c, .slice A' K.length c', .bool false] w fun e w' => e = .returned (.bool true) ∧ Below w.heap.size w w' := by
  have h := sameM A A' c c' M (K.map rawT) w hA (rawAt_toks hA') hs hlen
  rw [List.length_map] at h
  exact h
theorem printM (A : Option Addr) (c : Nat) (K : List (Tk × Nat)) (u : ByteArray) (E : Nat) (w : World) (hA : ToksAt w A K) (ho : RawOk (K.map rawT)) (hs : ∀ y ∈ K.map rawT, y.t.size ≤ 100000) (hL : LaidAt w) (h : printR (K.map rawT) = (u, E)) :
    Calls Tryd.prog 11 #[.slice A K.length c] w fun e w' => e = .returned (.tuple #[.string u, .int .i64 (E : Nat)]) ∧ Below w.heap.size w w' := by
  have h' := print_any A c (K.map rawT) w (rawAt_toks hA) ho hs hL
  rw [List.length_map, h] at h'
  exact h'

set_option maxHeartbeats 8000000 in
set_option maxRecDepth 100000 in
theorem core (s : ByteArray) (A : Option Addr) (c : Nat) (L : List Raw) (w : World) (hR : RawAt w A L) (hk : RawOk L) (hL : LaidAt w) (hA : ∀ Y, Below w.heap.size w Y → Calls Tryd.prog 6 #[] Y fun e w' => e = .returned (.bool true) ∧ Below Y.heap.size Y w') :
    Calls Tryd.prog 4 #[.string s, .slice A L.length c] w fun e w' => e = .returned (.bool true) ∧ Below w.heap.size w w' := by
  have HA := Lib.hid (hA w (Below.refl _ _))
  by_cases hbig : 70000 < s.size
  · have g1 : (70000 : Int) < (s.size : Int) := by omega
    clear hbig hL hA hR hk
    go_enter Tryd.func4, Tryd.ntmps4
    go_wp2_with (go_at_call 6; (with_reducible refine HA.out.mono ?_); rintro e w1 ⟨rfl, hb1⟩)
    go_ret
    exact ⟨rfl, hb1⟩
  have g1 : ¬ (70000 : Int) < (s.size : Int) := by omega
  have HG := Lib.hid (fun W (hb : Below w.heap.size w W) => great_any A c L W (hR.below hb))
  cases hgr : greatR L with
  | true =>
    rw [hgr] at HG
    clear hbig hL hA hR hk hgr
    go_enter Tryd.func4, Tryd.ntmps4
    go_wp2_with (first
      | (go_at_call 6; (with_reducible refine HA.out.mono ?_); rintro e w1 ⟨rfl, hb1⟩; have HB1 := Lib.hid hb1; clear hb1)
      | (go_at_call 10; (with_reducible refine (HG.out _ HB1.out).mono ?_); rintro e w2 ⟨rfl, rfl⟩))
    go_ret
    exact ⟨rfl, HB1.out⟩
  | false =>
  rw [hgr] at HG
  obtain ⟨hf1, hf2⟩ := great_fit hgr
  have hPr : ∀ W, Below w.heap.size w W → Calls Tryd.prog 11 #[.slice A L.length c] W fun e w' => e = .returned (.tuple #[.string (printR L).1, .int .i64 ((printR L).2 : Nat)]) ∧ Below W.heap.size W w' := fun W hb => print_any A c L W (hR.below hb) hk hf2 (hL.below hb)
  have hTs := tokIs s w (by omega) hL
  have HLA := Lib.hid hL
  have HRA := Lib.hid hR
  have hss : (s.size : Int) ≤ 70000 := by omega
  have HSZ := Lib.hid (show s.data.toList.length = s.size from rfl)
  have hany := any_print hk
  have hlp := fun h => lex_print (l := s.data.toList) h
  have hlr := fun h => lex_raw (l := s.data.toList) h
  have hcap := lexR_cap s.data.toList
  obtain ⟨K, hK⟩ : ∃ K, (lexR s.data.toList).1 = K := ⟨_, rfl⟩
  obtain ⟨PP, hPP⟩ : ∃ P, (lexR s.data.toList).2.1 = P := ⟨_, rfl⟩
  obtain ⟨EE, hEE⟩ : ∃ E, (lexR s.data.toList).2.2 = E := ⟨_, rfl⟩
  rw [hK, hPP, hEE] at hTs
  rw [hK, hEE] at hlp hlr
  rw [hK] at hcap
  have kz1 : (K.length : Int) ≤ 20000 := by omega
  clear hbig hgr hf1 hf2 hL hA hR hk hK hPP hEE
  rcases hany with ⟨E, hE, hE0, hE8⟩ | ⟨u, M, hE, hu, hlex, hsq, hml⟩
  · rw [hE] at hPr
    have HPr := Lib.hid hPr
    have gE : ((E : Int) == 0) = false := by simp; omega
    clear hE hE0 hE8 hPr
    by_cases he0 : EE = 0
    · subst he0
      have hTs : TokIs s w K (PP : Nat) 0 := hTs
      unfold TokIs at hTs
      have HTs := Lib.hid hTs
      have HRK := Lib.hid (And.intro (hlr rfl).1 (hlr rfl).2.1)
      rcases hlp rfl with ⟨hpe, hlong⟩ | ⟨u2, M2, hpe, hu2, hlex2, hsq2, hml2⟩
      · obtain ⟨u2, hu2⟩ : ∃ u2 : ByteArray, u2 = ⟨#[]⟩ := ⟨_, rfl⟩
        rw [← hu2] at hpe
        have HPE := Lib.hid hpe
        have g5 : (65536 : Int) < (s.size : Int) + (K.length : Int) := by have := HSZ.out; omega
        clear hu2 hpe hlong hTs hlr hlp hcap
        go_enter Tryd.func4, Tryd.ntmps4
        go_wp2_with (first
          | (go_at_call 6; (with_reducible refine HA.out.mono ?_); rintro e w1 ⟨rfl, hb1⟩; have HB1 := Lib.hid hb1; clear hb1)
          | (go_at_call 10; (with_reducible refine (HG.out _ HB1.out).mono ?_); rintro e w2 ⟨rfl, rfl⟩)
          | (go_at_call 11; (with_reducible refine (HPr.out _ HB1.out).mono ?_); rintro e w3 ⟨rfl, hb3⟩; have HB3 := Lib.hid (HB1.out.trans (hb3.mono HB1.out.size)); clear hb3)
          | (go_at_call 7; (with_reducible refine (HTs.out _ HB3.out).mono ?_); rintro e w6 ⟨vs, rfl, hown6, hb6⟩; have HB6 := Lib.hid (HB3.out.trans (hb6.mono HB3.out.size)); obtain ⟨As, cs, rfl, hts⟩ := toksAt_of hown6; have HTAS := Lib.hid hts; clear hb6 hown6 hts)
          | (go_at_call 11; (with_reducible refine (printM As cs K u2 4 _ HTAS.out HRK.out.1 HRK.out.2 (HLA.out.below HB6.out) HPE.out).mono ?_); rintro e w7 ⟨rfl, hb7⟩; have HB7 := Lib.hid (HB6.out.trans (hb7.mono HB6.out.size)); have HTAS7 := Lib.hid (HTAS.out.below hb7); clear hb7))
        go_ret
        exact ⟨rfl, HB7.out⟩
      · have HPE := Lib.hid hpe
        have hTv := tokIs_ok u2 w M2 hu2 HLA.out hlex2
        unfold TokIs at hTv
        have HTv := Lib.hid hTv
        have HSQ2 := Lib.hid hsq2
        have HML2 := Lib.hid hml2
        clear hpe hu2 hlex2 hsq2 hml2 hTv hTs hlr hlp hcap
        go_enter Tryd.func4, Tryd.ntmps4
        go_wp2_with (first
          | (go_at_call 6; (with_reducible refine HA.out.mono ?_); rintro e w1 ⟨rfl, hb1⟩; have HB1 := Lib.hid hb1; clear hb1)
          | (go_at_call 10; (with_reducible refine (HG.out _ HB1.out).mono ?_); rintro e w2 ⟨rfl, rfl⟩)
          | (go_at_call 11; (with_reducible refine (HPr.out _ HB1.out).mono ?_); rintro e w3 ⟨rfl, hb3⟩; have HB3 := Lib.hid (HB1.out.trans (hb3.mono HB1.out.size)); clear hb3)
          | (go_at_call 7; (with_reducible refine (HTs.out _ HB3.out).mono ?_); rintro e w6 ⟨vs, rfl, hown6, hb6⟩; have HB6 := Lib.hid (HB3.out.trans (hb6.mono HB3.out.size)); obtain ⟨As, cs, rfl, hts⟩ := toksAt_of hown6; have HTAS := Lib.hid hts; clear hb6 hown6 hts)
          | (go_at_call 11; (with_reducible refine (printM As cs K u2 0 _ HTAS.out HRK.out.1 HRK.out.2 (HLA.out.below HB6.out) HPE.out).mono ?_); rintro e w7 ⟨rfl, hb7⟩; have HB7 := Lib.hid (HB6.out.trans (hb7.mono HB6.out.size)); have HTAS7 := Lib.hid (HTAS.out.below hb7); clear hb7)
          | (go_at_call 7; (with_reducible refine (HTv.out _ HB7.out).mono ?_); rintro e w8 ⟨vv, rfl, hown8, hb8⟩; have HB8 := Lib.hid (HB7.out.trans (hb8.mono HB7.out.size)); obtain ⟨Av, cv, rfl, htv⟩ := toksAt_of hown8; have HTAV := Lib.hid htv; have HTAS8 := Lib.hid (HTAS7.out.below hb8); clear hb8 hown8 htv)
          | (go_at_call 12; (with_reducible refine (sameMM Av As cv cs M2 K _ HTAV.out HTAS8.out HSQ2.out HML2.out).mono ?_); rintro e w9 ⟨rfl, hb9⟩; have HB9 := Lib.hid (HB8.out.trans (hb9.mono HB8.out.size)); clear hb9))
        go_ret
        exact ⟨rfl, HB9.out⟩
    · have ge : ((EE : Int) != 0) = true := by simp; omega
      unfold TokIs at hTs
      have HTs := Lib.hid hTs
      clear hTs hlr hlp hcap he0
      go_enter Tryd.func4, Tryd.ntmps4
      go_wp2_with (first
        | (go_at_call 6; (with_reducible refine HA.out.mono ?_); rintro e w1 ⟨rfl, hb1⟩; have HB1 := Lib.hid hb1; clear hb1)
        | (go_at_call 10; (with_reducible refine (HG.out _ HB1.out).mono ?_); rintro e w2 ⟨rfl, rfl⟩)
        | (go_at_call 11; (with_reducible refine (HPr.out _ HB1.out).mono ?_); rintro e w3 ⟨rfl, hb3⟩; have HB3 := Lib.hid (HB1.out.trans (hb3.mono HB1.out.size)); clear hb3)
        | (go_at_call 7; (with_reducible refine (HTs.out _ HB3.out).mono ?_); rintro e w6 ⟨vs, rfl, hown6, hb6⟩; have HB6 := Lib.hid (HB3.out.trans (hb6.mono HB3.out.size)); obtain ⟨As, cs, rfl, hts⟩ := toksAt_of hown6; have HTAS := Lib.hid hts; clear hb6 hown6 hts))
      go_ret
      exact ⟨rfl, HB6.out⟩
  · rw [hE] at hPr
    have HPr := Lib.hid hPr
    have hTu := tokIs_ok u w M hu HLA.out hlex
    unfold TokIs at hTu
    have HTu := Lib.hid hTu
    have HSQ := Lib.hid hsq
    have HML := Lib.hid hml
    clear hE hu hlex hsq hml hPr hTu
    by_cases he0 : EE = 0
    · subst he0
      have hTs : TokIs s w K (PP : Nat) 0 := hTs
      unfold TokIs at hTs
      have HTs := Lib.hid hTs
      have HRK := Lib.hid (And.intro (hlr rfl).1 (hlr rfl).2.1)
      rcases hlp rfl with ⟨hpe, hlong⟩ | ⟨u2, M2, hpe, hu2, hlex2, hsq2, hml2⟩
      · obtain ⟨u2, hu2⟩ : ∃ u2 : ByteArray, u2 = ⟨#[]⟩ := ⟨_, rfl⟩
        rw [← hu2] at hpe
        have HPE := Lib.hid hpe
        have g5 : (65536 : Int) < (s.size : Int) + (K.length : Int) := by have := HSZ.out; omega
        clear hu2 hpe hlong hTs hlr hlp hcap
        go_enter Tryd.func4, Tryd.ntmps4
        go_wp2_with (first
          | (go_at_call 6; (with_reducible refine HA.out.mono ?_); rintro e w1 ⟨rfl, hb1⟩; have HB1 := Lib.hid hb1; clear hb1)
          | (go_at_call 10; (with_reducible refine (HG.out _ HB1.out).mono ?_); rintro e w2 ⟨rfl, rfl⟩)
          | (go_at_call 11; (with_reducible refine (HPr.out _ HB1.out).mono ?_); rintro e w3 ⟨rfl, hb3⟩; have HB3 := Lib.hid (HB1.out.trans (hb3.mono HB1.out.size)); clear hb3)
          | (go_at_call 7; (with_reducible refine (HTu.out _ HB3.out).mono ?_); rintro e w4 ⟨vu, rfl, hown, hb4⟩; have HB4 := Lib.hid (HB3.out.trans (hb4.mono HB3.out.size)); obtain ⟨Au, cu, rfl, htu⟩ := toksAt_of hown; have HTA := Lib.hid htu; clear hb4 hown htu)
          | (go_at_call 12; (with_reducible refine (sameM Au A cu c M L _ HTA.out (HRA.out.below HB4.out) HSQ.out HML.out).mono ?_); rintro e w5 ⟨rfl, hb5⟩; have HB5 := Lib.hid (HB4.out.trans (hb5.mono HB4.out.size)); clear hb5)
          | (go_at_call 7; (with_reducible refine (HTs.out _ HB5.out).mono ?_); rintro e w6 ⟨vs, rfl, hown6, hb6⟩; have HB6 := Lib.hid (HB5.out.trans (hb6.mono HB5.out.size)); obtain ⟨As, cs, rfl, hts⟩ := toksAt_of hown6; have HTAS := Lib.hid hts; clear hb6 hown6 hts)
          | (go_at_call 11; (with_reducible refine (printM As cs K u2 4 _ HTAS.out HRK.out.1 HRK.out.2 (HLA.out.below HB6.out) HPE.out).mono ?_); rintro e w7 ⟨rfl, hb7⟩; have HB7 := Lib.hid (HB6.out.trans (hb7.mono HB6.out.size)); have HTAS7 := Lib.hid (HTAS.out.below hb7); clear hb7))
        go_ret
        exact ⟨rfl, HB7.out⟩
      · have HPE := Lib.hid hpe
        have hTv := tokIs_ok u2 w M2 hu2 HLA.out hlex2
        unfold TokIs at hTv
        have HTv := Lib.hid hTv
        have HSQ2 := Lib.hid hsq2
        have HML2 := Lib.hid hml2
        clear hpe hu2 hlex2 hsq2 hml2 hTv hTs hlr hlp hcap
        go_enter Tryd.func4, Tryd.ntmps4
        go_wp2_with (first
          | (go_at_call 6; (with_reducible refine HA.out.mono ?_); rintro e w1 ⟨rfl, hb1⟩; have HB1 := Lib.hid hb1; clear hb1)
          | (go_at_call 10; (with_reducible refine (HG.out _ HB1.out).mono ?_); rintro e w2 ⟨rfl, rfl⟩)
          | (go_at_call 11; (with_reducible refine (HPr.out _ HB1.out).mono ?_); rintro e w3 ⟨rfl, hb3⟩; have HB3 := Lib.hid (HB1.out.trans (hb3.mono HB1.out.size)); clear hb3)
          | (go_at_call 7; (with_reducible refine (HTu.out _ HB3.out).mono ?_); rintro e w4 ⟨vu, rfl, hown, hb4⟩; have HB4 := Lib.hid (HB3.out.trans (hb4.mono HB3.out.size)); obtain ⟨Au, cu, rfl, htu⟩ := toksAt_of hown; have HTA := Lib.hid htu; clear hb4 hown htu)
          | (go_at_call 12; (with_reducible refine (sameM Au A cu c M L _ HTA.out (HRA.out.below HB4.out) HSQ.out HML.out).mono ?_); rintro e w5 ⟨rfl, hb5⟩; have HB5 := Lib.hid (HB4.out.trans (hb5.mono HB4.out.size)); clear hb5)
          | (go_at_call 7; (with_reducible refine (HTs.out _ HB5.out).mono ?_); rintro e w6 ⟨vs, rfl, hown6, hb6⟩; have HB6 := Lib.hid (HB5.out.trans (hb6.mono HB5.out.size)); obtain ⟨As, cs, rfl, hts⟩ := toksAt_of hown6; have HTAS := Lib.hid hts; clear hb6 hown6 hts)
          | (go_at_call 11; (with_reducible refine (printM As cs K u2 0 _ HTAS.out HRK.out.1 HRK.out.2 (HLA.out.below HB6.out) HPE.out).mono ?_); rintro e w7 ⟨rfl, hb7⟩; have HB7 := Lib.hid (HB6.out.trans (hb7.mono HB6.out.size)); have HTAS7 := Lib.hid (HTAS.out.below hb7); clear hb7)
          | (go_at_call 7; (with_reducible refine (HTv.out _ HB7.out).mono ?_); rintro e w8 ⟨vv, rfl, hown8, hb8⟩; have HB8 := Lib.hid (HB7.out.trans (hb8.mono HB7.out.size)); obtain ⟨Av, cv, rfl, htv⟩ := toksAt_of hown8; have HTAV := Lib.hid htv; have HTAS8 := Lib.hid (HTAS7.out.below hb8); clear hb8 hown8 htv)
          | (go_at_call 12; (with_reducible refine (sameMM Av As cv cs M2 K _ HTAV.out HTAS8.out HSQ2.out HML2.out).mono ?_); rintro e w9 ⟨rfl, hb9⟩; have HB9 := Lib.hid (HB8.out.trans (hb9.mono HB8.out.size)); clear hb9))
        go_ret
        exact ⟨rfl, HB9.out⟩
    · have ge : ((EE : Int) != 0) = true := by simp; omega
      unfold TokIs at hTs
      have HTs := Lib.hid hTs
      clear hTs hlr hlp hcap he0
      go_enter Tryd.func4, Tryd.ntmps4
      go_wp2_with (first
        | (go_at_call 6; (with_reducible refine HA.out.mono ?_); rintro e w1 ⟨rfl, hb1⟩; have HB1 := Lib.hid hb1; clear hb1)
        | (go_at_call 10; (with_reducible refine (HG.out _ HB1.out).mono ?_); rintro e w2 ⟨rfl, rfl⟩)
        | (go_at_call 11; (with_reducible refine (HPr.out _ HB1.out).mono ?_); rintro e w3 ⟨rfl, hb3⟩; have HB3 := Lib.hid (HB1.out.trans (hb3.mono HB1.out.size)); clear hb3)
        | (go_at_call 7; (with_reducible refine (HTu.out _ HB3.out).mono ?_); rintro e w4 ⟨vu, rfl, hown, hb4⟩; have HB4 := Lib.hid (HB3.out.trans (hb4.mono HB3.out.size)); obtain ⟨Au, cu, rfl, htu⟩ := toksAt_of hown; have HTA := Lib.hid htu; clear hb4 hown htu)
        | (go_at_call 12; (with_reducible refine (sameM Au A cu c M L _ HTA.out (HRA.out.below HB4.out) HSQ.out HML.out).mono ?_); rintro e w5 ⟨rfl, hb5⟩; have HB5 := Lib.hid (HB4.out.trans (hb5.mono HB4.out.size)); clear hb5)
        | (go_at_call 7; (with_reducible refine (HTs.out _ HB5.out).mono ?_); rintro e w6 ⟨vs, rfl, hown6, hb6⟩; have HB6 := Lib.hid (HB5.out.trans (hb6.mono HB5.out.size)); obtain ⟨As, cs, rfl, hts⟩ := toksAt_of hown6; have HTAS := Lib.hid hts; clear hb6 hown6 hts))
      go_ret
      exact ⟨rfl, HB6.out⟩

set_option maxRecDepth 100000 in
theorem walk (a0 : ByteArray) (v1 : Value) {q0 : Prop} (w0 : q0) {W : World} {H : Type} {enc : TypeId × Value → H} {base : Nat} {d1 : DataW H} {p1 : List MemPlace} (ok1 : Value.okWide Tryd.prog W .any base 23 v1)
    (h1 : DataW.Trod enc Tryd.prog W 0 (fun _ => true) true 23 v1 d1 p1) (hL : laidMetH Tryd.prog Rows.lexerBackRow.laid W) :
    Calls Tryd.prog 4 #[.string a0, v1] W fun e w' => e = .returned (.bool true) ∧ Below W.heap.size W w' := by
  obtain ⟨A, c, L, rfl, hR, hk, _⟩ := open_raw ok1 h1
  exact core a0 A c L W hR hk (laid_of W hL) (fun Y hb => lexerCovers.alive_later W Y hb hL)
end Go.Proofs.YtmghcidpdfbmgaaDoor.lexerBack
