/- The walk of LexerJoins: the tokens of two texts with a line feed between them. -/
import Derived.Test.YtmehigmomhiaeaaDoorLexSame
import Derived.Test.YtmehigmomhiaeaaDoorLexJoinMath
import Derived.Test.YtmehigmomhiaeaaDoorLexLaid
import Derived.Test.YtmehigmomhiaeaaDoorLexSrc
import Derived.Test.YtmehigmomhiaeaaDoorLexerCoversPlay
import Derived.OwnWalk
import Derived.Laws.OwnMore
import Derived.Deep.AppendLies
namespace Go.Proofs.YtmehigmomhiaeaaDoor.lexerJoins
open Go.Play Go.RowKit Go.Instr
set_option linter.unusedVariables false
set_option linter.unusedSimpArgs false

/-- What a call of Tokens gives, with the values named. -/
def TokIs (t : ByteArray) (w : World) (L : List (Tk × Nat)) (P E : Int) : Prop := ∀ W, Below w.heap.size w W → Calls Tryd.prog 11 #[.string t] W fun e w' => ∃ v, e = .returned (.tuple #[v, .int .i64 P, .int .i64 E]) ∧ w'.ownsRow W.heap.size 33 4 v L.length (tkRow L) ∧ Below W.heap.size W w'
theorem tokIs (t : ByteArray) (w : World) (ht : t.size ≤ 999999) (hL : LaidAt w) : TokIs t w (lexR t.data.toList).1 ((lexR t.data.toList).2.1 : Nat) ((lexR t.data.toList).2.2 : Nat) :=
  fun W hb => tokens_any t W ht (hL.below hb)

theorem same_self (q : Bool) (L : List (Tk × Nat)) : SameP q L L := ⟨rfl, fun i y y' h h' => by
  rw [h] at h'; cases h'; exact ⟨rfl, fun _ => rfl⟩⟩
theorem own_keep {w w' : World} {B n : Nat} {v : Value} {xs : List Value} (h : w.ownsRow B 33 4 v n xs) (hb : Below w.heap.size w w') : w'.ownsRow B 33 4 v n xs :=
  h.kept (grown_below (row := none) hb) (by by_cases e : v.ownBlock = none; exact .inl e; exact .inr e)
theorem movT_snoc {k i : Nat} {M : List (Tk × Nat)} {y : Tk × Nat} (h : M[i]? = some y) : movT k (M.take (i + 1)) = movT k (M.take i) ++ [(y.1, k + y.2)] := by
  rw [List.take_add_one, h]; simp [movT]
theorem emptyRow (w : World) (B : Nat) (hB : B ≤ w.heap.size) : (w.alloc (.cells #[] 33)).ownsRow B 33 4 (.slice (some ⟨w.heap.size, 0, none⟩) 0 0) 0 [] :=
  ⟨rfl, .inr ⟨_, 0, #[], rfl, hB, (MapKept.heap_alloc w (.cells #[] 33)).1, Nat.le_refl _, by unfold maxLen; omega, rfl, rfl⟩⟩

set_option maxHeartbeats 4000000 in
set_option maxRecDepth 100000 in
theorem core (s r : ByteArray) (w : World) (hL : LaidAt w) (hA : ∀ Y, Below w.heap.size w Y → Calls Tryd.prog 14 #[] Y fun e w' => e = .returned (.bool true) ∧ Below Y.heap.size Y w') :
    Calls Tryd.prog 6 #[.string s, .string r] w fun e w' => e = .returned (.bool true) ∧ Below w.heap.size w w' := by
  have HA := Lib.hid (hA w (Below.refl _ _))
  by_cases hbig : 15000 < s.size
  · have g1 : (15000 : Int) < (s.size : Int) := by omega
    clear hbig hL hA
    go_enter Tryd.func6, Tryd.ntmps6
    go_wp2_with (go_at_call 14; (with_reducible refine HA.out.mono ?_); rintro e w1 ⟨rfl, hb1⟩)
    go_ret
    exact ⟨rfl, hb1⟩
  by_cases hbig2 : 15000 < r.size
  · have g1 : ¬ (15000 : Int) < (s.size : Int) := by omega
    have g2 : (15000 : Int) < (r.size : Int) := by omega
    clear hbig hbig2 hL hA
    go_enter Tryd.func6, Tryd.ntmps6
    go_wp2_with (go_at_call 14; (with_reducible refine HA.out.mono ?_); rintro e w1 ⟨rfl, hb1⟩)
    go_ret
    exact ⟨rfl, hb1⟩
  have g1 : ¬ (15000 : Int) < (s.size : Int) := by omega
  have g2 : ¬ (15000 : Int) < (r.size : Int) := by omega
  have HS := Lib.hid (show s.size ≤ 15000 ∧ r.size ≤ 15000 by omega)
  obtain ⟨J, hJ⟩ : ∃ J : ByteArray, J = s ++ ⟨#[10]⟩ ++ r := ⟨_, rfl⟩
  have hJl : J.data.toList = s.data.toList ++ 10 :: r.data.toList := by rw [hJ]; simp
  have hJs : J.size ≤ 70000 := by
    have e1 : J.data.toList.length = J.size := rfl
    have e2 : s.data.toList.length = s.size := rfl
    have e3 : r.data.toList.length = r.size := rfl
    rw [← e1, hJl]; simp only [List.length_cons, List.length_append]; omega
  have hTa := tokIs s w (by omega) hL
  have hTb := tokIs r w (by omega) hL
  have hTJ := tokIs J w (by omega) hL
  have hm := join_lex (a := s.data.toList) (b := r.data.toList) (by have e2 : s.data.toList.length = s.size := rfl; omega) (by have e3 : r.data.toList.length = r.size := rfl; omega)
  rw [← hJl] at hm
  have hsl : s.data.toList.length = s.size := rfl
  rw [hsl] at hm
  clear hJl hJs hbig hbig2 hL hA hsl
  have n1 : ¬ 9223372036854775807 < s.size + 1 := by have := HS.out; omega
  have n2 : ¬ 9223372036854775807 < s.size + 1 + r.size := by have := HS.out; omega
  rcases hm with ⟨q, h1, h2⟩ | ⟨L, h1, hL15, hm⟩
  · have hTa : TokIs s w [] (q : Nat) 12 := by rw [h1] at hTa; exact hTa
    have hTJ : TokIs J w [] (q : Nat) 12 := by rw [h2] at hTJ; exact hTJ
    generalize (lexR r.data.toList).1 = Lb at hTb
    generalize (lexR r.data.toList).2.1 = Pb at hTb
    generalize (lexR r.data.toList).2.2 = Eb at hTb
    unfold TokIs at hTa hTb hTJ
    have HTa := Lib.hid hTa
    have HTb := Lib.hid hTb
    rw [hJ] at hTJ
    have HTJ := Lib.hid hTJ
    clear hTa hTb hTJ hJ h1 h2
    go_enter Tryd.func6, Tryd.ntmps6
    go_wp2_with (first
      | (go_at_call 14; (with_reducible refine HA.out.mono ?_); rintro e w1 ⟨rfl, hb1⟩; have HB1 := Lib.hid hb1; clear hb1)
      | (go_at_call 11; (with_reducible refine (HTa.out _ HB1.out).mono ?_); rintro e w2 ⟨va, rfl, hown, hb2⟩; have HB2 := Lib.hid (HB1.out.trans (hb2.mono HB1.out.size)); obtain ⟨A, cp, rfl, ht⟩ := toksAt_of hown; have HO := Lib.hid ht; clear hb2 hown ht)
      | (go_at_call 11; (with_reducible refine (HTb.out _ HB2.out).mono ?_); rintro e w3 ⟨vb, rfl, hown3, hb3⟩; have HB3 := Lib.hid (HB2.out.trans (hb3.mono HB2.out.size)); obtain ⟨A3, cp3, rfl, ht3⟩ := toksAt_of hown3; have HO3 := Lib.hid ht3; have HOa3 := Lib.hid (HO.out.below hb3); clear hb3 hown3 ht3)
      | (go_at_call 11; (with_reducible refine (HTJ.out _ HB3.out).mono ?_); rintro e w4 ⟨vj, rfl, hown4, hb4⟩; have HB4 := Lib.hid (HB3.out.trans (hb4.mono HB3.out.size)); obtain ⟨A4, cp4, rfl, ht4⟩ := toksAt_of hown4; have HO4 := Lib.hid ht4; have HOa4 := Lib.hid (HOa3.out.below hb4); have HOb4 := Lib.hid (HO3.out.below hb4); clear hb4 hown4 ht4))
    go_ret
    exact ⟨rfl, HB4.out⟩
  have hTa : TokIs s w L 0 0 := by rw [h1] at hTa; exact hTa
  rcases hm with ⟨q, h2, hqr, hm⟩ | ⟨M, h2, hM15, hMp, hm⟩
  · have hTb : TokIs r w [] (q : Nat) 12 := by rw [h2] at hTb; exact hTb
    rcases hm with hm | hm
    · have hTJ : TokIs J w [] ((s.size : Int) + 1 + (q : Nat)) 12 := by rw [hm] at hTJ; exact hTJ
      have hq : (q : Int) ≤ 15000 := by have e3 : r.data.toList.length = r.size := rfl; have := HS.out; omega
      unfold TokIs at hTa hTb hTJ
      have HTa := Lib.hid hTa
      have HTb := Lib.hid hTb
      rw [hJ] at hTJ
      have HTJ := Lib.hid hTJ
      clear hTa hTb hTJ hJ h1 h2 hm hqr
      go_enter Tryd.func6, Tryd.ntmps6
      go_wp2_with (first
        | (go_at_call 14; (with_reducible refine HA.out.mono ?_); rintro e w1 ⟨rfl, hb1⟩; have HB1 := Lib.hid hb1; clear hb1)
        | (go_at_call 11; (with_reducible refine (HTa.out _ HB1.out).mono ?_); rintro e w2 ⟨va, rfl, hown, hb2⟩; have HB2 := Lib.hid (HB1.out.trans (hb2.mono HB1.out.size)); obtain ⟨A, cp, rfl, ht⟩ := toksAt_of hown; have HO := Lib.hid ht; clear hb2 hown ht)
        | (go_at_call 11; (with_reducible refine (HTb.out _ HB2.out).mono ?_); rintro e w3 ⟨vb, rfl, hown3, hb3⟩; have HB3 := Lib.hid (HB2.out.trans (hb3.mono HB2.out.size)); obtain ⟨A3, cp3, rfl, ht3⟩ := toksAt_of hown3; have HO3 := Lib.hid ht3; have HOa3 := Lib.hid (HO.out.below hb3); clear hb3 hown3 ht3)
        | (go_at_call 11; (with_reducible refine (HTJ.out _ HB3.out).mono ?_); rintro e w4 ⟨vj, rfl, hown4, hb4⟩; have HB4 := Lib.hid (HB3.out.trans (hb4.mono HB3.out.size)); obtain ⟨A4, cp4, rfl, ht4⟩ := toksAt_of hown4; have HO4 := Lib.hid ht4; have HOa4 := Lib.hid (HOa3.out.below hb4); have HOb4 := Lib.hid (HO3.out.below hb4); clear hb4 hown4 ht4))
      go_ret
      exact ⟨rfl, HB4.out⟩
    · rw [hm] at hTJ
      generalize (lexR J.data.toList).1 = LJ at hTJ
      generalize (lexR J.data.toList).2.1 = PJ at hTJ
      have hTJ : TokIs J w LJ (PJ : Nat) 4 := hTJ
      unfold TokIs at hTa hTb hTJ
      have HTa := Lib.hid hTa
      have HTb := Lib.hid hTb
      rw [hJ] at hTJ
      have HTJ := Lib.hid hTJ
      clear hTa hTb hTJ hJ h1 h2 hm hqr
      go_enter Tryd.func6, Tryd.ntmps6
      go_wp2_with (first
        | (go_at_call 14; (with_reducible refine HA.out.mono ?_); rintro e w1 ⟨rfl, hb1⟩; have HB1 := Lib.hid hb1; clear hb1)
        | (go_at_call 11; (with_reducible refine (HTa.out _ HB1.out).mono ?_); rintro e w2 ⟨va, rfl, hown, hb2⟩; have HB2 := Lib.hid (HB1.out.trans (hb2.mono HB1.out.size)); obtain ⟨A, cp, rfl, ht⟩ := toksAt_of hown; have HO := Lib.hid ht; clear hb2 hown ht)
        | (go_at_call 11; (with_reducible refine (HTb.out _ HB2.out).mono ?_); rintro e w3 ⟨vb, rfl, hown3, hb3⟩; have HB3 := Lib.hid (HB2.out.trans (hb3.mono HB2.out.size)); obtain ⟨A3, cp3, rfl, ht3⟩ := toksAt_of hown3; have HO3 := Lib.hid ht3; have HOa3 := Lib.hid (HO.out.below hb3); clear hb3 hown3 ht3)
        | (go_at_call 11; (with_reducible refine (HTJ.out _ HB3.out).mono ?_); rintro e w4 ⟨vj, rfl, hown4, hb4⟩; have HB4 := Lib.hid (HB3.out.trans (hb4.mono HB3.out.size)); obtain ⟨A4, cp4, rfl, ht4⟩ := toksAt_of hown4; have HO4 := Lib.hid ht4; have HOa4 := Lib.hid (HOa3.out.below hb4); have HOb4 := Lib.hid (HO3.out.below hb4); clear hb4 hown4 ht4))
      go_ret
      exact ⟨rfl, HB4.out⟩
  · have hTb : TokIs r w M 0 0 := by rw [h2] at hTb; exact hTb
    rcases hm with ⟨hm, hcnt⟩ | hm
    · rw [hm] at hTJ
      generalize (lexR J.data.toList).1 = LJ at hTJ
      generalize (lexR J.data.toList).2.1 = PJ at hTJ
      have hTJ : TokIs J w LJ (PJ : Nat) 4 := hTJ
      have z1 : (20000 : Int) < (L.length : Int) + (M.length : Int) + 1 := by omega
      have z2 : (L.length : Int) ≤ 15000 := by omega
      have z3 : (M.length : Int) ≤ 15000 := by omega
      unfold TokIs at hTa hTb hTJ
      have HTa := Lib.hid hTa
      have HTb := Lib.hid hTb
      rw [hJ] at hTJ
      have HTJ := Lib.hid hTJ
      clear hTa hTb hTJ hJ h1 h2 hm hcnt hMp
      go_enter Tryd.func6, Tryd.ntmps6
      go_wp2_with (first
        | (go_at_call 14; (with_reducible refine HA.out.mono ?_); rintro e w1 ⟨rfl, hb1⟩; have HB1 := Lib.hid hb1; clear hb1)
        | (go_at_call 11; (with_reducible refine (HTa.out _ HB1.out).mono ?_); rintro e w2 ⟨va, rfl, hown, hb2⟩; have HB2 := Lib.hid (HB1.out.trans (hb2.mono HB1.out.size)); obtain ⟨A, cp, rfl, ht⟩ := toksAt_of hown; have HO := Lib.hid ht; clear hb2 hown ht)
        | (go_at_call 11; (with_reducible refine (HTb.out _ HB2.out).mono ?_); rintro e w3 ⟨vb, rfl, hown3, hb3⟩; have HB3 := Lib.hid (HB2.out.trans (hb3.mono HB2.out.size)); obtain ⟨A3, cp3, rfl, ht3⟩ := toksAt_of hown3; have HO3 := Lib.hid ht3; have HOa3 := Lib.hid (HO.out.below hb3); clear hb3 hown3 ht3)
        | (go_at_call 11; (with_reducible refine (HTJ.out _ HB3.out).mono ?_); rintro e w4 ⟨vj, rfl, hown4, hb4⟩; have HB4 := Lib.hid (HB3.out.trans (hb4.mono HB3.out.size)); obtain ⟨A4, cp4, rfl, ht4⟩ := toksAt_of hown4; have HO4 := Lib.hid ht4; have HOa4 := Lib.hid (HOa3.out.below hb4); have HOb4 := Lib.hid (HO3.out.below hb4); clear hb4 hown4 ht4))
      go_ret
      exact ⟨rfl, HB4.out⟩
    · obtain ⟨K, hK⟩ : ∃ K, L ++ (lfT, s.size) :: movT (s.size + 1) M = K := ⟨_, rfl⟩
      rw [hK] at hm
      have hTJ : TokIs J w K 0 0 := by rw [hm] at hTJ; exact hTJ
      have HK := Lib.hid hK
      have HLM := Lib.hid (And.intro hL15 (And.intro hM15 hMp))
      have HJK := Lib.hid (show SameP true K K from same_self true K)
      unfold TokIs at hTa hTb hTJ
      have HTa := Lib.hid hTa
      have HTb := Lib.hid hTb
      rw [hJ] at hTJ
      have HTJ := Lib.hid hTJ
      clear hTa hTb hTJ hJ h1 h2 hm hK hMp hL15 hM15
      obtain ⟨i0, hi, hz0, hz1, hz2⟩ := info_parts tok_info
      go_enter Tryd.func6, Tryd.ntmps6
      go_wp2_with (first
        | (go_at_call 14; (with_reducible refine HA.out.mono ?_); rintro e w1 ⟨rfl, hb1⟩; have HB1 := Lib.hid hb1; clear hb1)
        | (go_at_call 11; (with_reducible refine (HTa.out _ HB1.out).mono ?_); rintro e w2 ⟨va, rfl, hown, hb2⟩; have HB2 := Lib.hid (HB1.out.trans (hb2.mono HB1.out.size)); obtain ⟨A, cp, rfl, ht⟩ := toksAt_of hown; have HO := Lib.hid ht; have HSR := Lib.hid (srcAt_of hown); clear hb2 hown ht)
        | (go_at_call 11; (with_reducible refine (HTb.out _ HB2.out).mono ?_); rintro e w3 ⟨vb, rfl, hown3, hb3⟩; have HB3 := Lib.hid (HB2.out.trans (hb3.mono HB2.out.size)); obtain ⟨A3, cp3, rfl, ht3⟩ := toksAt_of hown3; have HO3 := Lib.hid ht3; have HSR3 := Lib.hid (HSR.out.below hb3); clear hb3 hown3 ht3)
        | (go_at_call 11; (with_reducible refine (HTJ.out _ HB3.out).mono ?_); rintro e w4 ⟨vj, rfl, hown4, hb4⟩; have HB4 := Lib.hid (HB3.out.trans (hb4.mono HB3.out.size)); obtain ⟨A4, cp4, rfl, ht4⟩ := toksAt_of hown4; have HO4 := Lib.hid ht4; have HSR4 := Lib.hid (HSR3.out.below hb4); have HOb4 := Lib.hid (HO3.out.below hb4); clear hb4 hown4 ht4)
        | (at_builtin; refine Hid.out ?_))
      refine Lib.hid ?_
      have hsz4 := HB4.out.size
      have hb5 : Below w4.heap.size w4 (w4.alloc (.cells #[] 33)) := (Below.refl _ _).alloc (Nat.le_refl _) _
      refine wpList_append_src rfl _ _ 22 rfl w4.heap.size 33 i0 (.agg #[.int .u8 0, .string ⟨#[]⟩, .int .i64 0, .int .i64 0]) 4 40 Tryd.underlying22 hi hz0 hz1 hz2 rfl (by decide) _ 0 [] rfl (emptyRow w4 w4.heap.size (Nat.le_refl _)) A L.length cp (tkF L) rfl (HSR4.out.below hb5) (tkF_one L) (by have := HLM.out.1; unfold maxLen; omega) (by have := HLM.out.1; omega) hb5.size ?_
      intro v5 w5 hown5 hg5
      rw [tkF_all, List.nil_append, Nat.zero_add] at hown5
      have HB5 : Hid (Below w4.heap.size w4 w5) := Lib.hid (hb5.grown hg5 (by simp) (fun k hk => by cases hk; exact Nat.le_refl _))
      have HO5 := Lib.hid hown5
      clear hown5 hg5 hb5
      go_wp2_with (at_builtin; refine Hid.out ?_)
      refine Lib.hid ?_
      have hb6 : Below w5.heap.size w5 (w5.alloc (.cells #[.int .u8 5, .string ⟨#[10]⟩, .int .i64 0, .int .i64 (s.size : Nat)] 33)) := (Below.refl _ _).alloc (Nat.le_refl _) _
      refine wpList_append_own _ rfl _ _ 22 rfl w4.heap.size 33 i0 (.agg #[.int .u8 0, .string ⟨#[]⟩, .int .i64 0, .int .i64 0]) 4 40 Tryd.underlying22 hi hz0 hz1 hz2 rfl (by decide) v5 L.length (tkRow L) rfl (own_keep HO5.out hb6) ⟨_, 0, none⟩ 1 1 (tkC (lfT, s.size)) rfl rfl (tk_cells w5 (lfT, s.size) _ _ rfl) (by intro u hu; simp [tkC] at hu; rcases hu with rfl | rfl | rfl | rfl <;> rfl) (by have := HLM.out.1; unfold maxLen; omega) (by have := HLM.out.1; omega) (by have := HB5.out.size; simp; omega) ?_
      intro v6 w6 hown6 hg6 _
      have HB6 : Hid (Below w4.heap.size w4 w6) := Lib.hid ((HB5.out.trans (hb6.mono HB5.out.size)).grown hg6 (by have := HB5.out.size; simp; omega) (fun k hk => own_ge HO5.out k hk))
      have HO6 := Lib.hid hown6
      clear hown6 hg6 hb6
      go_wp2
      go_loopw [15, 16] (fun v p wr => ∃ i : Nat, p = .int .i64 i ∧ i ≤ M.length ∧ Hid (Below w4.heap.size w4 wr ∧ wr.ownsRow w4.heap.size 33 4 v (L.length + 1 + i) (tkRow (L ++ (lfT, s.size) :: movT (s.size + 1) (M.take i))))) (fun _ p _ => M.length - (intOf p).toNat)
      case atStart => exact ⟨0, rfl, Nat.zero_le _, Lib.hid ⟨HB6.out, by
        have e : tkRow (L ++ (lfT, s.size) :: movT (s.size + 1) (M.take 0)) = tkRow L ++ tkC (lfT, s.size) := tkRow_snoc L (lfT, s.size)
        rw [e]; exact HO6.out⟩⟩
      case round =>
        obtain ⟨i, rfl, hi', HI⟩ := hrel
        by_cases hlt : i < M.length
        · obtain ⟨y, hy⟩ : ∃ y, M[i]? = some y := ⟨_, List.getElem?_eq_getElem hlt⟩
          obtain ⟨g, rfl, hg, t0, t1, t2, t3⟩ := (HOb4.out.below HI.out.1) i y hy
          have hyp : y.2 ≤ 15000 := by have := HLM.out.2.2 y (List.mem_of_getElem? hy); have e3 : r.data.toList.length = r.size := rfl; have := HS.out; omega
          have z1 : (y.2 : Int) ≤ 15000 := by omega
          have z2 : (s.size : Int) ≤ 15000 := by have := HS.out; omega
          have z3 : (M.length : Int) ≤ 15000 := by have := HLM.out; omega
          have HLT := Lib.hid hlt
          have HY := Lib.hid (movT_snoc (k := s.size + 1) hy)
          clear hy hyp
          go_wp2_with (at_builtin; refine Hid.out ?_)
          refine Lib.hid ?_
          rw [show ((y.2 : Nat) : Int) + (s.size : Int) + 1 = ((s.size + 1 + y.2 : Nat) : Int) by omega]
          have hba : Below wr.heap.size wr ((wr.alloc (.cells #[.int .u8 (y.1.k : Nat), .string ⟨y.1.t.toArray⟩, .int .i64 y.1.n, .int .i64 ((s.size + 1 + y.2 : Nat) : Int)] 33)).alloc (.cells #[.int .u8 (y.1.k : Nat), .string ⟨y.1.t.toArray⟩, .int .i64 y.1.n, .int .i64 ((s.size + 1 + y.2 : Nat) : Int)] 33)) := ((Below.refl _ _).alloc (Nat.le_refl _) _).alloc (by simp) _
          refine wpList_append_own _ rfl _ _ 22 rfl w4.heap.size 33 i0 (.agg #[.int .u8 0, .string ⟨#[]⟩, .int .i64 0, .int .i64 0]) 4 40 Tryd.underlying22 hi hz0 hz1 hz2 rfl (by decide) _ (L.length + 1 + i) _ rfl (own_keep HI.out.2 hba) ⟨_, 0, none⟩ 1 1 (tkC (y.1, s.size + 1 + y.2)) rfl rfl (tk_cells _ (y.1, s.size + 1 + y.2) _ _ (by simp)) (by intro u hu; simp [tkC] at hu; rcases hu with rfl | rfl | rfl | rfl <;> rfl) (by have := HLM.out; have := HLT.out; unfold maxLen; omega) (by have := HLM.out; have := HLT.out; omega) (by have := HI.out.1.size; simp; omega) ?_
          intro v7 w7 hown7 hg7 _
          have HB7 : Hid (Below w4.heap.size w4 w7) := Lib.hid ((HI.out.1.trans (hba.mono HI.out.1.size)).grown hg7 (by have := HI.out.1.size; simp; omega) (fun k hk => own_ge HI.out.2 k hk))
          have HN7 : Hid (w7.ownsRow w4.heap.size 33 4 v7 (L.length + 1 + (i + 1)) (tkRow (L ++ (lfT, s.size) :: movT (s.size + 1) (M.take (i + 1))))) := Lib.hid (by
            rw [HY.out, show L ++ (lfT, s.size) :: (movT (s.size + 1) (M.take i) ++ [(y.1, s.size + 1 + y.2)]) = (L ++ (lfT, s.size) :: movT (s.size + 1) (M.take i)) ++ [(y.1, s.size + 1 + y.2)] by simp, tkRow_snoc]
            exact hown7)
          clear hown7 hg7 hba
          go_wp2
          go_roundw
          case rel => exact ⟨i + 1, by first | rfl | go_num | (congr 1), by have := HLT.out; omega, Lib.hid ⟨HB7.out, HN7.out⟩⟩
          case measure => simp only [intOf]; have := HLT.out; omega
        · obtain rfl : i = M.length := by omega
          have hK2 := HI.out.2
          rw [List.take_of_length_le (Nat.le_refl _), HK.out, show L.length + 1 + M.length = K.length by rw [← HK.out]; simp [movT]; omega] at hK2
          obtain ⟨A6, c6, rfl, ht6⟩ := toksAt_of hK2
          have HT6 := Lib.hid ht6
          have HT7 := Lib.hid (HO4.out.below HI.out.1)
          have hKl : K.length ≤ 100000 := by rw [← HK.out]; simp [movT]; have := HLM.out; omega
          have HKL := Lib.hid hKl
          clear hK2 ht6 hKl
          go_wp2_with (go_at_call 13; (refine (same_yes _ _ _ _ true K K _ HT7.out HT6.out HJK.out HKL.out).mono ?_); rintro e w8 ⟨rfl, hb8⟩)
          go_ret
          exact ⟨rfl, (HB4.out.trans (HI.out.1.mono HB4.out.size)).trans (hb8.mono (Nat.le_trans HB4.out.size HI.out.1.size))⟩

theorem walk (a0 a1 : ByteArray) {q0 q1 : Prop} (w0 : q0) (w1 : q1) (W : World) (hL : laidMetH Tryd.prog Rows.lexerJoinsRow.laid W) :
    Calls Tryd.prog 6 #[.string a0, .string a1] W fun e w' => e = .returned (.bool true) ∧ Below W.heap.size W w' :=
  core a0 a1 W (laid_of W hL) (fun Y hb => lexerCovers.alive_later W Y hb hL)
end Go.Proofs.YtmehigmomhiaeaaDoor.lexerJoins
