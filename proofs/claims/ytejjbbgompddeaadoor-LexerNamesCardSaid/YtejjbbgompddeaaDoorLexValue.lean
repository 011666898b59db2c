/- value of package lexer: the value of a number, and whether a word is one. -/
import Derived.Test.YtejjbbgompddeaaDoorLexInt
import Derived.Lib.AppendIntMem
import Derived.Lib.ParseIntBTie
import Derived.Lib.AtoiErrMem
namespace Go.Proofs.YtejjbbgompddeaaDoor
open Go.RowKit
set_option linter.unusedVariables false
set_option linter.unusedSimpArgs false

/-- What value gives. -/
def ValGives (l : List UInt8) (e : Ending) : Prop := ∃ x : Int, e = .returned (.tuple #[.int .i64 x, .bool (numV l).isSome]) ∧ ∀ n, numV l = some n → x = n

set_option maxRecDepth 100000 in
theorem value_hex (s D : ByteArray) (w : World) (hs : s.size ≤ 1000000) (hL : LaidAt w) (hp : Lib.hasPrefix s.data.toList [48, 120] = true) (hD : D = ⟨(Lib.trimPrefix s.data.toList [48, 120]).toArray⟩)
    (hw : ∀ c, D.data.toList[0]? = some c → c.toNat ≠ 43 ∧ c.toNat ≠ 45) (hDs : D.size ≤ 1000000) (hn : numV s.data.toList = if hexOk D.data.toList = true then some ((hexV D.data.toList : Nat) : Int) else none) :
    Calls Tryd.prog 43 #[.string s] w fun e w' => ValGives s.data.toList e ∧ Below w.heap.size w w' := by
  have HC := Lib.hid (fun W => Tryd.strings_CutPrefix s ⟨#[48, 120]⟩ W)
  simp only [hp] at HC
  rw [← hD] at HC
  have HP := Lib.hid (parse16_any D w hDs hL.errs hw)
  have HF := Lib.hid (fun (u : Nat) (W : World) (h : u < 1152921504606846976) (hb : Below w.heap.size w W) => fmt16_any u W h (hL.tz.below hb))
  have HN := Lib.hid hn
  have hn1 := eql_error
  have hg1 := eql_guard
  clear hs hL hp hD hw hDs hn
  go_enter Tryd.func43, Tryd.ntmps43
  go_wp2_with (first
    | (go_at_call 51; (with_reducible refine (HC.out _).mono ?_); rintro e w1 ⟨rfl, rfl⟩)
    | (go_at_call 52; (with_reducible refine HP.out.mono ?_); rintro e w2 ⟨⟨x, err, rfl, hx0, hx1, herr, hgood⟩, hb1⟩; have HB := Lib.hid hb1; have HX := Lib.hid (And.intro hx0 hx1); have HR := Lib.hid herr; have HG := Lib.hid hgood; clear hb1 hx0 hx1 herr hgood))
  rcases HR.out with rfl | ⟨ty, y, rfl⟩
  · by_cases h0 : x < 0
    · have hk : Hid (numV s.data.toList = none) := Lib.hid (by
        rw [HN.out, if_neg]; intro h; have := (HG.out h).2; omega)
      have c1 : ¬ 0 ≤ x := by omega
      go_wp2
      go_ret2
      exact ⟨⟨x, by rw [hk.out]; rfl, fun n h => by rw [hk.out] at h; cases h⟩, HB.out⟩
    · obtain ⟨u, rfl⟩ : ∃ u : Nat, x = (u : Int) := ⟨x.toNat, by omega⟩
      by_cases h1 : 1152921504606846975 < u
      · have hk : Hid (numV s.data.toList = none) := Lib.hid (by
          rw [HN.out, if_neg]; intro h; have := (HG.out h).2; have := (hexOk_back h).2; omega)
        have c2 : ¬ (u : Int) ≤ 1152921504606846975 := by omega
        go_wp2
        go_ret2
        exact ⟨⟨u, by rw [hk.out]; rfl, fun n h => by rw [hk.out] at h; cases h⟩, HB.out⟩
      · have c2 : (u : Int) ≤ 1152921504606846975 := by omega
        have HQ : Hid ((hexDigits u == D.toList) = (numV s.data.toList).isSome ∧ ∀ n, numV s.data.toList = some n → (u : Int) = n) := Lib.hid (by
          rw [HN.out, ByteArray.toList_eq]
          by_cases hk : hexOk D.data.toList = true
          · have e : u = hexV D.data.toList := by have := (HG.out hk).2; omega
            rw [if_pos hk, e, (hexOk_back hk).1]
            exact ⟨by simp, fun n h => by cases h; rfl⟩
          · rw [if_neg hk]
            refine ⟨?_, fun n h => by cases h⟩
            show (hexDigits u == D.data.toList) = false
            rw [beq_eq_false_iff_ne]
            intro e
            rw [← e] at hk
            exact hk (hexOk_digits u (by omega)))
        have HF2 := Lib.hid (fun W hb => HF.out u W (by omega) hb)
        clear h1 h0
        go_wp2_with (go_at_call 53; (with_reducible refine (HF2.out _ HB.out).mono ?_); rintro e w3 ⟨rfl, hb3⟩)
        go_ret2
        exact ⟨⟨u, by rw [← HQ.out.1]; rfl, HQ.out.2⟩, HB.out.trans (hb3.mono HB.out.size)⟩
  · have hk : Hid (numV s.data.toList = none) := Lib.hid (by
      rw [HN.out, if_neg]; intro h; have := (HG.out h).1; simp at this)
    rw [hg1]
    simp only [Result.andThen]
    rw [hn1]
    simp only [Result.andThen]
    rw [Oper.upon_value]
    go_wp2
    go_ret2
    exact ⟨⟨x, by rw [hk.out]; rfl, fun n h => by rw [hk.out] at h; cases h⟩, HB.out⟩

set_option maxRecDepth 100000 in
theorem value_dec (s : ByteArray) (w : World) (hs : s.size ≤ 1000000) (hL : LaidAt w) (hp : Lib.hasPrefix s.data.toList [48, 120] = false) (ht : s.data.toList.take 2 ≠ [48, 120]) :
    Calls Tryd.prog 43 #[.string s] w fun e w' => ValGives s.data.toList e ∧ Below w.heap.size w w' := by
  have HC := Lib.hid (fun W => Tryd.strings_CutPrefix s ⟨#[48, 120]⟩ W)
  have e : (⟨(Lib.trimPrefix s.data.toList [48, 120]).toArray⟩ : ByteArray) = s := by
    unfold Lib.trimPrefix; rw [hp]; simp
  simp only [hp, e] at HC
  have HP : Hid (∀ W, Below w.heap.size w W → Calls Tryd.prog 52 #[.string s, .int .i64 10, .int .i64 64] W fun e w' => (∃ (x : Int) (err : Value), e = .returned (.tuple #[.int .i64 x, err]) ∧ -9223372036854775808 ≤ x ∧ x ≤ 9223372036854775807 ∧ ((err = .nilIface ∧ Lib.parseIntB 64 s.data.toList = .ok x) ∨ ((∃ t y, err = .iface t y) ∧ ∀ v, Lib.parseIntB 64 s.data.toList ≠ .ok v))) ∧ Below W.heap.size W w') := Lib.hid (fun W hb => by
    obtain ⟨⟨t1, p1, h1⟩, ⟨t2, p2, h2⟩, _, _⟩ := hL.errs.below hb
    cases hres : Lib.parseIntB 64 s.data.toList with
    | ok v =>
      refine (Tryd.strconv_ParseInt_10_at64_ok s (by omega) v hres W).mono ?_
      rintro e w' ⟨rfl, hw⟩
      obtain ⟨q1, q2⟩ := Lib.parseIntB_bounds hres
      have p63 : (2 : Nat) ^ (64 - 1) = 9223372036854775808 := by decide
      rw [p63] at q1 q2
      refine ⟨⟨v, _, rfl, by omega, by omega, .inl ⟨rfl, rfl⟩⟩, ?_⟩
      rcases hw with rfl | ⟨t, rfl⟩
      · exact Below.refl _ _
      · exact Lib.bytesWorld_below _ _ _
    | «syntax» =>
      refine (Tryd.strconv_ParseInt_10_at64_syntax s (by omega) hres _ W h1 (Or.inr ⟨_, _, rfl⟩)).mono ?_
      rintro e w' ⟨N, rfl, _, _, hb2⟩
      exact ⟨⟨0, _, rfl, by decide, by decide, .inr ⟨⟨_, _, rfl⟩, fun v h => by cases h⟩⟩, hb2⟩
    | range =>
      refine (Tryd.strconv_ParseInt_10_at64_range s (by omega) hres _ W h2 (Or.inr ⟨_, _, rfl⟩)).mono ?_
      rintro e w' ⟨N, rfl, _, _, hb2⟩
      refine ⟨⟨_, _, rfl, ?_, ?_, .inr ⟨⟨_, _, rfl⟩, fun v h => by cases h⟩⟩, hb2⟩
      · unfold Lib.intSat; split <;> decide
      · unfold Lib.intSat; split <;> decide)
  have hpow : ((2 : Nat) ^ (64 - 1)) = 9223372036854775808 := by decide
  have HF : Hid (∀ (x : Int) (W : World), -9223372036854775808 ≤ x → x ≤ 9223372036854775807 → Below w.heap.size w W → Calls Tryd.prog 53 #[.int .i64 x, .int .i64 10] W fun e w' => e = .returned (.string ⟨(Lib.itoa x).toArray⟩) ∧ Below W.heap.size W w') := Lib.hid (fun x W h0 h1 hb => by
    refine (Tryd.strconv_FormatInt_10 x h0 h1 W (hL.below hb).tab).mono ?_
    rintro e w' ⟨rfl, k, os, rfl⟩
    exact ⟨rfl, Lib.below_grow _ _ (Nat.le_refl _) _ _⟩)
  have HT := Lib.hid ht
  have hn1 := eql_error
  have hg1 := eql_guard
  clear hs hL hp ht e hpow
  go_enter Tryd.func43, Tryd.ntmps43
  go_wp2_with (first
    | (go_at_call 51; (with_reducible refine (HC.out _).mono ?_); rintro e w1 ⟨rfl, rfl⟩)
    | (go_at_call 52; (with_reducible refine (HP.out _ (Below.refl _ _)).mono ?_); rintro e w2 ⟨⟨x, err, rfl, hx0, hx1, herr⟩, hb1⟩; have HB := Lib.hid hb1; have HX := Lib.hid (And.intro hx0 hx1); have HR := Lib.hid herr; clear hb1 hx0 hx1 herr))
  have HD : Hid (∀ n, numV s.data.toList = some n → -999999999999999999 ≤ n ∧ n ≤ 999999999999999999 ∧ Lib.itoa n = s.data.toList ∧ Lib.parseIntB 64 s.data.toList = .ok n) := Lib.hid (fun n h => numV_dec HT.out h)
  rcases HR.out with ⟨rfl, hok⟩ | ⟨⟨ty, y, rfl⟩, hbad⟩
  · have HO := Lib.hid hok
    clear hok
    have none_of : Hid ((x < -999999999999999999 ∨ 999999999999999999 < x) → numV s.data.toList = none) := Lib.hid (fun h => by
      cases hv : numV s.data.toList with
      | none => rfl
      | some n =>
        obtain ⟨q1, q2, q3, q4⟩ := HD.out n hv
        have : x = n := by have := HO.out; rw [q4] at this; cases this; rfl
        omega)
    by_cases h0 : x < -999999999999999999
    · have hk := Lib.hid (none_of.out (.inl h0))
      have c1 : ¬ -999999999999999999 ≤ x := by omega
      go_wp2
      go_ret2
      exact ⟨⟨x, by rw [hk.out]; rfl, fun n h => by rw [hk.out] at h; cases h⟩, HB.out⟩
    · have c1 : -999999999999999999 ≤ x := by omega
      by_cases h1 : 999999999999999999 < x
      · have hk := Lib.hid (none_of.out (.inr h1))
        have c2 : ¬ x ≤ 999999999999999999 := by omega
        go_wp2
        go_ret2
        exact ⟨⟨x, by rw [hk.out]; rfl, fun n h => by rw [hk.out] at h; cases h⟩, HB.out⟩
      · have c2 : x ≤ 999999999999999999 := by omega
        have HQ : Hid ((Lib.itoa x == s.toList) = (numV s.data.toList).isSome ∧ ∀ n, numV s.data.toList = some n → x = n) := Lib.hid (by
          rw [ByteArray.toList_eq]
          cases hv : numV s.data.toList with
          | none =>
            refine ⟨?_, fun n h => by cases h⟩
            show (Lib.itoa x == s.data.toList) = false
            rw [beq_eq_false_iff_ne]
            intro e
            have := dec_decides HT.out c1 c2 e
            rw [hv] at this; cases this
          | some m =>
            obtain ⟨q1, q2, q3, q4⟩ := HD.out m hv
            have e : x = m := by have := HO.out; rw [q4] at this; cases this; rfl
            rw [e, q3]
            exact ⟨by simp, fun n h => by cases h; rfl⟩)
        have HF2 := Lib.hid (fun W hb => HF.out x W (by omega) (by omega) hb)
        clear h1 h0
        go_wp2_with (go_at_call 53; (with_reducible refine (HF2.out _ HB.out).mono ?_); rintro e w3 ⟨rfl, hb3⟩)
        go_ret2
        exact ⟨⟨x, by rw [← HQ.out.1]; rfl, HQ.out.2⟩, HB.out.trans (hb3.mono HB.out.size)⟩
  · have hk : Hid (numV s.data.toList = none) := Lib.hid (by
      cases hv : numV s.data.toList with
      | none => rfl
      | some n => exact absurd (HD.out n hv).2.2.2 (hbad n))
    clear hbad
    rw [hg1]
    simp only [Result.andThen]
    rw [hn1]
    simp only [Result.andThen]
    rw [Oper.upon_value]
    go_wp2
    go_ret2
    exact ⟨⟨x, by rw [hk.out]; rfl, fun n h => by rw [hk.out] at h; cases h⟩, HB.out⟩

/-- value, at a word that begins with a digit or a minus sign. -/
theorem value_any (s : ByteArray) (c : UInt8) (t : List UInt8) (w : World) (hs : s.size ≤ 1000000) (hL : LaidAt w) (hc : s.data.toList = c :: t) (ht : t.all isW = true) :
    Calls Tryd.prog 43 #[.string s] w fun e w' => ValGives s.data.toList e ∧ Below w.heap.size w w' := by
  by_cases h2 : s.data.toList.take 2 = [48, 120]
  · have hp : Lib.hasPrefix s.data.toList [48, 120] = true := by
      unfold Lib.hasPrefix
      rw [List.isPrefixOf_iff_prefix]
      exact ⟨s.data.toList.drop 2, by rw [← h2]; exact List.take_append_drop 2 _⟩
    have hd : Lib.trimPrefix s.data.toList [48, 120] = s.data.toList.drop 2 := by unfold Lib.trimPrefix; rw [hp]; rfl
    refine value_hex s _ w hs hL hp rfl ?_ ?_ ?_
    · intro b hb
      rw [hd] at hb
      have hb2 : b ∈ t := by
        rw [hc] at hb
        cases t with
        | nil => simp at hb
        | cons y t => simp at hb; rw [List.mem_cons]; right; exact List.mem_of_getElem? hb
      have := List.all_eq_true.1 ht b hb2
      constructor
      · intro e; unfold isW at this; rw [e] at this; exact absurd this (by decide)
      · intro e; unfold isW at this; rw [e] at this; exact absurd this (by decide)
    · rw [hd]; have : s.data.toList.length = s.size := rfl
      show (s.data.toList.drop 2).toArray.size ≤ 1000000
      simp; omega
    · show numV s.data.toList = if hexOk (Lib.trimPrefix s.data.toList [48, 120]) = true then some ((hexV (Lib.trimPrefix s.data.toList [48, 120]) : Nat) : Int) else none
      rw [hd]; unfold numV; rw [if_pos h2]
  · refine value_dec s w hs hL ?_ h2
    cases hp : Lib.hasPrefix s.data.toList [48, 120] with
    | false => rfl
    | true =>
      unfold Lib.hasPrefix at hp
      rw [List.isPrefixOf_iff_prefix] at hp
      obtain ⟨r, hr⟩ := hp
      exact absurd (by rw [← hr]; rfl) h2
end Go.Proofs.YtejjbbgompddeaaDoor
