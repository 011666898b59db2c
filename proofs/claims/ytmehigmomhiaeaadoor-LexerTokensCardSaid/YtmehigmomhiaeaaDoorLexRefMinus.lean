/- The reference's Number, below zero; for all strings. -/
import Derived.Test.YtmehigmomhiaeaaDoorLexRefPlus
namespace Go.Proofs.YtmehigmomhiaeaaDoor
open Go.RowKit
set_option linter.unusedVariables false
set_option linter.unusedSimpArgs false

set_option maxHeartbeats 2000000 in
set_option maxRecDepth 100000 in
theorem refNumMinus_any (s : ByteArray) (w : World) (hs : s.size ≤ 999999) (h1 : 1 ≤ s.size) (hm : s.data.toList.headD 0 = 45) :
    Calls Tryd.prog 58 #[.string s] w fun e w' => e = .returned (.tuple #[.int .i64 ((numV s.data.toList).getD 0), .bool (numV s.data.toList).isSome]) ∧ w = w' := by
  obtain ⟨V, hV⟩ : ∃ V, numV s.data.toList = V := ⟨_, rfl⟩
  rw [hV]
  have hl : s.data.toList.length = s.size := rfl
  have hnx : s.data.toList.take 2 ≠ [48, 120] := by
    intro e
    cases hq : s.data.toList with
    | nil => rw [hq] at hl; simp at hl; omega
    | cons a t => rw [hq] at hm e; simp at hm; subst hm; simp at e
  rw [numV_decR (fun e => hnx e.2), if_pos hm] at hV
  obtain ⟨T, hT⟩ : ∃ T, s.extract 1 s.size = T := ⟨_, rfl⟩
  have hTl : T.data.toList = s.data.toList.drop 1 := by
    rw [← hT, Lib.extract_data, List.take_of_length_le (by rw [List.length_drop]; omega)]
  rw [← hTl] at hV
  have hTs : T.size = s.size - 1 := by rw [← hT, ByteArray.size_extract]; omega
  have HV := Lib.hid hV
  obtain ⟨E, hEE⟩ : ∃ E, s.extract 0 2 = E := ⟨_, rfl⟩
  have hE0 : (E.toList == [48, 120]) = false := by
    rw [ByteArray.toList_eq]
    simp only [beq_eq_false_iff_ne]
    intro e
    rw [← hEE, Lib.extract_data] at e
    exact hnx (by simpa using e)
  obtain ⟨L, hL⟩ : ∃ L, s.size = L := ⟨_, rfl⟩
  rw [hL] at hT hTs h1 hs
  obtain ⟨M, hM⟩ : ∃ M, T.size = M := ⟨_, rfl⟩
  have HTM := Lib.hid (show T.data.toList.length = M from hM)
  have M9 : M ≤ 999999 := by omega
  have L9 : L ≤ 999999 := hs
  have L1 : 1 ≤ L := h1
  clear h1 hs
  have hc : s[0]'(by omega) = 45 := by
    have hc0 : s.data.toList[0]? = some (s[0]'(by omega)) := by rw [Lib.data_getElem? s 0 (by omega)]
    rw [headD_get _ (by omega)] at hm
    exact ((List.getElem?_eq_some_iff.1 hc0).2).symm.trans hm
  have hE : ¬ (2 : Int) < (L : Int) ∨ ((2 : Int) < (L : Int) ∧ (E.toList == [48, 120]) = false) := by
    by_cases h : (2 : Int) < (L : Int)
    · exact .inr ⟨h, hE0⟩
    · exact .inl h
  clear hV hm hnx hTl hTs hE0
  by_cases m0 : M = 0
  · subst m0
    obtain rfl : V = none := by rw [← HV.out, decNo (.inr (.inl HTM.out))]; rfl
    rcases hE with g1 | ⟨g1, g2⟩
    all_goals
      go_enter Tryd.func58, Tryd.ntmps58
      go_wp2
      all_goals first | (exfalso; omega) | (go_ret2; exact ⟨rfl, rfl⟩)
  have M1 : 1 ≤ M := by omega
  obtain ⟨c, hc2⟩ : ∃ c : UInt8, T[0]'(by omega) = c := ⟨_, rfl⟩
  have hc0 : T.data.toList[0]? = some c := by rw [Lib.data_getElem? T 0 (by omega), hc2]
  have hch : T.data.toList.headD 0 = c := by
    rw [headD_get _ (by rw [HTM.out]; exact M1)]
    exact (List.getElem?_eq_some_iff.1 hc0).2
  have HCH := Lib.hid hch
  clear hc0 hch m0
  by_cases h48 : c = 48
  · subst h48
    obtain rfl : V = none := by rw [← HV.out, HCH.out]; simp
    rcases hE with g1 | ⟨g1, g2⟩
    all_goals
      go_enter Tryd.func58, Tryd.ntmps58
      go_wp2
      all_goals first | (exfalso; omega) | (go_ret2; exact ⟨rfl, rfl⟩)
  have n48 : ((c.toNat : Int) == 48) = false := byte_ne (n := 48) h48 (by decide)
  have HMZ := Lib.hid (show ¬ (1 < M ∧ c = 48) from fun e => h48 e.2)
  have HNZ := Lib.hid (show (T.data.toList.headD 0 != 48) = true by rw [HCH.out]; simpa using h48)
  clear h48
  by_cases m18 : 18 < M
  · have m18' : (18 : Int) < (M : Int) := by omega
    obtain rfl : V = none := by rw [← HV.out, decNo (.inl (by rw [HTM.out]; exact m18))]; rfl
    rcases hE with g1 | ⟨g1, g2⟩
    all_goals
      go_enter Tryd.func58, Tryd.ntmps58
      go_wp2
      all_goals first | (exfalso; omega) | (go_ret2; exact ⟨rfl, rfl⟩)
  have m18' : (M : Int) ≤ 18 := by omega
  have m1 : ¬ (1 : Int) < (M : Int) ∨ (1 : Int) < (M : Int) := by omega
  rcases hE with g1 | ⟨g1, g2⟩
  all_goals rcases m1 with m1 | m1
  all_goals
    go_enter Tryd.func58, Tryd.ntmps58
    go_wp2
    go_loop [8, 9] (fun vn vi => ∃ (k : Nat) (n : Int), vi = .int .i64 k ∧ k ≤ M ∧ vn = .int .i64 n ∧ Hid (n = ((decV (T.data.toList.take k) : Nat) : Int) ∧ Digs (T.data.toList.take k))) (fun _ vi => M - (intOf vi).toNat)
    case atStart => exact ⟨0, 0, rfl, by omega, rfl, Lib.hid ⟨rfl, fun x hx => by cases hx⟩⟩
    case round =>
      obtain ⟨k, n, rfl, hk, rfl, HK⟩ := hrel
      by_cases hlt : k < M
      · obtain ⟨d, hd⟩ : ∃ d : UInt8, T[k]'(by omega) = d := ⟨_, rfl⟩
        have HD := Lib.hid (show T.data.toList[k]? = some d by rw [Lib.data_getElem? T k (by omega), hd])
        have HC := Lib.hid (refDigit_any d.toNat w d.toNat_lt)
        by_cases hh : digN d.toNat = true
        · rw [hh] at HC
          have hx0 : 48 ≤ d.toNat ∧ d.toNat ≤ 57 := by unfold digN at hh; simpa using hh
          have hx1 : (48 : Int) ≤ (d.toNat : Int) := by omega
          have hx2 : (d.toNat : Int) ≤ 57 := by omega
          have hb := decV_lt k (T.data.toList.take k) (by rw [List.length_take, HTM.out]; omega) HK.out.2
          have hp : 10 ^ k ≤ 10 ^ 17 := Nat.pow_le_pow_right (by decide) (by omega)
          have e14 : 10 ^ 17 = 100000000000000000 := by decide
          have hn0 : (0 : Int) ≤ n := by rw [HK.out.1]; omega
          have hn1 : n < 100000000000000000 := by rw [HK.out.1]; omega
          have HN := Lib.hid (show (10 * n + ((d.toNat : Int) - 48)) = ((decV (T.data.toList.take (k + 1)) : Nat) : Int) ∧ Digs (T.data.toList.take (k + 1)) from by
            obtain ⟨q1, q2⟩ := digs_snoc HD.out HK.out.2 hx0
            refine ⟨?_, q1⟩
            rw [q2, HK.out.1]; omega)
          clear hb hp e14 hh HD HK hx0
          go_wp2_with (go_at_call 55; (with_reducible refine HC.out.mono ?_); rintro e w' ⟨rfl, rfl⟩)
          go_round
          case rel => exact ⟨k + 1, 10 * n + ((d.toNat : Int) - 48), by go_num, by omega, by go_num, HN⟩
          case measure => simp only [intOf]; omega
        · have hq : decOk T.data.toList = false := decNo2 HD.out (by simpa using hh)
          rw [show digN d.toNat = false by simpa using hh] at HC
          obtain rfl : V = none := by rw [← HV.out, hq]; rfl
          clear hh HD HK hq
          go_wp2_with (go_at_call 55; (with_reducible refine HC.out.mono ?_); rintro e w' ⟨rfl, rfl⟩)
          go_ret2
          exact ⟨rfl, rfl⟩
      · obtain rfl : k = M := by omega
        have hfull : T.data.toList.take k = T.data.toList := List.take_of_length_le (by rw [HTM.out]; omega)
        have hb := decV_lt k (T.data.toList.take k) (by rw [List.length_take, HTM.out]; omega) HK.out.2
        have hp : 10 ^ k ≤ 10 ^ 18 := Nat.pow_le_pow_right (by decide) (by omega)
        have e14 : 10 ^ 18 = 1000000000000000000 := by decide
        have hn0 : (0 : Int) ≤ n := by rw [HK.out.1]; omega
        have hn1 : n < 1000000000000000000 := by rw [HK.out.1]; omega
        have hyes : decOk T.data.toList = true := by
          rw [decOk_iff, HTM.out, HCH.out]
          refine ⟨by omega, by omega, ?_, hfull ▸ HK.out.2⟩
          by_cases h1 : 1 < k
          · exact .inr (fun e => HMZ.out ⟨h1, e⟩)
          · exact .inl (by omega)
        obtain rfl : V = some (-n) := by rw [← HV.out, hyes, HNZ.out, HK.out.1, hfull]; rfl
        clear hfull hb hp e14 hyes
        go_wp2
        go_ret2
        exact ⟨by first | rfl | go_num | (simp; done) | (congr; omega), rfl⟩

theorem refNumber_any (s : ByteArray) (w : World) (hs : s.size ≤ 999999) :
    Calls Tryd.prog 58 #[.string s] w fun e w' => e = .returned (.tuple #[.int .i64 ((numV s.data.toList).getD 0), .bool (numV s.data.toList).isSome]) ∧ w = w' := by
  by_cases hx : 2 < s.size ∧ s.extract 0 2 = ⟨#[48, 120]⟩
  · exact refNumHex_any s w hs hx.1 hx.2
  · by_cases hm : s.data.toList.headD 0 = 45
    · refine refNumMinus_any s w hs ?_ hm
      rcases Nat.eq_zero_or_pos s.size with h | h
      · have : s.data.toList = [] := List.eq_nil_of_length_eq_zero h
        rw [this] at hm; cases hm
      · exact h
    · refine refNumPlus_any s w hs ?_ hm
      by_cases h2 : s.size ≤ 2
      · exact .inl h2
      · exact .inr ⟨by omega, fun e => hx ⟨by omega, e⟩⟩
end Go.Proofs.YtmehigmomhiaeaaDoor
