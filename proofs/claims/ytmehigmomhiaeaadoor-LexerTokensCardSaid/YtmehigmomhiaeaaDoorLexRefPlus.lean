/- The reference's Number, decimal. -/
import Derived.Test.YtmehigmomhiaeaaDoorLexRefNumber
namespace Go.Proofs.YtmehigmomhiaeaaDoor
open Go.RowKit
set_option linter.unusedVariables false
set_option linter.unusedSimpArgs false

theorem numV_decR {l : List UInt8} (h : ¬ (2 < l.length ∧ l.take 2 = [48, 120])) : numV l = if l.headD 0 = 45 then (if decOk (l.drop 1) && (l.drop 1).headD 0 != 48 then some (-((decV (l.drop 1) : Nat) : Int)) else none) else if decOk l then some ((decV l : Nat) : Int) else none := by
  by_cases h2 : l.take 2 = [48, 120]
  · have hl : ¬ 2 < l.length := fun e => h ⟨e, h2⟩
    have : l = [48, 120] := by rw [← h2, List.take_of_length_le (by omega)]
    subst this
    rfl
  · unfold numV; rw [if_neg h2]
theorem decNo {d : List UInt8} (h : 18 < d.length ∨ d.length = 0 ∨ (1 < d.length ∧ d.headD 0 = 48)) : decOk d = false := by
  rw [← Bool.not_eq_true, decOk_iff]
  rintro ⟨_, h2, h3, _⟩
  rcases h with h | h | ⟨h, h'⟩
  · omega
  · omega
  · rcases h3 with h3 | h3
    · omega
    · exact h3 h'
theorem decNo2 {d : List UInt8} {k : Nat} {c : UInt8} (h : d[k]? = some c) (hc : digN c.toNat = false) : decOk d = false := by
  rw [← Bool.not_eq_true, decOk_iff]
  rintro ⟨_, _, _, h4⟩
  have := h4 c (List.mem_of_getElem? h)
  unfold digN at hc
  simp at hc
  omega
theorem digs_snoc {d : List UInt8} {k : Nat} {c : UInt8} (h : d[k]? = some c) (hd : Digs (d.take k)) (hc : 48 ≤ c.toNat ∧ c.toNat ≤ 57) : Digs (d.take (k + 1)) ∧ decV (d.take (k + 1)) = 10 * decV (d.take k) + (c.toNat - 48) := by
  rw [take_snoc h]
  refine ⟨fun x hx => ?_, decV_snoc _ _⟩
  rcases List.mem_append.1 hx with hx | hx
  · exact hd x hx
  · simp at hx; subst hx; exact hc

set_option maxHeartbeats 2000000 in
set_option maxRecDepth 100000 in
theorem refNumPlus_any (T : ByteArray) (w : World) (hs : T.size ≤ 999999) (hE : T.size ≤ 2 ∨ (2 < T.size ∧ T.extract 0 2 ≠ ⟨#[48, 120]⟩)) (hm : T.data.toList.headD 0 ≠ 45) :
    Calls Tryd.prog 58 #[.string T] w fun e w' => e = .returned (.tuple #[.int .i64 ((numV T.data.toList).getD 0), .bool (numV T.data.toList).isSome]) ∧ w = w' := by
  obtain ⟨V, hV⟩ : ∃ V, numV T.data.toList = V := ⟨_, rfl⟩
  rw [hV]
  have hl : T.data.toList.length = T.size := rfl
  rw [numV_decR (by
    rintro ⟨g1, g2⟩
    rcases hE with hE | ⟨_, hE⟩
    · omega
    · exact hE (ba_eq (by rw [Lib.extract_data]; simpa using g2))), if_neg hm] at hV
  have HV := Lib.hid hV
  obtain ⟨M, hM⟩ : ∃ M, T.size = M := ⟨_, rfl⟩
  have HTM := Lib.hid (show T.data.toList.length = M from hM)
  have HM := Lib.hid hm
  rw [hM] at hE
  obtain ⟨E, hEE⟩ : ∃ E, T.extract 0 2 = E := ⟨_, rfl⟩
  rw [hEE] at hE
  have M9 : M ≤ 999999 := by omega
  clear hV hl hm hs
  by_cases m0 : M = 0
  · subst m0
    obtain rfl : V = none := by rw [← HV.out, decNo (.inr (.inl HTM.out))]; rfl
    clear hE
    go_enter Tryd.func58, Tryd.ntmps58
    go_wp2
    go_ret2
    exact ⟨rfl, rfl⟩
  have M1 : 1 ≤ M := by omega
  obtain ⟨c, hc⟩ : ∃ c : UInt8, T[0]'(by omega) = c := ⟨_, rfl⟩
  have hc0 : T.data.toList[0]? = some c := by rw [Lib.data_getElem? T 0 (by omega), hc]
  have hch : T.data.toList.headD 0 = c := by
    rw [headD_get _ (by rw [HTM.out]; exact M1)]
    exact (List.getElem?_eq_some_iff.1 hc0).2
  have HCH := Lib.hid hch
  have n45 : ((c.toNat : Int) == 45) = false := by
    simp only [beq_eq_false_iff_ne]
    intro e
    exact HM.out (hch.trans (UInt8.toNat_inj.1 (by simp; omega)))
  clear hc0 hch m0
  have H : ∀ (P : Prop), (M ≤ 2 → P) → (2 < M → (E.toList == [48, 120]) = false → P) → P := fun P h1 h2 => by
    rcases hE with h | ⟨h, h'⟩
    · exact h1 h
    · exact h2 h (by rw [ByteArray.toList_eq]; simp only [beq_eq_false_iff_ne]; intro e; exact h' (ba_eq e))
  clear hE
  refine H _ ?_ ?_ <;> intro g1
  · have g1' : ¬ (2 : Int) < (M : Int) := by omega
    by_cases m1 : 1 < M
    · by_cases h48 : c = 48
      · subst h48
        obtain rfl : V = none := by rw [← HV.out, decNo (.inr (.inr ⟨by rw [HTM.out]; exact m1, HCH.out⟩))]; rfl
        go_enter Tryd.func58, Tryd.ntmps58
        go_wp2
        go_ret2
        exact ⟨rfl, rfl⟩
      · have n48 : ((c.toNat : Int) == 48) = false := byte_ne (n := 48) h48 (by decide)
        have HMZ := Lib.hid (show ¬ (1 < M ∧ c = 48) from fun e => h48 e.2)
        go_enter Tryd.func58, Tryd.ntmps58
        go_wp2
        go_loop [8, 9] (fun vn vi => ∃ (k : Nat) (n : Int), vi = .int .i64 k ∧ k ≤ M ∧ vn = .int .i64 n ∧ Hid (n = ((decV (T.data.toList.take k) : Nat) : Int) ∧ Digs (T.data.toList.take k))) (fun _ vi => M - (intOf vi).toNat)
        case atStart => exact ⟨0, 0, rfl, by omega, rfl, Lib.hid ⟨rfl, fun x hx => by cases hx⟩⟩
        case round =>
          obtain ⟨k, n, rfl, hk, rfl, HK⟩ := hrel
          by_cases hlt : k < M
          · obtain ⟨d, hd⟩ : ∃ d : UInt8, T[k]'(by omega) = d := ⟨_, rfl⟩
            have HD := Lib.hid (show T.data.toList[k]? = some d by rw [Lib.data_getElem? T k (by omega), hd])
            have HC := Lib.hid (refDigit_any d.toNat w d.toNat_lt)
            by_cases hh : digN d.toNat = true
            · rw [hh] at HC
              have hx0 : 48 ≤ d.toNat ∧ d.toNat ≤ 57 := by unfold digN at hh; simpa using hh
              have hx1 : (48 : Int) ≤ (d.toNat : Int) := by omega
              have hx2 : (d.toNat : Int) ≤ 57 := by omega
              have hb := decV_lt k (T.data.toList.take k) (by rw [List.length_take, HTM.out]; omega) HK.out.2
              have hp : 10 ^ k ≤ 10 ^ 17 := Nat.pow_le_pow_right (by decide) (by omega)
              have e14 : 10 ^ 17 = 100000000000000000 := by decide
              have hn0 : (0 : Int) ≤ n := by rw [HK.out.1]; omega
              have hn1 : n < 100000000000000000 := by rw [HK.out.1]; omega
              have HN := Lib.hid (show (10 * n + ((d.toNat : Int) - 48)) = ((decV (T.data.toList.take (k + 1)) : Nat) : Int) ∧ Digs (T.data.toList.take (k + 1)) from by
                obtain ⟨q1, q2⟩ := digs_snoc HD.out HK.out.2 hx0
                refine ⟨?_, q1⟩
                rw [q2, HK.out.1]; omega)
              clear hb hp e14 hh HD HK hx0
              go_wp2_with (go_at_call 55; (with_reducible refine HC.out.mono ?_); rintro e w' ⟨rfl, rfl⟩)
              go_round
              case rel => exact ⟨k + 1, 10 * n + ((d.toNat : Int) - 48), by go_num, by omega, by go_num, HN⟩
              case measure => simp only [intOf]; omega
            · have hq : decOk T.data.toList = false := decNo2 HD.out (by simpa using hh)
              rw [show digN d.toNat = false by simpa using hh] at HC
              obtain rfl : V = none := by rw [← HV.out, hq]; rfl
              clear hh HD HK hq
              go_wp2_with (go_at_call 55; (with_reducible refine HC.out.mono ?_); rintro e w' ⟨rfl, rfl⟩)
              go_ret2
              exact ⟨rfl, rfl⟩
          · obtain rfl : k = M := by omega
            have hfull : T.data.toList.take k = T.data.toList := List.take_of_length_le (by rw [HTM.out]; omega)
            have hb := decV_lt k (T.data.toList.take k) (by rw [List.length_take, HTM.out]; omega) HK.out.2
            have hp : 10 ^ k ≤ 10 ^ 18 := Nat.pow_le_pow_right (by decide) (by omega)
            have e14 : 10 ^ 18 = 1000000000000000000 := by decide
            have hn0 : (0 : Int) ≤ n := by rw [HK.out.1]; omega
            have hn1 : n < 1000000000000000000 := by rw [HK.out.1]; omega
            have hyes : decOk T.data.toList = true := by
              rw [decOk_iff, HTM.out, HCH.out]
              refine ⟨by omega, by omega, ?_, hfull ▸ HK.out.2⟩
              by_cases h1 : 1 < k
              · exact .inr (fun e => HMZ.out ⟨h1, e⟩)
              · exact .inl (by omega)
            obtain rfl : V = some (n) := by rw [← HV.out, hyes, if_pos rfl, HK.out.1, hfull]
            clear hfull hb hp e14 hyes
            go_wp2
            go_ret2
            exact ⟨by first | rfl | go_num | (simp; done) | (congr; omega), rfl⟩
    · have HMZ := Lib.hid (show ¬ (1 < M ∧ c = 48) from fun e => m1 e.1)
      go_enter Tryd.func58, Tryd.ntmps58
      go_wp2
      go_loop [8, 9] (fun vn vi => ∃ (k : Nat) (n : Int), vi = .int .i64 k ∧ k ≤ M ∧ vn = .int .i64 n ∧ Hid (n = ((decV (T.data.toList.take k) : Nat) : Int) ∧ Digs (T.data.toList.take k))) (fun _ vi => M - (intOf vi).toNat)
      case atStart => exact ⟨0, 0, rfl, by omega, rfl, Lib.hid ⟨rfl, fun x hx => by cases hx⟩⟩
      case round =>
        obtain ⟨k, n, rfl, hk, rfl, HK⟩ := hrel
        by_cases hlt : k < M
        · obtain ⟨d, hd⟩ : ∃ d : UInt8, T[k]'(by omega) = d := ⟨_, rfl⟩
          have HD := Lib.hid (show T.data.toList[k]? = some d by rw [Lib.data_getElem? T k (by omega), hd])
          have HC := Lib.hid (refDigit_any d.toNat w d.toNat_lt)
          by_cases hh : digN d.toNat = true
          · rw [hh] at HC
            have hx0 : 48 ≤ d.toNat ∧ d.toNat ≤ 57 := by unfold digN at hh; simpa using hh
            have hx1 : (48 : Int) ≤ (d.toNat : Int) := by omega
            have hx2 : (d.toNat : Int) ≤ 57 := by omega
            have hb := decV_lt k (T.data.toList.take k) (by rw [List.length_take, HTM.out]; omega) HK.out.2
            have hp : 10 ^ k ≤ 10 ^ 17 := Nat.pow_le_pow_right (by decide) (by omega)
            have e14 : 10 ^ 17 = 100000000000000000 := by decide
            have hn0 : (0 : Int) ≤ n := by rw [HK.out.1]; omega
            have hn1 : n < 100000000000000000 := by rw [HK.out.1]; omega
            have HN := Lib.hid (show (10 * n + ((d.toNat : Int) - 48)) = ((decV (T.data.toList.take (k + 1)) : Nat) : Int) ∧ Digs (T.data.toList.take (k + 1)) from by
              obtain ⟨q1, q2⟩ := digs_snoc HD.out HK.out.2 hx0
              refine ⟨?_, q1⟩
              rw [q2, HK.out.1]; omega)
            clear hb hp e14 hh HD HK hx0
            go_wp2_with (go_at_call 55; (with_reducible refine HC.out.mono ?_); rintro e w' ⟨rfl, rfl⟩)
            go_round
            case rel => exact ⟨k + 1, 10 * n + ((d.toNat : Int) - 48), by go_num, by omega, by go_num, HN⟩
            case measure => simp only [intOf]; omega
          · have hq : decOk T.data.toList = false := decNo2 HD.out (by simpa using hh)
            rw [show digN d.toNat = false by simpa using hh] at HC
            obtain rfl : V = none := by rw [← HV.out, hq]; rfl
            clear hh HD HK hq
            go_wp2_with (go_at_call 55; (with_reducible refine HC.out.mono ?_); rintro e w' ⟨rfl, rfl⟩)
            go_ret2
            exact ⟨rfl, rfl⟩
        · obtain rfl : k = M := by omega
          have hfull : T.data.toList.take k = T.data.toList := List.take_of_length_le (by rw [HTM.out]; omega)
          have hb := decV_lt k (T.data.toList.take k) (by rw [List.length_take, HTM.out]; omega) HK.out.2
          have hp : 10 ^ k ≤ 10 ^ 18 := Nat.pow_le_pow_right (by decide) (by omega)
          have e14 : 10 ^ 18 = 1000000000000000000 := by decide
          have hn0 : (0 : Int) ≤ n := by rw [HK.out.1]; omega
          have hn1 : n < 1000000000000000000 := by rw [HK.out.1]; omega
          have hyes : decOk T.data.toList = true := by
            rw [decOk_iff, HTM.out, HCH.out]
            refine ⟨by omega, by omega, ?_, hfull ▸ HK.out.2⟩
            by_cases h1 : 1 < k
            · exact .inr (fun e => HMZ.out ⟨h1, e⟩)
            · exact .inl (by omega)
          obtain rfl : V = some (n) := by rw [← HV.out, hyes, if_pos rfl, HK.out.1, hfull]
          clear hfull hb hp e14 hyes
          go_wp2
          go_ret2
          exact ⟨by first | rfl | go_num | (simp; done) | (congr; omega), rfl⟩
  · intro g2
    have g1' : (2 : Int) < (M : Int) := by omega
    by_cases m18 : 18 < M
    · obtain rfl : V = none := by rw [← HV.out, decNo (.inl (by rw [HTM.out]; exact m18))]; rfl
      go_enter Tryd.func58, Tryd.ntmps58
      go_wp2
      all_goals first | (exfalso; omega) | (go_ret2; exact ⟨rfl, rfl⟩)
    by_cases h48 : c = 48
    · subst h48
      obtain rfl : V = none := by rw [← HV.out, decNo (.inr (.inr ⟨by rw [HTM.out]; omega, HCH.out⟩))]; rfl
      go_enter Tryd.func58, Tryd.ntmps58
      go_wp2
      go_ret2
      exact ⟨rfl, rfl⟩
    · have n48 : ((c.toNat : Int) == 48) = false := byte_ne (n := 48) h48 (by decide)
      have HMZ := Lib.hid (show ¬ (1 < M ∧ c = 48) from fun e => h48 e.2)
      go_enter Tryd.func58, Tryd.ntmps58
      go_wp2
      go_loop [8, 9] (fun vn vi => ∃ (k : Nat) (n : Int), vi = .int .i64 k ∧ k ≤ M ∧ vn = .int .i64 n ∧ Hid (n = ((decV (T.data.toList.take k) : Nat) : Int) ∧ Digs (T.data.toList.take k))) (fun _ vi => M - (intOf vi).toNat)
      case atStart => exact ⟨0, 0, rfl, by omega, rfl, Lib.hid ⟨rfl, fun x hx => by cases hx⟩⟩
      case round =>
        obtain ⟨k, n, rfl, hk, rfl, HK⟩ := hrel
        by_cases hlt : k < M
        · obtain ⟨d, hd⟩ : ∃ d : UInt8, T[k]'(by omega) = d := ⟨_, rfl⟩
          have HD := Lib.hid (show T.data.toList[k]? = some d by rw [Lib.data_getElem? T k (by omega), hd])
          have HC := Lib.hid (refDigit_any d.toNat w d.toNat_lt)
          by_cases hh : digN d.toNat = true
          · rw [hh] at HC
            have hx0 : 48 ≤ d.toNat ∧ d.toNat ≤ 57 := by unfold digN at hh; simpa using hh
            have hx1 : (48 : Int) ≤ (d.toNat : Int) := by omega
            have hx2 : (d.toNat : Int) ≤ 57 := by omega
            have hb := decV_lt k (T.data.toList.take k) (by rw [List.length_take, HTM.out]; omega) HK.out.2
            have hp : 10 ^ k ≤ 10 ^ 17 := Nat.pow_le_pow_right (by decide) (by omega)
            have e14 : 10 ^ 17 = 100000000000000000 := by decide
            have hn0 : (0 : Int) ≤ n := by rw [HK.out.1]; omega
            have hn1 : n < 100000000000000000 := by rw [HK.out.1]; omega
            have HN := Lib.hid (show (10 * n + ((d.toNat : Int) - 48)) = ((decV (T.data.toList.take (k + 1)) : Nat) : Int) ∧ Digs (T.data.toList.take (k + 1)) from by
              obtain ⟨q1, q2⟩ := digs_snoc HD.out HK.out.2 hx0
              refine ⟨?_, q1⟩
              rw [q2, HK.out.1]; omega)
            clear hb hp e14 hh HD HK hx0
            go_wp2_with (go_at_call 55; (with_reducible refine HC.out.mono ?_); rintro e w' ⟨rfl, rfl⟩)
            go_round
            case rel => exact ⟨k + 1, 10 * n + ((d.toNat : Int) - 48), by go_num, by omega, by go_num, HN⟩
            case measure => simp only [intOf]; omega
          · have hq : decOk T.data.toList = false := decNo2 HD.out (by simpa using hh)
            rw [show digN d.toNat = false by simpa using hh] at HC
            obtain rfl : V = none := by rw [← HV.out, hq]; rfl
            clear hh HD HK hq
            go_wp2_with (go_at_call 55; (with_reducible refine HC.out.mono ?_); rintro e w' ⟨rfl, rfl⟩)
            go_ret2
            exact ⟨rfl, rfl⟩
        · obtain rfl : k = M := by omega
          have hfull : T.data.toList.take k = T.data.toList := List.take_of_length_le (by rw [HTM.out]; omega)
          have hb := decV_lt k (T.data.toList.take k) (by rw [List.length_take, HTM.out]; omega) HK.out.2
          have hp : 10 ^ k ≤ 10 ^ 18 := Nat.pow_le_pow_right (by decide) (by omega)
          have e14 : 10 ^ 18 = 1000000000000000000 := by decide
          have hn0 : (0 : Int) ≤ n := by rw [HK.out.1]; omega
          have hn1 : n < 1000000000000000000 := by rw [HK.out.1]; omega
          have hyes : decOk T.data.toList = true := by
            rw [decOk_iff, HTM.out, HCH.out]
            refine ⟨by omega, by omega, ?_, hfull ▸ HK.out.2⟩
            by_cases h1 : 1 < k
            · exact .inr (fun e => HMZ.out ⟨h1, e⟩)
            · exact .inl (by omega)
          obtain rfl : V = some (n) := by rw [← HV.out, hyes, if_pos rfl, HK.out.1, hfull]
          clear hfull hb hp e14 hyes
          go_wp2
          go_ret2
          exact ⟨by first | rfl | go_num | (simp; done) | (congr; omega), rfl⟩
end Go.Proofs.YtmehigmomhiaeaaDoor
