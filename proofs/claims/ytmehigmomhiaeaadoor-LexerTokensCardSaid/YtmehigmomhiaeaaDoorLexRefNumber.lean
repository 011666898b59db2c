/- The reference's Number. -/
import Derived.Test.YtmehigmomhiaeaaDoorLexRefSkip
import Derived.Test.YtmehigmomhiaeaaDoorLexNumMath
namespace Go.Proofs.YtmehigmomhiaeaaDoor
open Go.RowKit
set_option linter.unusedVariables false
set_option linter.unusedSimpArgs false

theorem numV_hexR {l : List UInt8} (h : l.take 2 = [48, 120]) : numV l = if hexOk (l.drop 2) then some ((hexV (l.drop 2) : Nat) : Int) else none := by unfold numV; rw [if_pos h]
theorem hexNo {d : List UInt8} (h : 15 < d.length ∨ (1 < d.length ∧ d.headD 0 = 48)) : hexOk d = false := by
  rw [← Bool.not_eq_true, hexOk_iff]
  rintro ⟨_, h2, h3, _⟩
  rcases h with h | ⟨h, h'⟩
  · omega
  · rcases h3 with h3 | h3
    · omega
    · exact h3 h'
theorem hexNo2 {d : List UInt8} {k : Nat} {c : UInt8} (h : d[k]? = some c) (hc : hexN c.toNat = false) : hexOk d = false := by
  rw [← Bool.not_eq_true, hexOk_iff]
  rintro ⟨_, _, _, h4⟩
  have := h4 c (List.mem_of_getElem? h)
  rw [hc] at this; cases this
theorem take_snoc {d : List UInt8} {k : Nat} {c : UInt8} (h : d[k]? = some c) : d.take (k + 1) = d.take k ++ [c] := by
  rw [List.take_add_one, h]; rfl
theorem hexs_snoc {d : List UInt8} {k : Nat} {c : UInt8} (h : d[k]? = some c) (hd : Hexs (d.take k)) (hc : hexN c.toNat = true) : Hexs (d.take (k + 1)) ∧ hexV (d.take (k + 1)) = 16 * hexV (d.take k) + hexD1 c.toNat := by
  rw [take_snoc h]
  refine ⟨fun x hx => ?_, hexV_snoc _ _⟩
  rcases List.mem_append.1 hx with hx | hx
  · exact hd x hx
  · simp at hx; subst hx; exact hc
theorem hexD1_lt {c : Nat} (h : hexN c = true) : hexD1 c < 16 := by
  unfold hexN at h; unfold hexD1
  by_cases hd : digN c = true
  · rw [if_pos hd]; unfold digN at hd; simp at hd; omega
  · rw [if_neg hd]; simp at hd; rw [hd] at h; simp at h; omega

set_option maxHeartbeats 1000000 in
set_option maxRecDepth 100000 in
theorem refNumHex_any (s : ByteArray) (w : World) (hs : s.size ≤ 999999) (h2 : 2 < s.size) (hx : s.extract 0 2 = ⟨#[48, 120]⟩) :
    Calls Tryd.prog 58 #[.string s] w fun e w' => e = .returned (.tuple #[.int .i64 ((numV s.data.toList).getD 0), .bool (numV s.data.toList).isSome]) ∧ w = w' := by
  obtain ⟨V, hV⟩ : ∃ V, numV s.data.toList = V := ⟨_, rfl⟩
  rw [hV]
  obtain ⟨T, hT⟩ : ∃ T, s.extract 2 s.size = T := ⟨_, rfl⟩
  have hTl : T.data.toList = s.data.toList.drop 2 := by
    rw [← hT, Lib.extract_data, List.take_of_length_le (by rw [List.length_drop]; have : s.data.toList.length = s.size := rfl; omega)]
  have htk : s.data.toList.take 2 = [48, 120] := by
    have := congrArg (fun b : ByteArray => b.data.toList) hx
    simp only [Lib.extract_data] at this
    simpa using this
  rw [numV_hexR htk, ← hTl] at hV
  have hTs : T.size = s.size - 2 := by rw [← hT, ByteArray.size_extract]; omega
  have HV := Lib.hid hV
  obtain ⟨L, hL⟩ : ∃ L, s.size = L := ⟨_, rfl⟩
  rw [hL] at hT hTs
  have hL1 : (2 : Int) < (L : Int) := by omega
  have hL2 : (L : Int) ≤ 999999 := by omega
  obtain ⟨M, hM⟩ : ∃ M, T.size = M := ⟨_, rfl⟩
  have hTM : T.data.toList.length = M := hM
  have HTM := Lib.hid hTM
  have M0 : 0 < M := by omega
  have M9 : M ≤ 999999 := by omega
  clear hV hTl htk hTs hTM h2 hs
  by_cases m15 : 15 < M
  · obtain rfl : V = none := by rw [← HV.out, if_neg (by rw [hexNo (.inl (by rw [HTM.out]; omega))]; simp)]
    have m15' : (15 : Int) < (M : Int) := by omega
    go_enter Tryd.func58, Tryd.ntmps58
    go_wp2
    go_ret2
    exact ⟨rfl, rfl⟩
  have m15' : (M : Int) ≤ 15 := by omega
  obtain ⟨c, hc⟩ : ∃ c : UInt8, T[0]'(by omega) = c := ⟨_, rfl⟩
  have hc0 : T.data.toList[0]? = some c := by rw [Lib.data_getElem? T 0 (by omega), hc]
  have hch : T.data.toList.headD 0 = c := by
    rw [headD_get _ (by rw [HTM.out]; exact M0)]
    exact (List.getElem?_eq_some_iff.1 hc0).2
  have HCH := Lib.hid hch
  clear hc0 hch
  by_cases mz : 1 < M ∧ c = 48
  · obtain ⟨m1, rfl⟩ := mz
    obtain rfl : V = none := by rw [← HV.out, if_neg (by rw [hexNo (.inr ⟨by rw [HTM.out]; omega, HCH.out⟩)]; simp)]
    have m1' : (1 : Int) < (M : Int) := by omega
    go_enter Tryd.func58, Tryd.ntmps58
    go_wp2
    go_ret2
    exact ⟨rfl, rfl⟩
  have mg : M ≤ 1 ∨ ((c.toNat : Int) == 48) = false := by
    by_cases m1 : 1 < M
    · exact .inr (by have : c ≠ 48 := fun e => mz ⟨m1, e⟩; simp only [beq_eq_false_iff_ne]; intro e; exact this (UInt8.toNat_inj.1 (by simp; omega)))
    · exact .inl (by omega)
  have HMZ := Lib.hid mz
  clear mz
  rcases mg with mg | mg
  · have m1' : ¬ (1 : Int) < (M : Int) := by omega
    go_enter Tryd.func58, Tryd.ntmps58
    go_wp2
    go_loop [4, 5] (fun vn vi => ∃ (k : Nat) (n : Int), vi = .int .i64 k ∧ k ≤ M ∧ vn = .int .i64 n ∧ Hid (n = ((hexV (T.data.toList.take k) : Nat) : Int) ∧ Hexs (T.data.toList.take k))) (fun _ vi => M - (intOf vi).toNat)
    case atStart => exact ⟨0, 0, rfl, by omega, rfl, Lib.hid ⟨rfl, fun x hx => by cases hx⟩⟩
    case round =>
      obtain ⟨k, n, rfl, hk, rfl, HK⟩ := hrel
      by_cases hlt : k < M
      · obtain ⟨d, hd⟩ : ∃ d : UInt8, T[k]'(by omega) = d := ⟨_, rfl⟩
        have HD := Lib.hid (show T.data.toList[k]? = some d by rw [Lib.data_getElem? T k (by omega), hd])
        have HC := Lib.hid (refHex_any d.toNat w d.toNat_lt)
        by_cases hh : hexN d.toNat = true
        · obtain ⟨x, hx2⟩ : ∃ x : Int, ((hexD1 d.toNat : Nat) : Int) = x := ⟨_, rfl⟩
          rw [if_pos hh, hx2] at HC
          have hx0 : (0 : Int) ≤ x := by omega
          have hx1 : x < 16 := by have := hexD1_lt hh; omega
          have hb := hexV_lt k (T.data.toList.take k) (by rw [List.length_take, HTM.out]; omega) HK.out.2
          have hp : 16 ^ k ≤ 16 ^ 14 := Nat.pow_le_pow_right (by decide) (by omega)
          have e14 : 16 ^ 14 = 72057594037927936 := by decide
          have hn0 : (0 : Int) ≤ n := by rw [HK.out.1]; omega
          have hn1 : n < 72057594037927936 := by rw [HK.out.1]; omega
          have HN := Lib.hid (show (16 * n + x) = ((hexV (T.data.toList.take (k + 1)) : Nat) : Int) ∧ Hexs (T.data.toList.take (k + 1)) from by
            obtain ⟨q1, q2⟩ := hexs_snoc HD.out HK.out.2 hh
            refine ⟨?_, q1⟩
            rw [q2, HK.out.1, ← hx2]; omega)
          clear hb hp e14 hx2 hh HD HK
          go_wp2_with (go_at_call 67; (with_reducible refine HC.out.mono ?_); rintro e w' ⟨rfl, rfl⟩)
          go_round
          case rel => exact ⟨k + 1, 16 * n + x, by go_num, by omega, by go_num, HN⟩
          case measure => simp only [intOf]; omega
        · rw [if_neg hh] at HC
          obtain rfl : V = none := by rw [← HV.out, if_neg (by rw [hexNo2 HD.out (by simpa using hh)]; simp)]
          clear hh HD HK
          go_wp2_with (go_at_call 67; (with_reducible refine HC.out.mono ?_); rintro e w' ⟨rfl, rfl⟩)
          go_ret2
          exact ⟨rfl, rfl⟩
      · obtain rfl : k = M := by omega
        have hfull : T.data.toList.take k = T.data.toList := List.take_of_length_le (by rw [HTM.out]; omega)
        obtain rfl : V = some n := by
          rw [← HV.out, if_pos, HK.out.1, hfull]
          rw [hexOk_iff, HTM.out, HCH.out]
          refine ⟨by omega, by omega, ?_, hfull ▸ HK.out.2⟩
          by_cases h1 : 1 < k
          · exact .inr (fun e => HMZ.out ⟨h1, e⟩)
          · exact .inl (by omega)
        clear hfull
        go_wp2
        go_ret2
        exact ⟨rfl, rfl⟩
  · by_cases m1 : 1 < M
    · have m1' : (1 : Int) < (M : Int) := by omega
      go_enter Tryd.func58, Tryd.ntmps58
      go_wp2
      go_loop [4, 5] (fun vn vi => ∃ (k : Nat) (n : Int), vi = .int .i64 k ∧ k ≤ M ∧ vn = .int .i64 n ∧ Hid (n = ((hexV (T.data.toList.take k) : Nat) : Int) ∧ Hexs (T.data.toList.take k))) (fun _ vi => M - (intOf vi).toNat)
      case atStart => exact ⟨0, 0, rfl, by omega, rfl, Lib.hid ⟨rfl, fun x hx => by cases hx⟩⟩
      case round =>
        obtain ⟨k, n, rfl, hk, rfl, HK⟩ := hrel
        by_cases hlt : k < M
        · obtain ⟨d, hd⟩ : ∃ d : UInt8, T[k]'(by omega) = d := ⟨_, rfl⟩
          have HD := Lib.hid (show T.data.toList[k]? = some d by rw [Lib.data_getElem? T k (by omega), hd])
          have HC := Lib.hid (refHex_any d.toNat w d.toNat_lt)
          by_cases hh : hexN d.toNat = true
          · obtain ⟨x, hx2⟩ : ∃ x : Int, ((hexD1 d.toNat : Nat) : Int) = x := ⟨_, rfl⟩
            rw [if_pos hh, hx2] at HC
            have hx0 : (0 : Int) ≤ x := by omega
            have hx1 : x < 16 := by have := hexD1_lt hh; omega
            have hb := hexV_lt k (T.data.toList.take k) (by rw [List.length_take, HTM.out]; omega) HK.out.2
            have hp : 16 ^ k ≤ 16 ^ 14 := Nat.pow_le_pow_right (by decide) (by omega)
            have e14 : 16 ^ 14 = 72057594037927936 := by decide
            have hn0 : (0 : Int) ≤ n := by rw [HK.out.1]; omega
            have hn1 : n < 72057594037927936 := by rw [HK.out.1]; omega
            have HN := Lib.hid (show (16 * n + x) = ((hexV (T.data.toList.take (k + 1)) : Nat) : Int) ∧ Hexs (T.data.toList.take (k + 1)) from by
              obtain ⟨q1, q2⟩ := hexs_snoc HD.out HK.out.2 hh
              refine ⟨?_, q1⟩
              rw [q2, HK.out.1, ← hx2]; omega)
            clear hb hp e14 hx2 hh HD HK
            go_wp2_with (go_at_call 67; (with_reducible refine HC.out.mono ?_); rintro e w' ⟨rfl, rfl⟩)
            go_round
            case rel => exact ⟨k + 1, 16 * n + x, by go_num, by omega, by go_num, HN⟩
            case measure => simp only [intOf]; omega
          · rw [if_neg hh] at HC
            obtain rfl : V = none := by rw [← HV.out, if_neg (by rw [hexNo2 HD.out (by simpa using hh)]; simp)]
            clear hh HD HK
            go_wp2_with (go_at_call 67; (with_reducible refine HC.out.mono ?_); rintro e w' ⟨rfl, rfl⟩)
            go_ret2
            exact ⟨rfl, rfl⟩
        · obtain rfl : k = M := by omega
          have hfull : T.data.toList.take k = T.data.toList := List.take_of_length_le (by rw [HTM.out]; omega)
          obtain rfl : V = some n := by
            rw [← HV.out, if_pos, HK.out.1, hfull]
            rw [hexOk_iff, HTM.out, HCH.out]
            refine ⟨by omega, by omega, ?_, hfull ▸ HK.out.2⟩
            by_cases h1 : 1 < k
            · exact .inr (fun e => HMZ.out ⟨h1, e⟩)
            · exact .inl (by omega)
          clear hfull
          go_wp2
          go_ret2
          exact ⟨rfl, rfl⟩
    · have m1' : ¬ (1 : Int) < (M : Int) := by omega
      go_enter Tryd.func58, Tryd.ntmps58
      go_wp2
      go_loop [4, 5] (fun vn vi => ∃ (k : Nat) (n : Int), vi = .int .i64 k ∧ k ≤ M ∧ vn = .int .i64 n ∧ Hid (n = ((hexV (T.data.toList.take k) : Nat) : Int) ∧ Hexs (T.data.toList.take k))) (fun _ vi => M - (intOf vi).toNat)
      case atStart => exact ⟨0, 0, rfl, by omega, rfl, Lib.hid ⟨rfl, fun x hx => by cases hx⟩⟩
      case round =>
        obtain ⟨k, n, rfl, hk, rfl, HK⟩ := hrel
        by_cases hlt : k < M
        · obtain ⟨d, hd⟩ : ∃ d : UInt8, T[k]'(by omega) = d := ⟨_, rfl⟩
          have HD := Lib.hid (show T.data.toList[k]? = some d by rw [Lib.data_getElem? T k (by omega), hd])
          have HC := Lib.hid (refHex_any d.toNat w d.toNat_lt)
          by_cases hh : hexN d.toNat = true
          · obtain ⟨x, hx2⟩ : ∃ x : Int, ((hexD1 d.toNat : Nat) : Int) = x := ⟨_, rfl⟩
            rw [if_pos hh, hx2] at HC
            have hx0 : (0 : Int) ≤ x := by omega
            have hx1 : x < 16 := by have := hexD1_lt hh; omega
            have hb := hexV_lt k (T.data.toList.take k) (by rw [List.length_take, HTM.out]; omega) HK.out.2
            have hp : 16 ^ k ≤ 16 ^ 14 := Nat.pow_le_pow_right (by decide) (by omega)
            have e14 : 16 ^ 14 = 72057594037927936 := by decide
            have hn0 : (0 : Int) ≤ n := by rw [HK.out.1]; omega
            have hn1 : n < 72057594037927936 := by rw [HK.out.1]; omega
            have HN := Lib.hid (show (16 * n + x) = ((hexV (T.data.toList.take (k + 1)) : Nat) : Int) ∧ Hexs (T.data.toList.take (k + 1)) from by
              obtain ⟨q1, q2⟩ := hexs_snoc HD.out HK.out.2 hh
              refine ⟨?_, q1⟩
              rw [q2, HK.out.1, ← hx2]; omega)
            clear hb hp e14 hx2 hh HD HK
            go_wp2_with (go_at_call 67; (with_reducible refine HC.out.mono ?_); rintro e w' ⟨rfl, rfl⟩)
            go_round
            case rel => exact ⟨k + 1, 16 * n + x, by go_num, by omega, by go_num, HN⟩
            case measure => simp only [intOf]; omega
          · rw [if_neg hh] at HC
            obtain rfl : V = none := by rw [← HV.out, if_neg (by rw [hexNo2 HD.out (by simpa using hh)]; simp)]
            clear hh HD HK
            go_wp2_with (go_at_call 67; (with_reducible refine HC.out.mono ?_); rintro e w' ⟨rfl, rfl⟩)
            go_ret2
            exact ⟨rfl, rfl⟩
        · obtain rfl : k = M := by omega
          have hfull : T.data.toList.take k = T.data.toList := List.take_of_length_le (by rw [HTM.out]; omega)
          obtain rfl : V = some n := by
            rw [← HV.out, if_pos, HK.out.1, hfull]
            rw [hexOk_iff, HTM.out, HCH.out]
            refine ⟨by omega, by omega, ?_, hfull ▸ HK.out.2⟩
            by_cases h1 : 1 < k
            · exact .inr (fun e => HMZ.out ⟨h1, e⟩)
            · exact .inl (by omega)
          clear hfull
          go_wp2
          go_ret2
          exact ⟨rfl, rfl⟩
end Go.Proofs.YtmehigmomhiaeaaDoor
