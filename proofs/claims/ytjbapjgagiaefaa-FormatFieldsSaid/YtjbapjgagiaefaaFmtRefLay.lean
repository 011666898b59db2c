/- The reference's Mask, Get, Put of layer 9. -/
import Derived.Test.YtjbapjgagiaefaaFmtRefCheck
import Derived.Test.YtjbapjgagiaefaaFmtPut
namespace Go.Proofs.Ytjbapjgagiaefaa
open Go.RowKit Go.Instr
set_option linter.unusedVariables false
set_option linter.unusedSimpArgs false
set_option maxRecDepth 100000
set_option maxHeartbeats 2000000

theorem orB_lt {ps : List Nat} (h : ∀ p ∈ ps, p < 64) : orB 0 ps < 18446744073709551616 := by
  apply Nat.lt_pow_two_of_testBit (n := 64)
  intro j hj
  rw [orB_bit, Nat.zero_testBit, Bool.false_or]
  simp only [decide_eq_false_iff_not]
  intro hm
  have := h j hm
  omega
theorem setAll_lt : ∀ (ps : List Nat) (w f : Nat), (∀ p ∈ ps, p < 64) → w < 18446744073709551616 → setAll w f ps < 18446744073709551616
  | [], w, f, _, hw => hw
  | p :: ps, w, f, h, hw => setAll_lt ps _ _ (fun q hq => h q (by simp [hq])) (setB_lt hw (h p (by simp)))
theorem places_len64 {L : List MPiece} (h : GoodL L) : (placesL L).length ≤ 64 := by rw [placesL_len]; exact h.2
theorem refMask_any (size : Int) (A : Option Addr) (c : Nat) (L : List MPiece) (w : World) (hA : PcsAt w A L) (hok : PcsOk L) (hc : L.length ≤ c) (hcm : c ≤ maxLen) :
    Calls Try.prog 21 #[.int .i64 size, .slice A L.length c] w fun e w' => e = .returned (.tuple #[.int .u64 ((maskR size L).1 : Nat), .int .i64 (maskR size L).2]) ∧ Below w.heap.size w w' := by
  have HC := Lib.hid (refCheck_any size A c L w hA hok hc hcm)
  obtain ⟨n, hn⟩ : ∃ n, L.length = n := ⟨_, rfl⟩
  by_cases h0 : (maskR size L).2 = 0
  case neg =>
    have h1 : ((maskR size L).2 != 0) = true := by simpa using h0
    rw [(maskR_bad h0).1]
    rw [hn] at HC ⊢
    generalize (maskR size L).2 = z at *
    clear hA hok hc hcm hn h0
    go_enter Try.func21, Try.ntmps21
    go_wp2_with (go_at_call 24; (with_reducible refine HC.out.mono ?_); rintro e w' ⟨rfl, hb⟩)
    go_ret2
    exact ⟨rfl, hb⟩
  obtain ⟨hs, h4, hgood, hm⟩ := maskR_ok h0
  have hGL := goodL_of hs hgood
  have HP := Lib.hid (fun W (h : Below w.heap.size w W) => refPlaces_any A c L W (hA.later h) hGL hc hcm)
  have hnd := placesL_nodup hgood
  have h64 := places_len64 hGL
  have hlt64 := placesL_lt hGL
  have hfin := orB_mask L
  rw [h0] at HC
  rw [hm]
  clear hm
  rw [hn] at HC HP ⊢
  obtain ⟨M, hM⟩ : ∃ M, maskN 0 L = M := ⟨_, rfl⟩
  rw [hM] at hfin ⊢
  have HQ := Lib.hid (show ∀ e W, PlacesGive L W e = PlacesGive L W e from fun _ _ => rfl)
  obtain ⟨ps, hps⟩ : ∃ ps, placesL L = ps := ⟨_, rfl⟩
  obtain ⟨N, hN⟩ : ∃ N, ps.length = N := ⟨_, rfl⟩
  have HG : Hid (∀ W e w', PlacesGive L W e w' → ∃ v A2 c2, e = .returned v ∧ v = .slice A2 N c2 ∧ (∀ i p, ps[i]? = some p → ∃ g, A2 = some ⟨g, 0, none⟩ ∧ w'.cell? ⟨g, i, none⟩ = some (.int .i64 (p : Nat))) ∧ Below W.heap.size W w') := Lib.hid (fun W e w' ⟨v, he, ho, hb⟩ => by
    obtain ⟨A2, c2, hv, hc2⟩ := intsAt_own ho
    rw [hps, hN] at hv
    rw [hps] at hc2
    exact ⟨v, A2, c2, he, hv, hc2, hb⟩)
  rw [hps] at hnd h64 hlt64 hfin
  rw [hN] at h64
  have HPS := Lib.hid (And.intro hN (And.intro hnd (And.intro hlt64 hfin)))
  have hN64 : (N : Int) ≤ 64 := by omega
  clear hA hok hc hcm hn h0 hs h4 hgood hGL hnd h64 hlt64 hfin hM hps hN HQ
  go_enter Try.func21, Try.ntmps21
  go_wp2_with (first
    | (go_at_call 24; (with_reducible refine HC.out.mono ?_); rintro e w1 ⟨rfl, hb1⟩)
    | (go_at_call 42; (with_reducible refine (HP.out _ (by assumption)).mono ?_); intro e w2 hg2; obtain ⟨v2, A2, c2, rfl, rfl, hI2, hb2⟩ := HG.out _ _ _ hg2; have HI2 := Lib.hid hI2; clear hI2 hg2))
  go_loop [8, 9] (fun vm vi => ∃ m i : Nat, vm = .int .u64 m ∧ vi = .int .i64 i ∧ i ≤ N ∧ Hid (m = orB 0 (ps.take i))) (fun _ vi => N - (intOf vi).toNat)
  case atStart => exact ⟨0, 0, rfl, rfl, Nat.zero_le _, Lib.hid (by simp [orB])⟩
  case round =>
    obtain ⟨m, i, rfl, rfl, hi, HM⟩ := hrel
    by_cases hlt : i < N
    · obtain ⟨p, hp⟩ : ∃ p, ps[i]? = some p := ⟨_, List.getElem?_eq_getElem (by rw [HPS.out.1]; exact hlt)⟩
      obtain ⟨g, rfl, c0⟩ := HI2.out i p hp
      have hp64 := HPS.out.2.2.1 p (List.mem_of_getElem? hp)
      have hstep := orB_step HPS.out.2.1 hp
      have hlt2 := orB_lt (ps := ps.take (i + 1)) (fun q hq => HPS.out.2.2.1 q (List.mem_of_mem_take hq))
      rw [hstep, ← HM.out] at hlt2
      rw [← HM.out] at hstep
      have HV := Lib.hid (fun W => refValue_any p (by omega) W)
      obtain ⟨T, hT⟩ : ∃ T, 2 ^ p = T := ⟨_, rfl⟩
      rw [hT] at hstep hlt2 HV
      have hw : IntKind.u64.wrap ((m : Int) + (T : Int)) = ((m + T : Nat) : Int) := by rw [IntKind.wrap_u64, ← Int.natCast_add]; omega
      have HST := Lib.hid hstep
      have HLT := Lib.hid hlt
      clear hp hstep hlt2 hT
      go_wp2_with (go_at_call 43; (with_reducible refine (HV.out _).mono ?_); rintro e w' ⟨rfl, rfl⟩)
      go_round
      case rel => exact ⟨m + T, i + 1, by first | rfl | go_num, by first | rfl | go_num, by have := HLT.out; omega, Lib.hid HST.out.symm⟩
      case measure => simp only [intOf]; have := HLT.out; omega
    · obtain rfl : i = N := by omega
      have h1 := HM.out
      rw [List.take_of_length_le (by rw [HPS.out.1]; exact Nat.le_refl _), HPS.out.2.2.2] at h1
      have H1 := Lib.hid h1
      clear h1
      go_wp2
      go_ret2
      exact ⟨by rw [H1.out]; rfl, hb1.trans (hb2.mono hb1.size)⟩
theorem refGet_any (size : Int) (word : Nat) (A : Option Addr) (c : Nat) (L : List MPiece) (w : World) (hA : PcsAt w A L) (hok : PcsOk L) (hc : L.length ≤ c) (hcm : c ≤ maxLen) (hword : word < 18446744073709551616) :
    Calls Try.prog 23 #[.int .i64 size, .int .u64 word, .slice A L.length c] w fun e w' => e = .returned (.tuple #[.int .u64 ((getR size word L).1 : Nat), .int .i64 (getR size word L).2]) ∧ Below w.heap.size w w' := by
  have HC := Lib.hid (refCheck_any size A c L w hA hok hc hcm)
  obtain ⟨n, hn⟩ : ∃ n, L.length = n := ⟨_, rfl⟩
  by_cases h0 : (maskR size L).2 = 0
  case neg =>
    have hcw : cwR size word L = (maskR size L).2 := by unfold cwR; rw [if_neg h0]
    rw [show getR size word L = (0, (maskR size L).2) by unfold getR; rw [hcw, if_neg h0]]
    have h1 : ((maskR size L).2 != 0) = true := by simpa using h0
    have h2 : ((maskR size L).2 == 0) = false := by simpa using h0
    rw [hn] at HC ⊢
    generalize (maskR size L).2 = z at *
    clear hA hok hc hcm hn h0 hcw hword
    go_enter Try.func23, Try.ntmps23
    go_wp2_with (go_at_call 24; (with_reducible refine HC.out.mono ?_); rintro e w' ⟨rfl, hb⟩)
    go_ret2
    exact ⟨rfl, hb⟩
  obtain ⟨hs, h4, hgood, hm⟩ := maskR_ok h0
  obtain ⟨sz, rfl⟩ : ∃ sz : Nat, size = sz := ⟨size.toNat, by omega⟩
  have HB := Lib.hid (fun W => refBelow9_any word sz (by omega) hword W)
  rw [h0] at HC
  cases hw : okB sz word
  · have hcw : cwR sz word L = 24 := by unfold cwR; rw [if_pos h0, Int.toNat_natCast, hw, if_neg (by decide)]
    rw [show getR sz word L = (0, 24) by unfold getR; rw [hcw, if_neg (by decide)]]
    rw [hw] at HB
    rw [hn] at HC ⊢
    clear hA hok hc hcm hn h0 hcw hword hs h4 hgood hm hw
    go_enter Try.func23, Try.ntmps23
    go_wp2_with (first
      | (go_at_call 24; (with_reducible refine HC.out.mono ?_); rintro e w' ⟨rfl, hb⟩)
      | (go_at_call 44; (with_reducible refine (HB.out _).mono ?_); rintro e w' ⟨rfl, rfl⟩))
    go_ret2
    exact ⟨rfl, hb⟩
  have hcw : cwR sz word L = 0 := by unfold cwR; rw [if_pos h0, Int.toNat_natCast, hw, if_pos rfl]
  rw [show getR sz word L = (getN word L, 0) by unfold getR; rw [if_pos hcw]]
  rw [hw] at HB
  have hGL := goodL_of hs hgood
  have HP := Lib.hid (fun W (h : Below w.heap.size w W) => refPlaces_any A c L W (hA.later h) hGL hc hcm)
  have h64 := places_len64 hGL
  have hlt64 := placesL_lt hGL
  have hfin := getN_val word L
  rw [hn] at HC HP ⊢
  obtain ⟨M, hM⟩ : ∃ M, getN word L = M := ⟨_, rfl⟩
  rw [hM] at hfin ⊢
  obtain ⟨ps, hps⟩ : ∃ ps, placesL L = ps := ⟨_, rfl⟩
  obtain ⟨N, hN⟩ : ∃ N, ps.length = N := ⟨_, rfl⟩
  have HG : Hid (∀ W e w', PlacesGive L W e w' → ∃ v A2 c2, e = .returned v ∧ v = .slice A2 N c2 ∧ (∀ i p, ps[i]? = some p → ∃ g, A2 = some ⟨g, 0, none⟩ ∧ w'.cell? ⟨g, i, none⟩ = some (.int .i64 (p : Nat))) ∧ Below W.heap.size W w') := Lib.hid (fun W e w' ⟨v, he, ho, hb⟩ => by
    obtain ⟨A2, c2, hv, hc2⟩ := intsAt_own ho
    rw [hps, hN] at hv
    rw [hps] at hc2
    exact ⟨v, A2, c2, he, hv, hc2, hb⟩)
  rw [hps] at h64 hlt64 hfin
  rw [hN] at h64
  have HPS := Lib.hid (And.intro hN (And.intro hlt64 hfin))
  have HW := Lib.hid hword
  have hN64 : (N : Int) ≤ 64 := by omega
  clear hA hok hc hcm hn h0 hs h4 hgood hm hGL h64 hlt64 hfin hM hps hN hcw hw hword
  go_enter Try.func23, Try.ntmps23
  go_wp2_with (first
    | (go_at_call 24; (with_reducible refine HC.out.mono ?_); rintro e w1 ⟨rfl, hb1⟩)
    | (go_at_call 44; (with_reducible refine (HB.out _).mono ?_); rintro e w' ⟨rfl, rfl⟩)
    | (go_at_call 42; (with_reducible refine (HP.out _ (by assumption)).mono ?_); intro e w2 hg2; obtain ⟨v2, A2, c2, rfl, rfl, hI2, hb2⟩ := HG.out _ _ _ hg2; have HI2 := Lib.hid hI2; clear hI2 hg2))
  go_loop [10, 11] (fun vm vi => ∃ m i : Nat, vm = .int .u64 m ∧ vi = .int .i64 i ∧ i ≤ N ∧ Hid (m = valB word (ps.take i))) (fun _ vi => N - (intOf vi).toNat)
  case atStart => exact ⟨0, 0, rfl, rfl, Nat.zero_le _, Lib.hid (by simp [valB])⟩
  case round =>
    obtain ⟨m, i, rfl, rfl, hi, HM⟩ := hrel
    by_cases hlt : i < N
    · obtain ⟨p, hp⟩ : ∃ p, ps[i]? = some p := ⟨_, List.getElem?_eq_getElem (by rw [HPS.out.1]; exact hlt)⟩
      obtain ⟨g, rfl, c0⟩ := HI2.out i p hp
      have hp64 := HPS.out.2.1 p (List.mem_of_getElem? hp)
      have hstep := valB_step word hp
      have hlt2 := valB_lt word (ps.take (i + 1))
      have hlen : (ps.take (i + 1)).length = i + 1 := by rw [List.length_take]; have := HPS.out.1; omega
      have hpw := pow_le (i + 1) (by omega)
      rw [hlen, hstep, ← HM.out] at hlt2
      rw [← HM.out] at hstep
      have HV := Lib.hid (fun W => refValue_any i (by omega) W)
      have HBT := Lib.hid (fun W => refBit_any word p (by omega) HW.out W)
      obtain ⟨T, hT⟩ : ∃ T, 2 ^ i = T := ⟨_, rfl⟩
      rw [hT] at hstep hlt2 HV
      have HLT := Lib.hid hlt
      cases hb : word.testBit p
      · rw [hb] at HBT hstep
        have HST : Hid (m = valB word (ps.take (i + 1))) := Lib.hid (by rw [hstep]; simp)
        simp only [Bool.toNat_false] at HBT
        clear hp hstep hlt2 hT hlen hpw hb
        go_wp2_with (go_at_call 45; (with_reducible refine (HBT.out _).mono ?_); rintro e w' ⟨rfl, rfl⟩)
        go_round
        case rel => exact ⟨m, i + 1, by first | rfl | go_num, by first | rfl | go_num, by have := HLT.out; omega, HST⟩
        case measure => simp only [intOf]; have := HLT.out; omega
      · rw [hb] at HBT hstep hlt2
        have HST : Hid (m + T = valB word (ps.take (i + 1))) := Lib.hid (by rw [hstep]; simp)
        simp only [Bool.toNat_true] at HBT hlt2
        have hw : IntKind.u64.wrap ((m : Int) + (T : Int)) = ((m + T : Nat) : Int) := by rw [IntKind.wrap_u64, ← Int.natCast_add]; omega
        clear hp hstep hlt2 hT hlen hpw hb
        go_wp2_with (first
          | (go_at_call 45; (with_reducible refine (HBT.out _).mono ?_); rintro e w' ⟨rfl, rfl⟩)
          | (go_at_call 43; (with_reducible refine (HV.out _).mono ?_); rintro e w' ⟨rfl, rfl⟩))
        go_round
        case rel => exact ⟨m + T, i + 1, by first | rfl | go_num, by first | rfl | go_num, by have := HLT.out; omega, HST⟩
        case measure => simp only [intOf]; have := HLT.out; omega
    · obtain rfl : i = N := by omega
      have h1 := HM.out
      rw [List.take_of_length_le (by rw [HPS.out.1]; exact Nat.le_refl _), ← HPS.out.2.2] at h1
      have H1 := Lib.hid h1
      clear h1
      go_wp2
      go_ret2
      exact ⟨by rw [H1.out]; rfl, hb1.trans (hb2.mono hb1.size)⟩
theorem refPut_any (size : Int) (word : Nat) (A : Option Addr) (c : Nat) (L : List MPiece) (field : Nat) (w : World) (hA : PcsAt w A L) (hok : PcsOk L) (hc : L.length ≤ c) (hcm : c ≤ maxLen) (hword : word < 18446744073709551616) (hfield : field < 18446744073709551616) :
    Calls Try.prog 22 #[.int .i64 size, .int .u64 word, .slice A L.length c, .int .u64 field] w fun e w' => e = .returned (.tuple #[.int .u64 ((putR size word L field).1 : Nat), .int .i64 (putR size word L field).2]) ∧ Below w.heap.size w w' := by
  have HC := Lib.hid (refCheck_any size A c L w hA hok hc hcm)
  obtain ⟨n, hn⟩ : ∃ n, L.length = n := ⟨_, rfl⟩
  by_cases h0 : (maskR size L).2 = 0
  case neg =>
    have hcw : cwR size word L = (maskR size L).2 := by unfold cwR; rw [if_neg h0]
    rw [show putR size word L field = (0, (maskR size L).2) by unfold putR; rw [hcw, if_neg h0]]
    have h1 : ((maskR size L).2 != 0) = true := by simpa using h0
    have h2 : ((maskR size L).2 == 0) = false := by simpa using h0
    rw [hn] at HC ⊢
    generalize (maskR size L).2 = z at *
    clear hA hok hc hcm hn h0 hcw hword hfield
    go_enter Try.func22, Try.ntmps22
    go_wp2_with (go_at_call 24; (with_reducible refine HC.out.mono ?_); rintro e w' ⟨rfl, hb⟩)
    go_ret2
    exact ⟨rfl, hb⟩
  obtain ⟨hs, h4, hgood, hm⟩ := maskR_ok h0
  obtain ⟨sz, rfl⟩ : ∃ sz : Nat, size = sz := ⟨size.toNat, by omega⟩
  have HB := Lib.hid (fun W => refBelow9_any word sz (by omega) hword W)
  rw [h0] at HC
  cases hw : okB sz word
  · have hcw : cwR sz word L = 24 := by unfold cwR; rw [if_pos h0, Int.toNat_natCast, hw, if_neg (by decide)]
    rw [show putR sz word L field = (0, 24) by unfold putR; rw [hcw, if_neg (by decide)]]
    rw [hw] at HB
    rw [hn] at HC ⊢
    clear hA hok hc hcm hn h0 hcw hword hfield hs h4 hgood hm hw
    go_enter Try.func22, Try.ntmps22
    go_wp2_with (first
      | (go_at_call 24; (with_reducible refine HC.out.mono ?_); rintro e w' ⟨rfl, hb⟩)
      | (go_at_call 44; (with_reducible refine (HB.out _).mono ?_); rintro e w' ⟨rfl, rfl⟩))
    go_ret2
    exact ⟨rfl, hb⟩
  have hcw : cwR sz word L = 0 := by unfold cwR; rw [if_pos h0, Int.toNat_natCast, hw, if_pos rfl]
  rw [hw] at HB
  have hGL := goodL_of hs hgood
  have HP := Lib.hid (fun W (h : Below w.heap.size w W) => refPlaces_any A c L W (hA.later h) hGL hc hcm)
  have h64 := places_len64 hGL
  have hlt64 := placesL_lt hGL
  have hfin := putN_set L word field
  have HB2 := Lib.hid (fun W => refBelow9_any field (placesL L).length h64 hfield W)
  have hwl := placesL_len L
  rw [hn] at HC HP ⊢
  obtain ⟨ps, hps⟩ : ∃ ps, placesL L = ps := ⟨_, rfl⟩
  obtain ⟨N, hN⟩ : ∃ N, ps.length = N := ⟨_, rfl⟩
  have HG : Hid (∀ W e w', PlacesGive L W e w' → ∃ v A2 c2, e = .returned v ∧ v = .slice A2 N c2 ∧ (∀ i p, ps[i]? = some p → ∃ g, A2 = some ⟨g, 0, none⟩ ∧ w'.cell? ⟨g, i, none⟩ = some (.int .i64 (p : Nat))) ∧ Below W.heap.size W w') := Lib.hid (fun W e w' ⟨v, he, ho, hb⟩ => by
    obtain ⟨A2, c2, hv, hc2⟩ := intsAt_own ho
    rw [hps, hN] at hv
    rw [hps] at hc2
    exact ⟨v, A2, c2, he, hv, hc2, hb⟩)
  rw [hps] at h64 hlt64 hfin HB2 hwl
  rw [hN] at h64 HB2 hwl
  have hN64 : (N : Int) ≤ 64 := by omega
  cases hf : okB N field
  · rw [show putR sz word L field = (0, 24) by unfold putR; rw [if_pos hcw, ← hwl, hf, if_neg (by decide)]]
    rw [hf] at HB2
    clear hA hok hc hcm hn h0 hs h4 hgood hm hGL h64 hlt64 hfin hps hN hcw hw hword hfield hwl hf
    go_enter Try.func22, Try.ntmps22
    go_wp2_with (first
      | (go_at_call 24; (with_reducible refine HC.out.mono ?_); rintro e w1 ⟨rfl, hb1⟩)
      | (go_at_call 44; (with_reducible refine (HB.out _).mono ?_); rintro e w' ⟨rfl, rfl⟩)
      | (go_at_call 44; (with_reducible refine (HB2.out _).mono ?_); rintro e w' ⟨rfl, rfl⟩)
      | (go_at_call 42; (with_reducible refine (HP.out _ (by assumption)).mono ?_); intro e w2 hg2; obtain ⟨v2, A2, c2, rfl, rfl, hI2, hb2⟩ := HG.out _ _ _ hg2; have HI2 := Lib.hid hI2; clear hI2 hg2))
    go_ret2
    exact ⟨rfl, hb1.trans (hb2.mono hb1.size)⟩
  rw [show putR sz word L field = (putN word field L, 0) by unfold putR; rw [if_pos hcw, ← hwl, hf, if_pos rfl]]
  rw [hf] at HB2
  obtain ⟨M, hM⟩ : ∃ M, putN word field L = M := ⟨_, rfl⟩
  rw [hM] at hfin ⊢
  have HPS := Lib.hid (And.intro hN (And.intro hlt64 hfin))
  have HW := Lib.hid hword
  have HF := Lib.hid hfield
  clear hA hok hc hcm hn h0 hs h4 hgood hm hGL h64 hlt64 hfin hM hps hN hcw hw hword hfield hwl hf
  go_enter Try.func22, Try.ntmps22
  go_wp2_with (first
    | (go_at_call 24; (with_reducible refine HC.out.mono ?_); rintro e w1 ⟨rfl, hb1⟩; have hB := hb1)
    | (go_at_call 44; (with_reducible refine (HB.out _).mono ?_); rintro e w' ⟨rfl, rfl⟩)
    | (go_at_call 44; (with_reducible refine (HB2.out _).mono ?_); rintro e w' ⟨rfl, rfl⟩)
    | (go_at_call 42; (with_reducible refine (HP.out _ (by assumption)).mono ?_); intro e w2 hg2; obtain ⟨v2, A2, c2, rfl, rfl, hI2, hb2⟩ := HG.out _ _ _ hg2; have HI2 := Lib.hid hI2; clear hI2 hg2; have hB2 := hB.trans (hb2.mono hB.size); clear hB; have hB := hB2; clear hB2 hb2))
  go_loop [1, 12] (fun vm vi => ∃ m i : Nat, vm = .int .u64 m ∧ vi = .int .i64 i ∧ i ≤ N ∧ Hid (m = setAll word field (ps.take i))) (fun _ vi => N - (intOf vi).toNat)
  case atStart => exact ⟨word, 0, rfl, rfl, Nat.zero_le _, Lib.hid (by simp [setAll])⟩
  case round =>
    obtain ⟨m, i, rfl, rfl, hi, HM⟩ := hrel
    by_cases hlt : i < N
    · obtain ⟨p, hp⟩ : ∃ p, ps[i]? = some p := ⟨_, List.getElem?_eq_getElem (by rw [HPS.out.1]; exact hlt)⟩
      obtain ⟨g, rfl, c0⟩ := HI2.out i p hp
      have hp64 := HPS.out.2.1 p (List.mem_of_getElem? hp)
      have hstep := setAll_step word field hp
      have hm64 : m < 18446744073709551616 := by rw [HM.out]; exact setAll_lt _ _ _ (fun q hq => HPS.out.2.1 q (List.mem_of_mem_take hq)) HW.out
      rw [← HM.out] at hstep
      have HV := Lib.hid (fun W => refValue_any p (by omega) W)
      have HB1 := Lib.hid (fun W => refBit_any m p (by omega) hm64 W)
      have HB3 := Lib.hid (fun W => refBit_any field i (by omega) HF.out W)
      have hle : m.testBit p = true → 2 ^ p ≤ m := fun h => Nat.ge_two_pow_of_testBit h
      have hs64 := setB_lt (b := field.testBit i) hm64 hp64
      unfold setB at hstep hs64
      obtain ⟨T, hT⟩ : ∃ T, 2 ^ p = T := ⟨_, rfl⟩
      rw [hT] at hstep HV hle hs64
      have HLT := Lib.hid hlt
      cases b1 : m.testBit p <;> cases b2 : field.testBit i
      all_goals
        rw [b1, b2] at hstep hs64
        rw [b1] at HB1 hle
        rw [b2] at HB3
        simp only [Bool.false_eq_true, if_false, if_true, Nat.add_zero, Bool.toNat_false, Bool.toNat_true, forall_const] at hstep HB1 HB3 hle hs64
        have HST := Lib.hid hstep
        first
        | (have hT64 : T ≤ m := hle
           have w1 : IntKind.u64.wrap ((m : Int) - (T : Int)) = ((m - T : Nat) : Int) := by rw [IntKind.wrap_u64]; omega
           have w2 : IntKind.u64.wrap (((m - T : Nat) : Int) + (T : Int)) = ((m - T + T : Nat) : Int) := by rw [IntKind.wrap_u64]; omega
           clear hT64)
        | (have w1 : IntKind.u64.wrap ((m : Int) + (T : Int)) = ((m + T : Nat) : Int) := by rw [IntKind.wrap_u64]; omega)
        | skip
        clear hp hstep hT b1 b2 hle hs64 hm64
        go_wp2_with (first
          | (go_at_call 45; (with_reducible refine (HB1.out _).mono ?_); rintro e w' ⟨rfl, rfl⟩)
          | (go_at_call 45; (with_reducible refine (HB3.out _).mono ?_); rintro e w' ⟨rfl, rfl⟩)
          | (go_at_call 43; (with_reducible refine (HV.out _).mono ?_); rintro e w' ⟨rfl, rfl⟩))
        go_round
        case rel => exact ⟨_, i + 1, by first | rfl | go_num, by first | rfl | go_num, by have := HLT.out; omega, Lib.hid HST.out.symm⟩
        case measure => simp only [intOf]; have := HLT.out; omega
    · obtain rfl : i = N := by omega
      have h1 := HM.out
      rw [List.take_of_length_le (by rw [HPS.out.1]; exact Nat.le_refl _), ← HPS.out.2.2] at h1
      have H1 := Lib.hid h1
      clear h1
      go_wp2
      go_ret2
      exact ⟨by rw [H1.out]; rfl, hB⟩
end Go.Proofs.Ytjbapjgagiaefaa
