/- The reference's CheckBound, Bound and GreatBound. -/
import Derived.Test.YtmbogdimjbhbmaaEnvMem
namespace Go.Proofs.Ytmbogdimjbhbmaa
open Go.RowKit Go.Sort
set_option linter.unusedVariables false
set_option linter.unusedSimpArgs false

theorem less_cons (x y : UInt8) (a b : List UInt8) : Op.bytesLess (x :: a) (y :: b) = (decide (x.toNat < y.toNat) || (decide (x.toNat = y.toNat) && Op.bytesLess a b)) := by
  have h1 : decide (x < y) = decide (x.toNat < y.toNat) := by simp only [UInt8.lt_iff_toNat_lt]
  have h2 : (x == y) = decide (x.toNat = y.toNat) := by rw [Bool.eq_iff_iff]; simp [UInt8.toNat_inj]
  rw [Op.bytesLess, h1, h2]
theorem less_asymm : ∀ a b : List UInt8, Op.bytesLess a b = true → Op.bytesLess b a = false
  | [], [], h => by simp [Op.bytesLess] at h
  | [], _ :: _, _ => by simp [Op.bytesLess]
  | _ :: _, [], h => by simp [Op.bytesLess] at h
  | x :: a, y :: b, h => by
    have ih := less_asymm a b
    rw [less_cons] at h ⊢
    simp only [Bool.or_eq_true, Bool.and_eq_true, decide_eq_true_eq] at h
    rcases h with h | ⟨h, k⟩
    · have e1 : ¬ y.toNat < x.toNat := by omega
      have e2 : ¬ y.toNat = x.toNat := by omega
      simp [e1, e2]
    · have e1 : ¬ y.toNat < x.toNat := by omega
      simp [e1, ih k]
theorem less_total : ∀ a b : List UInt8, Op.bytesLess a b = false → (b == a) = false → Op.bytesLess b a = true
  | [], [], _, h => by simp at h
  | [], _ :: _, h, _ => by simp [Op.bytesLess] at h
  | _ :: _, [], _, _ => by simp [Op.bytesLess]
  | x :: a, y :: b, h, h2 => by
    have ih := less_total a b
    rw [less_cons] at h ⊢
    simp only [Bool.or_eq_false_iff, decide_eq_false_iff_not] at h
    by_cases e : y.toNat < x.toNat
    · simp [e]
    · have e2 : x.toNat = y.toNat := by omega
      have e3 : x = y := UInt8.toNat_inj.1 e2
      subst e3
      have h3 : Op.bytesLess a b = false := by simpa using h.2
      have h4 : (b == a) = false := by simpa using h2
      simp [ih h3 h4]
theorem less_trans : ∀ a b c : List UInt8, Op.bytesLess a b = true → Op.bytesLess b c = true → Op.bytesLess a c = true
  | _, [], _, h, _ => by cases ‹List UInt8› <;> simp [Op.bytesLess] at h
  | _, _ :: _, [], _, h => by simp [Op.bytesLess] at h
  | [], _ :: _, _ :: _, _, _ => by simp [Op.bytesLess]
  | x :: a, y :: b, z :: c, h, k => by
    have ih := less_trans a b c
    rw [less_cons] at h k ⊢
    simp only [Bool.or_eq_true, Bool.and_eq_true, decide_eq_true_eq] at h k ⊢
    rcases h with h | ⟨h, h'⟩ <;> rcases k with k | ⟨k, k'⟩
    · exact .inl (by omega)
    · exact .inl (by omega)
    · exact .inl (by omega)
    · exact .inr ⟨by omega, ih h' k'⟩

set_option maxRecDepth 100000 in
set_option maxHeartbeats 1000000 in
theorem refCheckBound_any (p : Option Addr) (n cap : Nat) (N : Nat → ByteArray) (D : Nat → Int) (X : Nat → Nat) (w : World) (hn : n ≤ 1100) (hm : EnvAt w p n N D X) (hN : ∀ i, i < n → (N i).size ≤ 200) (hX : ∀ i, i < n → X i < 18446744073709551616) :
    Calls Try.prog 24 #[.slice p n cap] w fun e w' => e = .returned (.int .i64 (envR N D X n : Nat)) ∧ Below w.heap.size w w' := by
  have HM := Lib.hid hm
  have HN := Lib.hid hN
  have HXX := Lib.hid hX
  clear hm hN hX
  by_cases hmany : 1000 < n
  · rw [envR_many hmany]
    have d : decide ((1000 : Int) < (n : Int)) = true := decide_eq_true (by omega)
    clear hn hmany
    go_enter Try.func24, Try.ntmps24
    go_wp2
    go_ret
    exact ⟨rfl, Below.refl _ _⟩
  · have d : decide ((1000 : Int) < (n : Int)) = false := decide_eq_false (by omega)
    go_enter Try.func24, Try.ntmps24
    go_wp2
    go_loopw [3] (fun vi wr => ∃ k : Nat, vi = .int .i64 k ∧ k ≤ n ∧ allTo (bndOk N D X) k = true ∧ Below w.heap.size w wr) (fun vi _ => n - (intOf vi).toNat)
    case atStart => exact ⟨0, rfl, by omega, rfl, Below.refl _ _⟩
    case round =>
      obtain ⟨k, rfl, hk, hl, hb⟩ := hrel
      have HL := Lib.hid hl
      have HB := Lib.hid hb
      clear hl hb
      by_cases hlt : k < n
      · obtain ⟨b, o, hp, hbn, a0, a1, a2⟩ := (HM.out.below HB.out) k hlt
        subst hp
        obtain ⟨q1, h1⟩ : ∃ q, varR (N k) = q := ⟨_, rfl⟩
        obtain ⟨q2, h2⟩ : ∃ q, okR (D k) (X k) = q := ⟨_, rfl⟩
        obtain ⟨q3, h3⟩ : ∃ q, (k == 0 || ltS (N (k - 1)) (N k)) = q := ⟨_, rfl⟩
        have HQ := Lib.hid (show bndOk N D X k = (q1 && q2 && q3) by unfold bndOk; rw [h1, h2, h3])
        have K0 := fun d os => cell_regrown a0 d os
        have K1 := fun d os => cell_regrown a1 d os
        have K2 := fun d os => cell_regrown a2 d os
        have CV := Lib.hid (fun d os => (Calls.regrown_of (by rw [← h1]; exact refVar_any (N k) _ (by have := HN.out k hlt; omega)) : Calls Try.prog 28 #[.string (N k)] (grow (redrawn wr d) os) fun e w'' => e = .returned (.bool q1) ∧ ∃ p : Regrown, w'' = grow (redrawn wr p.d) p.os))
        have CO := Lib.hid (fun d os => (Calls.regrown_of (by rw [← h2]; exact (refOkT_any (D k) (X k) _ (HXX.out k hlt)).mono fun _ _ ⟨he, hw⟩ => ⟨he, by rw [← hw]; exact Below.refl _ _⟩) : Calls Try.prog 32 #[.int .i64 (D k), .int .u64 (X k : Nat)] (grow (redrawn wr d) os) fun e w'' => e = .returned (.bool q2) ∧ ∃ p : Regrown, w'' = grow (redrawn wr p.d) p.os))
        have H1 := Lib.hid (fun d os => HB.out.trans ((below_regrown wr d os).mono HB.out.size))
        have hk0' : (0 : Int) ≤ (k : Int) := Int.natCast_nonneg _
        have hk1' : (k : Int) < (n : Int) := by omega
        clear h1 h2
        go_wp2_with fail
        clear a0 a1 a2
        cases q1 with
        | false =>
          refine wp_region_quiet_below (by kernel_rfl) (by kernel_rfl) ?_
          repeat (first | go_big_quiet_step (first | (with_reducible exact CV.out _ _) | (with_reducible exact CO.out _ _)) | quiet_step (first | (with_reducible exact CV.out _ _) | (with_reducible exact CO.out _ _)))
          refine wpQuiet_nil ?_
          intro _ hw'
          obtain ⟨⟨dq, osq⟩, hw''⟩ := hw'
          subst hw''
          go_wp2
          go_ret
          exact ⟨by rw [envR_bad hmany k hlt (by rw [HQ.out]; rfl)]; rfl, H1.out dq osq⟩
        | true =>
          cases q2 with
          | false =>
            refine wp_region_quiet_below (by kernel_rfl) (by kernel_rfl) ?_
            repeat (first | go_big_quiet_step (first | (with_reducible exact CV.out _ _) | (with_reducible exact CO.out _ _)) | quiet_step (first | (with_reducible exact CV.out _ _) | (with_reducible exact CO.out _ _)))
            refine wpQuiet_nil ?_
            intro _ hw'
            obtain ⟨⟨dq, osq⟩, hw''⟩ := hw'
            subst hw''
            go_wp2
            go_ret
            exact ⟨by rw [envR_bad hmany k hlt (by rw [HQ.out]; rfl)]; rfl, H1.out dq osq⟩
          | true =>
            by_cases hk0 : k = 0
            · have hkd : decide ((0 : Int) < (k : Int)) = false := by simp; omega
              have hkn : decide (0 < k) = false := by simp; omega
              obtain rfl : q3 = true := by rw [← h3, hk0]; rfl
              clear h3 hk0
              refine wp_region_quiet_below (by kernel_rfl) (by kernel_rfl) ?_
              repeat (first | go_big_quiet_step (first | (with_reducible exact CV.out _ _) | (with_reducible exact CO.out _ _)) | quiet_step (first | (with_reducible exact CV.out _ _) | (with_reducible exact CO.out _ _)))
              refine wpQuiet_nil ?_
              intro _ hw'
              obtain ⟨⟨dq, osq⟩, hw''⟩ := hw'
              subst hw''
              go_wp2
              go_roundw
              case rel => exact ⟨k + 1, by first | rfl | go_num | (rw [wrap64_small _ (by omega) (by omega)]; rfl), by omega, by rw [allTo_succ, HL.out, HQ.out]; rfl, H1.out dq osq⟩
              case measure => (try rw [wrap64_small _ (by omega) (by omega)]); simp only [intOf]; omega
            · obtain ⟨j, hj⟩ : ∃ j, j = k - 1 := ⟨_, rfl⟩
              obtain ⟨b', o', hp', hbn', a0', _, _⟩ := (HM.out.below HB.out) j (by omega)
              obtain ⟨rfl, rfl⟩ : b' = b ∧ o' = o := by injection hp' with h; injection h with h5 h6; exact ⟨h5.symm, h6.symm⟩
              have D0 := fun d os => cell_regrown a0' d os
              have h4' : Op.bytesLess (N j).toList (N k).toList = q3 := by rw [← h3, hj]; simp [hk0, ltS]
              have hj0 : (0 : Int) ≤ (j : Int) := Int.natCast_nonneg _
              have hj1 : (j : Int) < (n : Int) := by omega
              have hj2 : (0 : Int) < (k : Int) := by omega
              have hj4 : 0 < k := by omega
              have hj3 : IntKind.i64.wrap ((k : Int) - 1) = (j : Int) := by rw [show (k : Int) - 1 = j by omega]; exact IntWalk.i64_in _ (by omega)
              clear h3 a0' hbn' hp' hk0 hj
              cases q3 with
              | false =>
                cases h6 : ((N k).toList == (N j).toList) with
                | false =>
                  have h7 := less_total _ _ h4' h6
                  refine wp_region_quiet_below (by kernel_rfl) (by kernel_rfl) ?_
                  repeat (first | go_big_quiet_step (first | (with_reducible exact CV.out _ _) | (with_reducible exact CO.out _ _)) | quiet_step (first | (with_reducible exact CV.out _ _) | (with_reducible exact CO.out _ _)))
                  refine wpQuiet_nil ?_
                  intro _ hw'
                  obtain ⟨⟨dq, osq⟩, hw''⟩ := hw'
                  subst hw''
                  go_wp2
                  go_ret
                  exact ⟨by rw [envR_bad hmany k hlt (by rw [HQ.out]; rfl)]; rfl, H1.out dq osq⟩
                | true =>
                  have h7 : Op.bytesLess (N k).toList (N j).toList = false := by rw [eq_of_beq h6]; exact less_irrefl _
                  refine wp_region_quiet_below (by kernel_rfl) (by kernel_rfl) ?_
                  repeat (first | go_big_quiet_step (first | (with_reducible exact CV.out _ _) | (with_reducible exact CO.out _ _)) | quiet_step (first | (with_reducible exact CV.out _ _) | (with_reducible exact CO.out _ _)))
                  refine wpQuiet_nil ?_
                  intro _ hw'
                  obtain ⟨⟨dq, osq⟩, hw''⟩ := hw'
                  subst hw''
                  go_wp2
                  go_ret
                  exact ⟨by rw [envR_bad hmany k hlt (by rw [HQ.out]; rfl)]; rfl, H1.out dq osq⟩
              | true =>
                have h7 := less_asymm _ _ h4'
                have h6 : ((N k).toList == (N j).toList) = false := by
                  cases h6 : ((N k).toList == (N j).toList) with
                  | false => rfl
                  | true => rw [eq_of_beq h6, less_irrefl] at h4'; cases h4'
                refine wp_region_quiet_below (by kernel_rfl) (by kernel_rfl) ?_
                repeat (first | go_big_quiet_step (first | (with_reducible exact CV.out _ _) | (with_reducible exact CO.out _ _)) | quiet_step (first | (with_reducible exact CV.out _ _) | (with_reducible exact CO.out _ _)))
                refine wpQuiet_nil ?_
                intro _ hw'
                obtain ⟨⟨dq, osq⟩, hw''⟩ := hw'
                subst hw''
                go_wp2
                go_roundw
                case rel => exact ⟨k + 1, by first | rfl | go_num | (rw [wrap64_small _ (by omega) (by omega)]; rfl), by omega, by rw [allTo_succ, HL.out, HQ.out]; rfl, H1.out dq osq⟩
                case measure => (try rw [wrap64_small _ (by omega) (by omega)]); simp only [intOf]; omega
      · obtain rfl : k = n := by omega
        go_wp2
        go_ret
        exact ⟨by rw [envR_ok hmany HL.out]; rfl, HB.out⟩

theorem strEq (a b : ByteArray) : (a.toList == b.toList) = decide (a = b) := by
  rw [Bool.eq_iff_iff]; simp only [beq_iff_eq, decide_eq_true_eq, ByteArray.toList_eq]
  constructor
  · intro h; cases a; cases b; simp_all
  · intro h; rw [h]

/-- The first k names are others. -/
def NotIn (N : Nat → ByteArray) (t : ByteArray) (k : Nat) : Prop := ∀ j, j < k → N j ≠ t
set_option maxRecDepth 100000 in
set_option maxHeartbeats 1000000 in
theorem bound_yes (p : Option Addr) (n cap : Nat) (N : Nat → ByteArray) (D : Nat → Int) (X : Nat → Nat) (w : World) (hn : n ≤ 1100) (hm : EnvAt w p n N D X) (i : Nat) (hi : i < n) (h1 : NotIn N (N i) i) :
    Calls Try.prog 25 #[.slice p n cap, .string (N i)] w fun e w' => e = .returned (.tuple #[.agg #[.string (N i), .int .i64 (D i), .int .u64 (X i : Nat)], .bool true]) ∧ Below w.heap.size w w' := by
  have HM := Lib.hid (hm.below ((Below.refl w.heap.size w).alloc (Nat.le_refl _) (.cells #[.string ⟨#[]⟩, .int .i64 0, .int .u64 0] 49)))
  have H1 := Lib.hid h1
  clear hm h1
  go_enter Try.func25, Try.ntmps25
  go_wp2
  go_loop [6] (fun vi => ∃ k : Nat, vi = .int .i64 k ∧ k ≤ i) (fun vi => n - (intOf vi).toNat)
  case atStart => exact ⟨0, rfl, by omega⟩
  case round =>
    obtain ⟨k, rfl, hk⟩ := hrel
    obtain ⟨b, o, hp, hbn, a0, a1, a2⟩ := HM.out k (by omega)
    subst hp
    have hj0 : (0 : Int) ≤ (k : Int) := Int.natCast_nonneg _
    have hj1 : (k : Int) < (n : Int) := by omega
    by_cases hlt : k < i
    · have hq : ((N k).toList == (N i).toList) = false := by rw [strEq]; exact decide_eq_false (H1.out k hlt)
      go_wp2
      go_round
      case rel => exact ⟨k + 1, by first | rfl | go_num | (rw [wrap64_small _ (by omega) (by omega)]; rfl), by omega⟩
      case measure => (try rw [wrap64_small _ (by omega) (by omega)]); simp only [intOf]; omega
    · obtain rfl : k = i := by omega
      have hq : ((N k).toList == (N k).toList) = true := by simp
      go_wp2
      refine bodyPost_ret (v := .tuple #[.agg #[.string (N k), .int .i64 (D k), .int .u64 (X k : Nat)], .bool true]) (by simp [results, Try.results25, go_sem]) rfl ⟨rfl, ?_⟩
      repeat (first | exact Below.refl _ _ | refine Below.setCell ?_ (Nat.le_refl _) _ | refine Below.alloc ?_ (Nat.le_refl _) _)

set_option maxRecDepth 100000 in
set_option maxHeartbeats 1000000 in
theorem bound_no (p : Option Addr) (n cap : Nat) (N : Nat → ByteArray) (D : Nat → Int) (X : Nat → Nat) (t : ByteArray) (w : World) (hn : n ≤ 1100) (hm : EnvAt w p n N D X) (h1 : NotIn N t n) :
    Calls Try.prog 25 #[.slice p n cap, .string t] w fun e w' => e = .returned (.tuple #[.agg #[.string ⟨#[]⟩, .int .i64 0, .int .u64 0], .bool false]) ∧ Below w.heap.size w w' := by
  have HM := Lib.hid (hm.below ((Below.refl w.heap.size w).alloc (Nat.le_refl _) (.cells #[.string ⟨#[]⟩, .int .i64 0, .int .u64 0] 49)))
  have H1 := Lib.hid h1
  clear hm h1
  go_enter Try.func25, Try.ntmps25
  go_wp2
  go_loop [6] (fun vi => ∃ k : Nat, vi = .int .i64 k ∧ k ≤ n) (fun vi => n - (intOf vi).toNat)
  case atStart => exact ⟨0, rfl, by omega⟩
  case round =>
    obtain ⟨k, rfl, hk⟩ := hrel
    by_cases hlt : k < n
    · obtain ⟨b, o, hp, hbn, a0, a1, a2⟩ := HM.out k (by omega)
      subst hp
      have hj0 : (0 : Int) ≤ (k : Int) := Int.natCast_nonneg _
      have hj1 : (k : Int) < (n : Int) := by omega
      have hq : ((N k).toList == t.toList) = false := by rw [strEq]; exact decide_eq_false (H1.out k hlt)
      go_wp2
      go_round
      case rel => exact ⟨k + 1, by first | rfl | go_num | (rw [wrap64_small _ (by omega) (by omega)]; rfl), by omega⟩
      case measure => (try rw [wrap64_small _ (by omega) (by omega)]); simp only [intOf]; omega
    · obtain rfl : k = n := by omega
      go_wp2
      refine bodyPost_ret (v := .tuple #[.agg #[.string ⟨#[]⟩, .int .i64 0, .int .u64 0], .bool false]) (by simp [results, Try.results25, go_sem]) rfl ⟨rfl, ?_⟩
      repeat (first | exact Below.refl _ _ | refine Below.setCell ?_ (Nat.le_refl _) _ | refine Below.alloc ?_ (Nat.le_refl _) _)

def longB (N : Nat → ByteArray) (i : Nat) : Bool := !decide (200 < (N i).size)
def greatB (N : Nat → ByteArray) (n : Nat) : Bool := if 1100 < n then true else !allTo (longB N) n
theorem greatB_no {N : Nat → ByteArray} {n : Nat} (h : greatB N n = false) : n ≤ 1100 ∧ ∀ i, i < n → (N i).size ≤ 200 := by
  unfold greatB at h
  split at h
  · cases h
  · rename_i hn
    have h2 : allTo (longB N) n = true := by simpa using h
    refine ⟨by omega, fun i hi => ?_⟩
    have := allTo_at _ n h2 i hi
    unfold longB at this
    simpa using this
set_option maxRecDepth 100000 in
theorem greatBound_any (p : Option Addr) (n cap : Nat) (N : Nat → ByteArray) (D : Nat → Int) (X : Nat → Nat) (w : World) (hm : EnvAt w p n N D X) :
    Calls Try.prog 5 #[.slice p n cap, .slice none 0 0] w fun e w' => e = .returned (.bool (greatB N n)) ∧ w = w' := by
  have HM := Lib.hid hm
  clear hm
  by_cases hmany : 1100 < n
  · rw [show greatB N n = true from if_pos hmany]
    have d : decide ((1100 : Int) < (n : Int)) = true := decide_eq_true (by omega)
    clear hmany
    go_enter Try.func5, Try.ntmps5
    go_wp2
    go_ret
    exact ⟨rfl, rfl⟩
  · have d : decide ((1100 : Int) < (n : Int)) = false := decide_eq_false (by omega)
    have HG := Lib.hid (show greatB N n = !allTo (longB N) n from if_neg hmany)
    go_enter Try.func5, Try.ntmps5
    go_wp2
    go_loop [5] (fun vi => ∃ k : Nat, vi = .int .i64 k ∧ k ≤ n ∧ allTo (longB N) k = true) (fun vi => n - (intOf vi).toNat)
    case atStart => exact ⟨0, rfl, by omega, rfl⟩
    case round =>
      obtain ⟨k, rfl, hk, hl⟩ := hrel
      have HL := Lib.hid hl
      clear hl
      by_cases hlt : k < n
      · obtain ⟨b, o, hp, hbn, a0, a1, a2⟩ := HM.out k (by omega)
        subst hp
        have hj0 : (0 : Int) ≤ (k : Int) := Int.natCast_nonneg _
        have hj1 : (k : Int) < (n : Int) := by omega
        obtain ⟨L, hL⟩ : ∃ L, (N k).size = L := ⟨_, rfl⟩
        have HQ := Lib.hid (show longB N k = !decide (200 < L) by unfold longB; rw [hL])
        by_cases h2 : 200 < L
        · have d2 : decide ((200 : Int) < (L : Int)) = true := decide_eq_true (by omega)
          have HZ := Lib.hid h2
          clear h2
          go_wp2
          go_ret
          exact ⟨by rw [HG.out, allTo_no _ k (by rw [HQ.out, decide_eq_true HZ.out]; rfl) n hlt]; rfl, rfl⟩
        · have d2 : decide ((200 : Int) < (L : Int)) = false := decide_eq_false (by omega)
          have HZ := Lib.hid h2
          clear h2
          go_wp2
          go_round
          case rel => exact ⟨k + 1, by first | rfl | go_num | (rw [wrap64_small _ (by omega) (by omega)]; rfl), by omega, by rw [allTo_succ, HL.out, HQ.out, decide_eq_false HZ.out]; rfl⟩
          case measure => (try rw [wrap64_small _ (by omega) (by omega)]); simp only [intOf]; omega
      · obtain rfl : k = n := by omega
        go_wp2
        go_ret
        exact ⟨by rw [HG.out, HL.out]; rfl, rfl⟩
end Go.Proofs.Ytmbogdimjbhbmaa
