/- Strings' order, bindings in memory and term.CheckBound, for the seats of package term (picked out of the texts of BlastRuns). -/
import Derived.Test.YthogpmddijbigaaGreatDoorTermFormedAll
import Derived.Lib.Bytealg
import Derived.Laws.Cover1
import Derived.Sort.Walk0
import Derived.Lib.QuietBelow
import Derived.BigQuiet
import Derived.IntWalk
namespace Go.Proofs.YthogpmddijbigaaGreatDoor
open Go.RowKit Go.Sort
set_option linter.unusedVariables false
set_option linter.unusedSimpArgs false

def cmpS (a b : ByteArray) : Int := Lib.compareBytes a.data.toList b.data.toList
set_option maxRecDepth 100000 in
theorem cmpString_any (a b : ByteArray) (w : World) : Calls Tryz.prog 64 #[.string a, .string b] w fun e w' => e = .returned (.int .i64 (cmpS a b)) ∧ w = w' := by
  go_enter Tryz.func64, Tryz.ntmps64
  go_wp2
  rw [run_callFunc_extern Tryz.func98 (by kernel_rfl) (by kernel_rfl) (by kernel_rfl) (e := Extern.BytealgCompare.compare) (by kernel_rfl), Lib.run_compareString]
  simp only [Result.andThen]
  rw [Oper.upon_value]
  go_wp2
  go_ret
  exact ⟨rfl, rfl⟩
theorem compareS_any (a b : ByteArray) (w : World) : Calls Tryz.prog 34 #[.string a, .string b] w fun e w' => e = .returned (.int .i64 (cmpS a b)) ∧ w = w' := by
  go_enter Tryz.func34, Tryz.ntmps34
  go_wp2_with (go_at_call 64; refine (cmpString_any _ _ _).mono ?_; rintro e w' ⟨rfl, rfl⟩)
  go_ret
  exact ⟨rfl, rfl⟩
def allTo (f : Nat → Bool) : Nat → Bool | 0 => true | n + 1 => allTo f n && f n
theorem allTo_succ (f : Nat → Bool) (n : Nat) : allTo f (n + 1) = (allTo f n && f n) := rfl
theorem allTo_no (f : Nat → Bool) (k : Nat) (hf : f k = false) : ∀ n, k < n → allTo f n = false
  | 0, h => by omega
  | n + 1, h => by
    rw [allTo_succ]
    by_cases e : k = n
    · subst e; rw [hf, Bool.and_false]
    · rw [allTo_no f k hf n (by omega), Bool.false_and]
theorem allTo_at (f : Nat → Bool) : ∀ n, allTo f n = true → ∀ k, k < n → f k = true
  | 0, _, k, h => by omega
  | n + 1, hn, k, h => by
    rw [allTo_succ, Bool.and_eq_true] at hn
    by_cases e : k = n
    · subst e; exact hn.2
    · exact allTo_at f n hn.1 k (by omega)

theorem below_regrown_mono {w : World} (W1 : World) (d : Nat) (os : Array Obj) (h : w.heap.size ≤ W1.heap.size) : Below w.heap.size W1 (grow (redrawn W1 d) os) := (below_regrown W1 d os).mono h

theorem less_irrefl : ∀ a : List UInt8, Op.bytesLess a a = false
  | [] => rfl
  | x :: a => by unfold Op.bytesLess; rw [less_irrefl a]; simp
theorem cmpB : ∀ a b : List UInt8, Lib.compareBytes a b = if Op.bytesLess a b = true then -1 else if (a == b) = true then 0 else 1
  | [], [] => by simp [Lib.compareBytes, Op.bytesLess]
  | [], _ :: _ => by simp [Lib.compareBytes, Op.bytesLess]
  | _ :: _, [] => by simp [Lib.compareBytes, Op.bytesLess]
  | x :: a, y :: b => by
    unfold Lib.compareBytes Op.bytesLess
    by_cases h : x < y
    · simp [h]
    · by_cases h2 : y < x
      · have hne : x ≠ y := fun e => by subst e; exact UInt8.lt_irrefl x h2
        simp [h, h2, hne]
      · have he : x = y := UInt8.le_antisymm (UInt8.not_lt.1 h2) (UInt8.not_lt.1 h)
        subst he
        have ih := cmpB a b
        simp only [h, if_false, ih]
        simp
theorem less_cons (x y : UInt8) (a b : List UInt8) : Op.bytesLess (x :: a) (y :: b) = (decide (x.toNat < y.toNat) || (decide (x.toNat = y.toNat) && Op.bytesLess a b)) := by
  have h1 : decide (x < y) = decide (x.toNat < y.toNat) := by simp only [UInt8.lt_iff_toNat_lt]
  have h2 : (x == y) = decide (x.toNat = y.toNat) := by rw [Bool.eq_iff_iff]; simp [UInt8.toNat_inj]
  rw [Op.bytesLess, h1, h2]
theorem less_asymm : ∀ a b : List UInt8, Op.bytesLess a b = true → Op.bytesLess b a = false
  | [], [], h => by simp [Op.bytesLess] at h
  | [], _ :: _, _ => by simp [Op.bytesLess]
  | _ :: _, [], h => by simp [Op.bytesLess] at h
  | x :: a, y :: b, h => by
    have ih := less_asymm a b
    rw [less_cons] at h ⊢
    simp only [Bool.or_eq_true, Bool.and_eq_true, decide_eq_true_eq] at h
    rcases h with h | ⟨h, k⟩
    · have e1 : ¬ y.toNat < x.toNat := by omega
      have e2 : ¬ y.toNat = x.toNat := by omega
      simp [e1, e2]
    · have e1 : ¬ y.toNat < x.toNat := by omega
      simp [e1, ih k]
theorem less_total : ∀ a b : List UInt8, Op.bytesLess a b = false → (b == a) = false → Op.bytesLess b a = true
  | [], [], _, h => by simp at h
  | [], _ :: _, h, _ => by simp [Op.bytesLess] at h
  | _ :: _, [], _, _ => by simp [Op.bytesLess]
  | x :: a, y :: b, h, h2 => by
    have ih := less_total a b
    rw [less_cons] at h ⊢
    simp only [Bool.or_eq_false_iff, decide_eq_false_iff_not] at h
    by_cases e : y.toNat < x.toNat
    · simp [e]
    · have e2 : x.toNat = y.toNat := by omega
      have e3 : x = y := UInt8.toNat_inj.1 e2
      subst e3
      have h3 : Op.bytesLess a b = false := by simpa using h.2
      have h4 : (b == a) = false := by simpa using h2
      simp [ih h3 h4]
theorem less_trans : ∀ a b c : List UInt8, Op.bytesLess a b = true → Op.bytesLess b c = true → Op.bytesLess a c = true
  | _, [], _, h, _ => by cases ‹List UInt8› <;> simp [Op.bytesLess] at h
  | _, _ :: _, [], _, h => by simp [Op.bytesLess] at h
  | [], _ :: _, _ :: _, _, _ => by simp [Op.bytesLess]
  | x :: a, y :: b, z :: c, h, k => by
    have ih := less_trans a b c
    rw [less_cons] at h k ⊢
    simp only [Bool.or_eq_true, Bool.and_eq_true, decide_eq_true_eq] at h k ⊢
    rcases h with h | ⟨h, h'⟩ <;> rcases k with k | ⟨k, k'⟩
    · exact .inl (by omega)
    · exact .inl (by omega)
    · exact .inl (by omega)
    · exact .inr ⟨by omega, ih h' k'⟩

theorem strEq (a b : ByteArray) : (a.toList == b.toList) = decide (a = b) := by
  rw [Bool.eq_iff_iff]; simp only [beq_iff_eq, decide_eq_true_eq, ByteArray.toList_eq]
  constructor
  · intro h; cases a; cases b; simp_all
  · intro h; rw [h]

/-- The first k names are others. -/
def NotIn (N : Nat → ByteArray) (t : ByteArray) (k : Nat) : Prop := ∀ j, j < k → N j ≠ t
/-- n bindings lie behind a slice's address: names N, widths D, bits X. -/
def EnvAt (w : World) (p : Option Addr) (n : Nat) (N : Nat → ByteArray) (D : Nat → Int) (X : Nat → Nat) : Prop :=
  ∀ i, i < n → ∃ b o, p = some ⟨b, o, none⟩ ∧ b < w.heap.size ∧ w.cell? ⟨b, o + i * 3, none⟩ = some (.string (N i)) ∧ w.cell? ⟨b, o + i * 3 + 1, none⟩ = some (.int .i64 (D i)) ∧ w.cell? ⟨b, o + i * 3 + 2, none⟩ = some (.int .u64 (X i : Nat))
theorem EnvAt.below {w w' : World} {p : Option Addr} {n : Nat} {N : Nat → ByteArray} {D : Nat → Int} {X : Nat → Nat} (h : EnvAt w p n N D X) (hb : Below w.heap.size w w') : EnvAt w' p n N D X := by
  intro i hi
  obtain ⟨b, o, e, h1, h2, h3, h4⟩ := h i hi
  exact ⟨b, o, e, Nat.lt_of_lt_of_le h1 hb.size, by rw [hb.cell h1]; exact h2, by rw [hb.cell h1]; exact h3, by rw [hb.cell h1]; exact h4⟩

def ltS (a b : ByteArray) : Bool := Op.bytesLess a.toList b.toList
noncomputable def bndOk (N : Nat → ByteArray) (D : Nat → Int) (X : Nat → Nat) (i : Nat) : Bool := varR (N i) && okW (D i) (X i) && (i == 0 || ltS (N (i - 1)) (N i))
noncomputable def envR (N : Nat → ByteArray) (D : Nat → Int) (X : Nat → Nat) (n : Nat) : Nat := if 1000 < n then 8 else if allTo (bndOk N D X) n = true then 0 else 8
theorem envR_many {N : Nat → ByteArray} {D : Nat → Int} {X : Nat → Nat} {n : Nat} (h : 1000 < n) : envR N D X n = 8 := if_pos h
theorem envR_ok {N : Nat → ByteArray} {D : Nat → Int} {X : Nat → Nat} {n : Nat} (h : ¬ 1000 < n) (h2 : allTo (bndOk N D X) n = true) : envR N D X n = 0 := by unfold envR; rw [if_neg h, if_pos h2]
theorem envR_bad {N : Nat → ByteArray} {D : Nat → Int} {X : Nat → Nat} {n : Nat} (h : ¬ 1000 < n) (k : Nat) (hk : k < n) (h2 : bndOk N D X k = false) : envR N D X n = 8 := by
  unfold envR; rw [if_neg h, allTo_no _ k h2 n hk]; rfl
theorem envR_cases (N : Nat → ByteArray) (D : Nat → Int) (X : Nat → Nat) (n : Nat) : envR N D X n = 0 ∨ envR N D X n = 8 := by unfold envR; split; exact .inr rfl; split; exact .inl rfl; exact .inr rfl

set_option maxRecDepth 100000 in
set_option maxHeartbeats 1000000 in
theorem checkBound_any (p : Option Addr) (n cap : Nat) (N : Nat → ByteArray) (D : Nat → Int) (X : Nat → Nat) (w : World) (hn : n ≤ 1100) (hm : EnvAt w p n N D X) (hN : ∀ i, i < n → (N i).size ≤ 200) :
    Calls Tryz.prog 21 #[.slice p n cap] w fun e w' => e = .returned (.int .i64 (envR N D X n : Nat)) ∧ Below w.heap.size w w' := by
  have HM := Lib.hid hm
  have HN := Lib.hid hN
  clear hm hN
  by_cases hmany : 1000 < n
  · rw [envR_many hmany]
    have d : decide ((1000 : Int) < (n : Int)) = true := decide_eq_true (by omega)
    clear hn hmany
    go_enter Tryz.func21, Tryz.ntmps21
    go_wp2
    go_ret
    exact ⟨rfl, Below.refl _ _⟩
  · have d : decide ((1000 : Int) < (n : Int)) = false := decide_eq_false (by omega)
    go_enter Tryz.func21, Tryz.ntmps21
    go_wp2
    go_loopw [10] (fun vi wr => ∃ k : Nat, vi = .int .i64 k ∧ k ≤ n ∧ allTo (bndOk N D X) k = true ∧ Below w.heap.size w wr) (fun vi _ => n - (intOf vi).toNat)
    case atStart => exact ⟨0, rfl, by omega, rfl, Below.refl _ _⟩
    case round =>
      obtain ⟨k, rfl, hk, hl, hb⟩ := hrel
      have HL := Lib.hid hl
      have HB := Lib.hid hb
      clear hl hb
      by_cases hlt : k < n
      · obtain ⟨b, o, hp, hbn, a0, a1, a2⟩ := (HM.out.below HB.out) k hlt
        subst hp
        obtain ⟨q1, h1⟩ : ∃ q, varR (N k) = q := ⟨_, rfl⟩
        obtain ⟨q2, h2⟩ : ∃ q, okW (D k) (X k) = q := ⟨_, rfl⟩
        obtain ⟨q3, h3⟩ : ∃ q, (k == 0 || ltS (N (k - 1)) (N k)) = q := ⟨_, rfl⟩
        have HQ := Lib.hid (show bndOk N D X k = (q1 && q2 && q3) by unfold bndOk; rw [h1, h2, h3])
        obtain ⟨W1, hW1⟩ : ∃ W1, W1 = wr.alloc (.cells #[.string (N k), .int .i64 (D k), .int .u64 (X k : Nat)] 54) := ⟨_, rfl⟩
        have hb1 : Below wr.heap.size wr W1 := by rw [hW1]; exact (Below.refl _ _).alloc (Nat.le_refl _) _
        have C0 : W1.cell? ⟨wr.heap.size, 0, none⟩ = some (.string (N k)) := by rw [hW1]; go_simp
        have C1 : W1.cell? ⟨wr.heap.size, 1, none⟩ = some (.int .i64 (D k)) := by rw [hW1]; go_simp
        have C2 : W1.cell? ⟨wr.heap.size, 2, none⟩ = some (.int .u64 (X k : Nat)) := by rw [hW1]; go_simp
        have K0 := fun d os => cell_regrown C0 d os
        have K1 := fun d os => cell_regrown C1 d os
        have K2 := fun d os => cell_regrown C2 d os
        have CV := Lib.hid (fun d os => (Calls.regrown_of (by rw [← h1]; exact isVariable_any (N k) _ (by have := HN.out k hlt; omega)) : Calls Tryz.prog 53 #[.string (N k)] (grow (redrawn W1 d) os) fun e w'' => e = .returned (.bool q1) ∧ ∃ p : Regrown, w'' = grow (redrawn W1 p.d) p.os))
        have CO := Lib.hid (fun d os => (Calls.regrown_of (by rw [← h2]; exact (okW_any (D k) (X k) _).mono fun _ _ ⟨he, hw⟩ => ⟨he, by rw [← hw]; exact Below.refl _ _⟩) : Calls Tryz.prog 10 #[.int .i64 (D k), .int .u64 (X k : Nat)] (grow (redrawn W1 d) os) fun e w'' => e = .returned (.bool q2) ∧ ∃ p : Regrown, w'' = grow (redrawn W1 p.d) p.os))
        have H1 := Lib.hid (fun d os => HB.out.trans ((hb1.trans (below_regrown_mono W1 d os hb1.size)).mono HB.out.size))
        have HW := Lib.hid hW1
        clear hb1 C0 C1 C2 h1 h2 hW1
        go_wp2_with fail
        rw [← HW.out]
        clear a0 a1 a2
        cases q1 with
        | false =>
          refine wp_region_quiet_below (by kernel_rfl) (by kernel_rfl) ?_
          repeat (first | go_big_quiet_step (first | (with_reducible exact CV.out _ _) | (with_reducible exact CO.out _ _)) | quiet_step (first | (with_reducible exact CV.out _ _) | (with_reducible exact CO.out _ _)))
          refine wpQuiet_nil ?_
          intro _ hw'
          obtain ⟨⟨dq, osq⟩, hw''⟩ := hw'
          subst hw''
          go_wp2
          go_ret
          exact ⟨by rw [envR_bad hmany k hlt (by rw [HQ.out]; rfl)]; rfl, H1.out dq osq⟩
        | true =>
          cases q2 with
          | false =>
            refine wp_region_quiet_below (by kernel_rfl) (by kernel_rfl) ?_
            repeat (first | go_big_quiet_step (first | (with_reducible exact CV.out _ _) | (with_reducible exact CO.out _ _)) | quiet_step (first | (with_reducible exact CV.out _ _) | (with_reducible exact CO.out _ _)))
            refine wpQuiet_nil ?_
            intro _ hw'
            obtain ⟨⟨dq, osq⟩, hw''⟩ := hw'
            subst hw''
            go_wp2
            go_ret
            exact ⟨by rw [envR_bad hmany k hlt (by rw [HQ.out]; rfl)]; rfl, H1.out dq osq⟩
          | true =>
            by_cases hk0 : k = 0
            · have hkd : decide ((0 : Int) < (k : Int)) = false := by simp; omega
              have hkn : decide (0 < k) = false := by simp; omega
              obtain rfl : q3 = true := by rw [← h3, hk0]; rfl
              clear h3 hk0
              refine wp_region_quiet_below (by kernel_rfl) (by kernel_rfl) ?_
              repeat (first | go_big_quiet_step (first | (with_reducible exact CV.out _ _) | (with_reducible exact CO.out _ _)) | quiet_step (first | (with_reducible exact CV.out _ _) | (with_reducible exact CO.out _ _)))
              refine wpQuiet_nil ?_
              intro _ hw'
              obtain ⟨⟨dq, osq⟩, hw''⟩ := hw'
              subst hw''
              go_wp2
              go_roundw
              case rel => exact ⟨k + 1, by first | rfl | (rw [wrap64_small _ (by omega) (by omega)]; rfl), by omega, by rw [allTo_succ, HL.out, HQ.out]; rfl, H1.out dq osq⟩
              case measure => (try rw [wrap64_small _ (by omega) (by omega)]); simp only [intOf]; omega
            · obtain ⟨j, hj⟩ : ∃ j, j = k - 1 := ⟨_, rfl⟩
              obtain ⟨b', o', hp', hbn', a0', _, _⟩ := (HM.out.below HB.out) j (by omega)
              obtain ⟨rfl, rfl⟩ : b' = b ∧ o' = o := by injection hp' with h; injection h with h5 h6; exact ⟨h5.symm, h6.symm⟩
              have D0 := fun d os => cell_regrown (show W1.cell? ⟨b', o' + j * 3, none⟩ = some (.string (N j)) by rw [HW.out, World.cell?_alloc_lt _ _ _ hbn']; exact a0') d os
              have h4' : Op.bytesLess (N j).toList (N k).toList = q3 := by rw [← h3, hj]; simp [hk0, ltS]
              have hj0 : (0 : Int) ≤ (j : Int) := Int.natCast_nonneg _
              have hj1 : (j : Int) < (n : Int) := by omega
              have hj2 : (0 : Int) < (k : Int) := by omega
              have hj4 : 0 < k := by omega
              have hj3 : IntKind.i64.wrap ((k : Int) - 1) = (j : Int) := by rw [show (k : Int) - 1 = j by omega]; exact IntWalk.i64_in _ (by omega)
              clear h3 a0' hbn' hp' hk0 hj
              cases q3 with
              | false =>
                refine wp_region_quiet_below (by kernel_rfl) (by kernel_rfl) ?_
                repeat (first | go_big_quiet_step (first | (with_reducible exact CV.out _ _) | (with_reducible exact CO.out _ _)) | quiet_step (first | (with_reducible exact CV.out _ _) | (with_reducible exact CO.out _ _)))
                refine wpQuiet_nil ?_
                intro _ hw'
                obtain ⟨⟨dq, osq⟩, hw''⟩ := hw'
                subst hw''
                go_wp2
                go_ret
                exact ⟨by rw [envR_bad hmany k hlt (by rw [HQ.out]; rfl)]; rfl, H1.out dq osq⟩
              | true =>
                refine wp_region_quiet_below (by kernel_rfl) (by kernel_rfl) ?_
                repeat (first | go_big_quiet_step (first | (with_reducible exact CV.out _ _) | (with_reducible exact CO.out _ _)) | quiet_step (first | (with_reducible exact CV.out _ _) | (with_reducible exact CO.out _ _)))
                refine wpQuiet_nil ?_
                intro _ hw'
                obtain ⟨⟨dq, osq⟩, hw''⟩ := hw'
                subst hw''
                go_wp2
                go_roundw
                case rel => exact ⟨k + 1, by first | rfl | (rw [wrap64_small _ (by omega) (by omega)]; rfl), by omega, by rw [allTo_succ, HL.out, HQ.out]; rfl, H1.out dq osq⟩
                case measure => (try rw [wrap64_small _ (by omega) (by omega)]); simp only [intOf]; omega
      · obtain rfl : k = n := by omega
        go_wp2
        go_ret
        exact ⟨by rw [envR_ok hmany HL.out]; rfl, HB.out⟩
end Go.Proofs.YthogpmddijbigaaGreatDoor
