/- Bindings in memory, when they are valid, in plain words; term.CheckBound. -/
import Derived.Test.YtmbogdimjbhbmaaBlastMem
import Derived.Test.YtmbogdimjbhbmaaBlastRefMath
import Derived.Test.YtmbogdimjbhbmaaBitsOk
import Derived.Test.YtmbogdimjbhbmaaEnvOk
namespace Go.Proofs.Ytmbogdimjbhbmaa
open Go.RowKit Go.Sort
set_option linter.unusedVariables false
set_option linter.unusedSimpArgs false

/-- n bindings lie behind a slice's address: names N, widths D, bits X. -/
def EnvAt (w : World) (p : Option Addr) (n : Nat) (N : Nat → ByteArray) (D : Nat → Int) (X : Nat → Nat) : Prop :=
  ∀ i, i < n → ∃ b o, p = some ⟨b, o, none⟩ ∧ b < w.heap.size ∧ w.cell? ⟨b, o + i * 3, none⟩ = some (.string (N i)) ∧ w.cell? ⟨b, o + i * 3 + 1, none⟩ = some (.int .i64 (D i)) ∧ w.cell? ⟨b, o + i * 3 + 2, none⟩ = some (.int .u64 (X i : Nat))
theorem EnvAt.below {w w' : World} {p : Option Addr} {n : Nat} {N : Nat → ByteArray} {D : Nat → Int} {X : Nat → Nat} (h : EnvAt w p n N D X) (hb : Below w.heap.size w w') : EnvAt w' p n N D X := by
  intro i hi
  obtain ⟨b, o, e, h1, h2, h3, h4⟩ := h i hi
  exact ⟨b, o, e, Nat.lt_of_lt_of_le h1 hb.size, by rw [hb.cell h1]; exact h2, by rw [hb.cell h1]; exact h3, by rw [hb.cell h1]; exact h4⟩

theorem termVar_any (s : ByteArray) (W : World) (hm : s.size ≤ 1000) : Calls Try.prog 29 #[.string s] W fun e w' => e = .returned (.bool (varR s)) ∧ Below W.heap.size W w' := by
  have H1 := Lib.hid (fun W => trim_any s W hm)
  have H2 := Lib.hid (fun W => name_any (trimR s) W (by have := trimR_size s; omega))
  rw [show nameR (trimR s) = varR s from rfl] at H2
  clear hm
  generalize trimR s = t at *
  go_enter Try.func29, Try.ntmps29
  go_wp2_with (first
    | (go_at_call 37; (with_reducible refine (H1.out _).mono ?_); rintro e w' ⟨rfl, rfl⟩)
    | (go_at_call 36; (with_reducible refine (H2.out _).mono ?_); rintro e w' ⟨rfl, hb⟩))
  go_ret
  exact ⟨rfl, hb⟩

def okR (n : Int) (x : Nat) : Bool := if 1 ≤ n ∧ n ≤ 64 then okB n.toNat x else false
theorem okT_any (n : Int) (x : Nat) (w : World) : Calls Try.prog 30 #[.int .i64 n, .int .u64 x] w fun e w' => e = .returned (.bool (okR n x)) ∧ w = w' := by
  unfold okR
  by_cases h : 1 ≤ n ∧ n ≤ 64
  · rw [if_pos h]
    obtain ⟨m, rfl⟩ : ∃ m : Nat, n = m := ⟨n.toNat, by omega⟩
    exact ok_any m x w (by omega) (by omega)
  · rw [if_neg h]
    exact ok_no n x w (by omega)
theorem refOkT_any (n : Int) (x : Nat) (w : World) (hx : x < 18446744073709551616) : Calls Try.prog 32 #[.int .i64 n, .int .u64 x] w fun e w' => e = .returned (.bool (okR n x)) ∧ w = w' := by
  unfold okR
  by_cases h : 1 ≤ n ∧ n ≤ 64
  · rw [if_pos h]
    obtain ⟨m, rfl⟩ : ∃ m : Nat, n = m := ⟨n.toNat, by omega⟩
    exact refOk_yes m x w (by omega) (by omega) hx
  · rw [if_neg h]
    exact refOk_no n x w (by omega)

def ltS (a b : ByteArray) : Bool := Op.bytesLess a.toList b.toList
noncomputable def bndOk (N : Nat → ByteArray) (D : Nat → Int) (X : Nat → Nat) (i : Nat) : Bool := varR (N i) && okR (D i) (X i) && (i == 0 || ltS (N (i - 1)) (N i))
noncomputable def envR (N : Nat → ByteArray) (D : Nat → Int) (X : Nat → Nat) (n : Nat) : Nat := if 1000 < n then 8 else if allTo (bndOk N D X) n = true then 0 else 8
theorem envR_many {N : Nat → ByteArray} {D : Nat → Int} {X : Nat → Nat} {n : Nat} (h : 1000 < n) : envR N D X n = 8 := if_pos h
theorem envR_ok {N : Nat → ByteArray} {D : Nat → Int} {X : Nat → Nat} {n : Nat} (h : ¬ 1000 < n) (h2 : allTo (bndOk N D X) n = true) : envR N D X n = 0 := by unfold envR; rw [if_neg h, if_pos h2]
theorem envR_bad {N : Nat → ByteArray} {D : Nat → Int} {X : Nat → Nat} {n : Nat} (h : ¬ 1000 < n) (k : Nat) (hk : k < n) (h2 : bndOk N D X k = false) : envR N D X n = 8 := by
  unfold envR; rw [if_neg h, allTo_no _ k h2 n hk]; rfl
theorem envR_cases (N : Nat → ByteArray) (D : Nat → Int) (X : Nat → Nat) (n : Nat) : envR N D X n = 0 ∨ envR N D X n = 8 := by unfold envR; split; exact .inr rfl; split; exact .inl rfl; exact .inr rfl

set_option maxRecDepth 100000 in
set_option maxHeartbeats 1000000 in
theorem checkBound_any (p : Option Addr) (n cap : Nat) (N : Nat → ByteArray) (D : Nat → Int) (X : Nat → Nat) (w : World) (hn : n ≤ 1100) (hm : EnvAt w p n N D X) (hN : ∀ i, i < n → (N i).size ≤ 200) :
    Calls Try.prog 20 #[.slice p n cap] w fun e w' => e = .returned (.int .i64 (envR N D X n : Nat)) ∧ Below w.heap.size w w' := by
  have HM := Lib.hid hm
  have HN := Lib.hid hN
  clear hm hN
  by_cases hmany : 1000 < n
  · rw [envR_many hmany]
    have d : decide ((1000 : Int) < (n : Int)) = true := decide_eq_true (by omega)
    clear hn hmany
    go_enter Try.func20, Try.ntmps20
    go_wp2
    go_ret
    exact ⟨rfl, Below.refl _ _⟩
  · have d : decide ((1000 : Int) < (n : Int)) = false := decide_eq_false (by omega)
    go_enter Try.func20, Try.ntmps20
    go_wp2
    go_loopw [10] (fun vi wr => ∃ k : Nat, vi = .int .i64 k ∧ k ≤ n ∧ allTo (bndOk N D X) k = true ∧ Below w.heap.size w wr) (fun vi _ => n - (intOf vi).toNat)
    case atStart => exact ⟨0, rfl, by omega, rfl, Below.refl _ _⟩
    case round =>
      obtain ⟨k, rfl, hk, hl, hb⟩ := hrel
      have HL := Lib.hid hl
      have HB := Lib.hid hb
      clear hl hb
      by_cases hlt : k < n
      · obtain ⟨b, o, hp, hbn, a0, a1, a2⟩ := (HM.out.below HB.out) k hlt
        subst hp
        obtain ⟨q1, h1⟩ : ∃ q, varR (N k) = q := ⟨_, rfl⟩
        obtain ⟨q2, h2⟩ : ∃ q, okR (D k) (X k) = q := ⟨_, rfl⟩
        obtain ⟨q3, h3⟩ : ∃ q, (k == 0 || ltS (N (k - 1)) (N k)) = q := ⟨_, rfl⟩
        have HQ := Lib.hid (show bndOk N D X k = (q1 && q2 && q3) by unfold bndOk; rw [h1, h2, h3])
        obtain ⟨W1, hW1⟩ : ∃ W1, W1 = wr.alloc (.cells #[.string (N k), .int .i64 (D k), .int .u64 (X k : Nat)] 49) := ⟨_, rfl⟩
        have hb1 : Below wr.heap.size wr W1 := by rw [hW1]; exact (Below.refl _ _).alloc (Nat.le_refl _) _
        have C0 : W1.cell? ⟨wr.heap.size, 0, none⟩ = some (.string (N k)) := by rw [hW1]; go_simp
        have C1 : W1.cell? ⟨wr.heap.size, 1, none⟩ = some (.int .i64 (D k)) := by rw [hW1]; go_simp
        have C2 : W1.cell? ⟨wr.heap.size, 2, none⟩ = some (.int .u64 (X k : Nat)) := by rw [hW1]; go_simp
        have K0 := fun d os => cell_regrown C0 d os
        have K1 := fun d os => cell_regrown C1 d os
        have K2 := fun d os => cell_regrown C2 d os
        have CV := Lib.hid (fun d os => (Calls.regrown_of (by rw [← h1]; exact termVar_any (N k) _ (by have := HN.out k hlt; omega)) : Calls Try.prog 29 #[.string (N k)] (grow (redrawn W1 d) os) fun e w'' => e = .returned (.bool q1) ∧ ∃ p : Regrown, w'' = grow (redrawn W1 p.d) p.os))
        have CO := Lib.hid (fun d os => (Calls.regrown_of (by rw [← h2]; exact (okT_any (D k) (X k) _).mono fun _ _ ⟨he, hw⟩ => ⟨he, by rw [← hw]; exact Below.refl _ _⟩) : Calls Try.prog 30 #[.int .i64 (D k), .int .u64 (X k : Nat)] (grow (redrawn W1 d) os) fun e w'' => e = .returned (.bool q2) ∧ ∃ p : Regrown, w'' = grow (redrawn W1 p.d) p.os))
        have H1 := Lib.hid (fun d os => HB.out.trans ((hb1.trans (below_regrown_mono W1 d os hb1.size)).mono HB.out.size))
        have HW := Lib.hid hW1
        clear hb1 C0 C1 C2 h1 h2 hW1
        go_wp2_with fail
        rw [← HW.out]
        clear a0 a1 a2
        cases q1 with
        | false =>
          refine wp_region_quiet_below (by kernel_rfl) (by kernel_rfl) ?_
          repeat (first | go_big_quiet_step (first | (with_reducible exact CV.out _ _) | (with_reducible exact CO.out _ _)) | quiet_step (first | (with_reducible exact CV.out _ _) | (with_reducible exact CO.out _ _)))
          refine wpQuiet_nil ?_
          intro _ hw'
          obtain ⟨⟨dq, osq⟩, hw''⟩ := hw'
          subst hw''
          go_wp2
          go_ret
          exact ⟨by rw [envR_bad hmany k hlt (by rw [HQ.out]; rfl)]; rfl, H1.out dq osq⟩
        | true =>
          cases q2 with
          | false =>
            refine wp_region_quiet_below (by kernel_rfl) (by kernel_rfl) ?_
            repeat (first | go_big_quiet_step (first | (with_reducible exact CV.out _ _) | (with_reducible exact CO.out _ _)) | quiet_step (first | (with_reducible exact CV.out _ _) | (with_reducible exact CO.out _ _)))
            refine wpQuiet_nil ?_
            intro _ hw'
            obtain ⟨⟨dq, osq⟩, hw''⟩ := hw'
            subst hw''
            go_wp2
            go_ret
            exact ⟨by rw [envR_bad hmany k hlt (by rw [HQ.out]; rfl)]; rfl, H1.out dq osq⟩
          | true =>
            by_cases hk0 : k = 0
            · have hkd : decide ((0 : Int) < (k : Int)) = false := by simp; omega
              have hkn : decide (0 < k) = false := by simp; omega
              obtain rfl : q3 = true := by rw [← h3, hk0]; rfl
              clear h3 hk0
              refine wp_region_quiet_below (by kernel_rfl) (by kernel_rfl) ?_
              repeat (first | go_big_quiet_step (first | (with_reducible exact CV.out _ _) | (with_reducible exact CO.out _ _)) | quiet_step (first | (with_reducible exact CV.out _ _) | (with_reducible exact CO.out _ _)))
              refine wpQuiet_nil ?_
              intro _ hw'
              obtain ⟨⟨dq, osq⟩, hw''⟩ := hw'
              subst hw''
              go_wp2
              go_roundw
              case rel => exact ⟨k + 1, by first | rfl | (rw [wrap64_small _ (by omega) (by omega)]; rfl), by omega, by rw [allTo_succ, HL.out, HQ.out]; rfl, H1.out dq osq⟩
              case measure => (try rw [wrap64_small _ (by omega) (by omega)]); simp only [intOf]; omega
            · obtain ⟨j, hj⟩ : ∃ j, j = k - 1 := ⟨_, rfl⟩
              obtain ⟨b', o', hp', hbn', a0', _, _⟩ := (HM.out.below HB.out) j (by omega)
              obtain ⟨rfl, rfl⟩ : b' = b ∧ o' = o := by injection hp' with h; injection h with h5 h6; exact ⟨h5.symm, h6.symm⟩
              have D0 := fun d os => cell_regrown (show W1.cell? ⟨b', o' + j * 3, none⟩ = some (.string (N j)) by rw [HW.out, World.cell?_alloc_lt _ _ _ hbn']; exact a0') d os
              have h4' : Op.bytesLess (N j).toList (N k).toList = q3 := by rw [← h3, hj]; simp [hk0, ltS]
              have hj0 : (0 : Int) ≤ (j : Int) := Int.natCast_nonneg _
              have hj1 : (j : Int) < (n : Int) := by omega
              have hj2 : (0 : Int) < (k : Int) := by omega
              have hj4 : 0 < k := by omega
              have hj3 : IntKind.i64.wrap ((k : Int) - 1) = (j : Int) := by rw [show (k : Int) - 1 = j by omega]; exact IntWalk.i64_in _ (by omega)
              clear h3 a0' hbn' hp' hk0 hj
              cases q3 with
              | false =>
                refine wp_region_quiet_below (by kernel_rfl) (by kernel_rfl) ?_
                repeat (first | go_big_quiet_step (first | (with_reducible exact CV.out _ _) | (with_reducible exact CO.out _ _)) | quiet_step (first | (with_reducible exact CV.out _ _) | (with_reducible exact CO.out _ _)))
                refine wpQuiet_nil ?_
                intro _ hw'
                obtain ⟨⟨dq, osq⟩, hw''⟩ := hw'
                subst hw''
                go_wp2
                go_ret
                exact ⟨by rw [envR_bad hmany k hlt (by rw [HQ.out]; rfl)]; rfl, H1.out dq osq⟩
              | true =>
                refine wp_region_quiet_below (by kernel_rfl) (by kernel_rfl) ?_
                repeat (first | go_big_quiet_step (first | (with_reducible exact CV.out _ _) | (with_reducible exact CO.out _ _)) | quiet_step (first | (with_reducible exact CV.out _ _) | (with_reducible exact CO.out _ _)))
                refine wpQuiet_nil ?_
                intro _ hw'
                obtain ⟨⟨dq, osq⟩, hw''⟩ := hw'
                subst hw''
                go_wp2
                go_roundw
                case rel => exact ⟨k + 1, by first | rfl | (rw [wrap64_small _ (by omega) (by omega)]; rfl), by omega, by rw [allTo_succ, HL.out, HQ.out]; rfl, H1.out dq osq⟩
                case measure => (try rw [wrap64_small _ (by omega) (by omega)]); simp only [intOf]; omega
      · obtain rfl : k = n := by omega
        go_wp2
        go_ret
        exact ⟨by rw [envR_ok hmany HL.out]; rfl, HB.out⟩
end Go.Proofs.Ytmbogdimjbhbmaa
