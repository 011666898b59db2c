/- Contract of Check of package blast. -/
import Derived.Test.YtmbogdimjbhbmaaBlastMem
namespace Go.Proofs.Ytmbogdimjbhbmaa
open Go.RowKit
set_option linter.unusedVariables false

/-- A circuit within the statements' bounds lies in memory. -/
structure CirAt (w : World) (pi pg po : Option Addr) (ni ng no : Nat) (N : Nat → ByteArray) (B P Q O : Nat → Int) : Prop where
  hi : ni ≤ 600
  hg : ng ≤ 100100
  ho : no ≤ 100
  hN : ∀ i, i < ni → (N i).size ≤ 200
  ins : InsAt w pi ni N B
  gates : PairsAt w pg ng P Q
  outs : NumsAt w po no O
theorem CirAt.below {w w' : World} {pi pg po : Option Addr} {ni ng no : Nat} {N : Nat → ByteArray} {B P Q O : Nat → Int} (h : CirAt w pi pg po ni ng no N B P Q O) (hb : Below w.heap.size w w') : CirAt w' pi pg po ni ng no N B P Q O :=
  ⟨h.hi, h.hg, h.ho, h.hN, h.ins.below hb, h.gates.below hb, h.outs.below hb⟩

section
variable {N : Nat → ByteArray} {B P Q O : Nat → Int} {ni ng no : Nat}
theorem chk_many (h : manyR ni ng no = true) : chkR N B P Q O ni ng no = 4 := by unfold chkR; rw [if_pos h]
theorem chk_in (h : manyR ni ng no = false) (h1 : inputsR N B ni = false) : chkR N B P Q O ni ng no = 8 := by unfold chkR; rw [if_neg (by simp [h]), h1]; rfl
theorem chk_gate (h : manyR ni ng no = false) (h1 : gatesR P Q ni ng = false) : chkR N B P Q O ni ng no = 8 := by unfold chkR; rw [if_neg (by simp [h]), h1]; simp
theorem chk_out (h : manyR ni ng no = false) (h1 : outsR O (1 + ni + ng) no = false) : chkR N B P Q O ni ng no = 8 := by unfold chkR; rw [if_neg (by simp [h]), h1]; simp
theorem chk_ok (h : manyR ni ng no = false) (h1 : inputsR N B ni = true) (h2 : gatesR P Q ni ng = true) (h3 : outsR O (1 + ni + ng) no = true) : chkR N B P Q O ni ng no = 0 := by unfold chkR; rw [if_neg (by simp [h]), h1, h2, h3]; rfl
theorem chk_cases : chkR N B P Q O ni ng no = 0 ∨ chkR N B P Q O ni ng no = 4 ∨ chkR N B P Q O ni ng no = 8 := by unfold chkR; split; exact .inr (.inl rfl); split; exact .inl rfl; exact .inr (.inr rfl)
theorem chk_valid (h : chkR N B P Q O ni ng no = 0) : manyR ni ng no = false ∧ inputsR N B ni = true ∧ gatesR P Q ni ng = true ∧ outsR O (1 + ni + ng) no = true := by
  unfold chkR at h
  by_cases h1 : manyR ni ng no = true
  · rw [if_pos h1] at h; cases h
  · rw [if_neg h1] at h
    by_cases h2 : (inputsR N B ni && gatesR P Q ni ng && outsR O (1 + ni + ng) no) = true
    · simp only [Bool.and_eq_true] at h2
      exact ⟨by simpa using h1, h2.1.1, h2.1.2, h2.2⟩
    · rw [if_neg h2] at h; cases h
end

set_option maxRecDepth 100000 in
theorem check_any (pi pg po : Option Addr) (ni ng no ci cg co : Nat) (N : Nat → ByteArray) (B P Q O : Nat → Int) (w : World) (hc : CirAt w pi pg po ni ng no N B P Q O) :
    Calls Try.prog 11 #[.agg #[.slice pi ni ci, .slice pg ng cg, .slice po no co]] w fun e w' => e = .returned (.int .i64 (chkR N B P Q O ni ng no : Nat)) ∧ Below w.heap.size w w' := by
  obtain ⟨r, hr⟩ : ∃ r, r = chkR N B P Q O ni ng no := ⟨_, rfl⟩
  rw [← hr]
  have HR := Lib.hid hr
  have hni := hc.hi
  have hng := hc.hg
  have hno := hc.ho
  have HC := Lib.hid hc
  clear hc hr
  by_cases hm : manyR ni ng no = true
  · obtain rfl : r = 4 := by rw [HR.out, chk_many hm]
    have hm' : 512 < ni ∨ (¬ 512 < ni ∧ 100000 < ng) ∨ (¬ 512 < ni ∧ ¬ 100000 < ng ∧ 64 < no) := by
      unfold manyR at hm; simp only [Bool.or_eq_true, decide_eq_true_eq] at hm; omega
    clear hm HR
    rcases hm' with h | ⟨h, h2⟩ | ⟨h, h2, h3⟩
    all_goals
      go_enter Try.func11, Try.ntmps11
      go_wp2
      go_ret
      exact ⟨rfl, (Below.refl _ _).alloc (Nat.le_refl _) _⟩
  have hm0 : manyR ni ng no = false := by simpa using hm
  obtain ⟨m1, m2, m3⟩ : ni ≤ 512 ∧ ng ≤ 100000 ∧ no ≤ 64 := by
    unfold manyR at hm0; simp only [Bool.or_eq_false_iff, decide_eq_false_iff_not] at hm0; omega
  have HM := Lib.hid hm0
  clear hm hm0 hni hng hno
  obtain ⟨W1, hW1⟩ : ∃ W1, W1 = w.alloc (.cells #[.slice pi ni ci, .slice pg ng cg, .slice po no co] 26) := ⟨_, rfl⟩
  have hb1 : Below w.heap.size w W1 := by rw [hW1]; exact (Below.refl _ _).alloc (Nat.le_refl _) _
  have c0 : W1.cell? ⟨w.heap.size, 0, none⟩ = some (.slice pi ni ci) := by rw [hW1]; go_simp
  have c1 : W1.cell? ⟨w.heap.size, 1, none⟩ = some (.slice pg ng cg) := by rw [hW1]; go_simp
  have c2 : W1.cell? ⟨w.heap.size, 2, none⟩ = some (.slice po no co) := by rw [hW1]; go_simp
  have hsz : w.heap.size < W1.heap.size := by rw [hW1]; simp
  have HB := Lib.hid hb1
  have H0 := Lib.hid (And.intro hsz (And.intro c0 (And.intro c1 c2)))
  have HV := Lib.hid (valid_any pi ni ci N B W1 (by omega) (HC.out.ins.below hb1) HC.out.hN)
  have HW := Lib.hid hW1
  clear hb1 c0 c1 c2 hsz hW1
  have d1 : decide ((512 : Int) < (ni : Int)) = false := by simp; omega
  have d2 : decide ((100000 : Int) < (ng : Int)) = false := by simp; omega
  have d3 : decide ((64 : Int) < (no : Int)) = false := by simp; omega
  obtain ⟨q, hq⟩ : ∃ q, inputsR N B ni = q := ⟨_, rfl⟩
  rw [hq] at HV
  have HQ := Lib.hid hq
  clear hq
  obtain ⟨hsz, c0, c1, c2⟩ := H0.out
  have c0' := c0
  rw [HW.out] at c0'
  cases q with
  | false =>
    obtain rfl : r = 8 := by rw [HR.out, chk_in HM.out HQ.out]
    rw [HW.out] at HV
    clear hsz c0 c1 c2
    go_enter Try.func11, Try.ntmps11
    go_wp2_with (go_at_call 26; (with_reducible refine HV.out.mono ?_); rintro e w2 ⟨rfl, hb2⟩)
    go_ret
    rw [← HW.out] at hb2
    exact ⟨rfl, HB.out.trans (hb2.mono HB.out.size)⟩
  | true =>
    rw [HW.out] at HV
    clear c0 c1 c2
    go_enter Try.func11, Try.ntmps11
    go_wp2_with (go_at_call 26; (with_reducible refine HV.out.mono ?_); rintro e w2 ⟨rfl, hb2⟩; rw [← HW.out] at hb2; obtain ⟨e0, e1, e2⟩ : w2.cell? ⟨w.heap.size, 0, none⟩ = some (.slice pi ni ci) ∧ w2.cell? ⟨w.heap.size, 1, none⟩ = some (.slice pg ng cg) ∧ w2.cell? ⟨w.heap.size, 2, none⟩ = some (.slice po no co) := ⟨by rw [hb2.cell hsz]; exact H0.out.2.1, by rw [hb2.cell hsz]; exact H0.out.2.2.1, by rw [hb2.cell hsz]; exact H0.out.2.2.2⟩; have HB2 := Lib.hid hb2; clear hb2)
    clear e0 e1 e2 c0'
    go_loopw [3, 35] (fun vn vi wr => ∃ k m : Nat, m = 1 + ni + k ∧ vn = .int .i64 m ∧ vi = .int .i64 k ∧ k ≤ ng ∧ allTo (gateOk P Q ni) k = true ∧ Below W1.heap.size W1 wr) (fun vn vi _ => ng - (intOf vi).toNat)
    case atStart => exact ⟨0, 1 + ni, rfl, by first | rfl | go_num | (congr 1; omega), rfl, by omega, rfl, HB2.out⟩
    case round =>
      obtain ⟨k, m, hmk, rfl, rfl, hk, hl, hb⟩ := hrel
      have HL := Lib.hid hl
      have HB3 := Lib.hid hb
      have HMK := Lib.hid hmk
      clear hl hb
      by_cases hlt : k < ng
      · obtain ⟨b, o, hp, hbn, a0, a1⟩ := ((HC.out.gates.below HB.out).below HB3.out) k hlt
        subst hp
        obtain ⟨q1, h1⟩ : ∃ q, litOk (P k) m = q := ⟨_, rfl⟩
        obtain ⟨q2, h2⟩ : ∃ q, litOk (Q k) m = q := ⟨_, rfl⟩
        have HQ1 := Lib.hid (show gateOk P Q ni k = (q1 && q2) by unfold gateOk; rw [← hmk, h1, h2])
        have L1 := Lib.hid (fun w => literal_any (P k) m w (by omega))
        have L2 := Lib.hid (fun w => literal_any (Q k) m w (by omega))
        rw [h1] at L1
        rw [h2] at L2
        have hWr : Below w.heap.size w wr := HB.out.trans (HB3.out.mono HB.out.size)
        have HWr := Lib.hid hWr
        clear h1 h2 hWr hmk
        cases q1 with
        | false =>
          have HF := Lib.hid (chk_gate (N := N) (B := B) (O := O) (no := no) HM.out (allTo_no (gateOk P Q ni) k HQ1.out ng hlt))
          obtain rfl : r = 8 := by rw [HR.out, HF.out]
          go_wp2_with (go_at_call 27; first | ((with_reducible refine (L1.out _).mono ?_); rintro e w' ⟨rfl, rfl⟩) | ((with_reducible refine (L2.out _).mono ?_); rintro e w' ⟨rfl, rfl⟩))
          go_ret
          exact ⟨rfl, HWr.out.alloc HWr.out.size _⟩
        | true =>
          cases q2 with
          | false =>
            have HF := Lib.hid (chk_gate (N := N) (B := B) (O := O) (no := no) HM.out (allTo_no (gateOk P Q ni) k HQ1.out ng hlt))
            obtain rfl : r = 8 := by rw [HR.out, HF.out]
            go_wp2_with (go_at_call 27; first | ((with_reducible refine (L1.out _).mono ?_); rintro e w' ⟨rfl, rfl⟩) | ((with_reducible refine (L2.out _).mono ?_); rintro e w' ⟨rfl, rfl⟩))
            go_ret
            exact ⟨rfl, HWr.out.alloc HWr.out.size _⟩
          | true =>
            go_wp2_with (go_at_call 27; first | ((with_reducible refine (L1.out _).mono ?_); rintro e w' ⟨rfl, rfl⟩) | ((with_reducible refine (L2.out _).mono ?_); rintro e w' ⟨rfl, rfl⟩))
            go_roundw
            case rel => have hmk := HMK.out; exact ⟨k + 1, m + 1, by omega, by first | rfl | go_num | (rw [wrap64_small _ (by omega) (by omega)]; rfl), by first | rfl | go_num | (rw [wrap64_small _ (by omega) (by omega)]; rfl), by omega, by rw [allTo_succ, HL.out, HQ1.out]; rfl, HB3.out.alloc HB3.out.size _⟩
            case measure => (try rw [wrap64_small _ (by omega) (by omega)]); simp only [intOf]; omega
      · obtain rfl : k = ng := by omega
        have HWr := Lib.hid (show Below w.heap.size w wr from HB.out.trans (HB3.out.mono HB.out.size))
        have e2 : wr.cell? ⟨w.heap.size, 2, none⟩ = some (.slice po no co) := by rw [HB3.out.cell H0.out.1]; exact H0.out.2.2.2
        have hm1 : m ≤ 200000 := by omega
        have HG := Lib.hid (show gatesR P Q ni k = true from HL.out)
        clear hmk HL
        go_wp2
        clear e2
        go_loopw [57] (fun vi wr' => ∃ j : Nat, vi = .int .i64 j ∧ j ≤ no ∧ allTo (fun i => litOk (O i) m) j = true ∧ wr = wr') (fun vi _ => no - (intOf vi).toNat)
        case atStart => exact ⟨0, rfl, by omega, rfl, rfl⟩
        case round =>
          obtain ⟨j, rfl, hj, hl, rfl⟩ := hrel
          have HL := Lib.hid hl
          clear hl
          by_cases hjt : j < no
          · obtain ⟨b, o, hp, hbn, a0⟩ := ((HC.out.outs.below HB.out).below HB3.out) j hjt
            subst hp
            obtain ⟨q1, h1⟩ : ∃ q, litOk (O j) m = q := ⟨_, rfl⟩
            have L1 := Lib.hid (fun w => literal_any (O j) m w hm1)
            rw [h1] at L1
            have HQ1 := Lib.hid h1
            clear h1
            cases q1 with
            | false =>
              have HF := Lib.hid (chk_out (N := N) (B := B) (P := P) (Q := Q) (ni := ni) (ng := k) (no := no) (O := O) HM.out (by rw [← HMK.out]; exact allTo_no _ j HQ1.out no hjt))
              obtain rfl : r = 8 := by rw [HR.out, HF.out]
              go_wp2_with (go_at_call 27; (with_reducible refine (L1.out _).mono ?_); rintro e w' ⟨rfl, rfl⟩)
              go_ret
              exact ⟨rfl, HWr.out⟩
            | true =>
              go_wp2_with (go_at_call 27; (with_reducible refine (L1.out _).mono ?_); rintro e w' ⟨rfl, rfl⟩)
              go_roundw
              case rel => exact ⟨j + 1, by first | rfl | go_num | (rw [wrap64_small _ (by omega) (by omega)]; rfl), by omega, by rw [allTo_succ, HL.out, HQ1.out]; rfl, by first | rfl | trivial⟩
              case measure => (try rw [wrap64_small _ (by omega) (by omega)]); simp only [intOf]; omega
          · obtain rfl : j = no := by omega
            have HF := Lib.hid (chk_ok (N := N) (B := B) (P := P) (Q := Q) (ni := ni) (ng := k) (no := j) (O := O) HM.out HQ.out HG.out (by rw [← HMK.out]; exact HL.out))
            obtain rfl : r = 0 := by rw [HR.out, HF.out]
            go_wp2
            go_ret
            exact ⟨rfl, HWr.out⟩
end Go.Proofs.Ytmbogdimjbhbmaa
