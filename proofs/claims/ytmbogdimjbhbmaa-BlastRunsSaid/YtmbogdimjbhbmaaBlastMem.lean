/- Circuits in memory, and when one is valid, in plain words. -/
import Derived.Test.YtmbogdimjbhbmaaBlastBefore
import Derived.Lib.QuietBelow
import Derived.BigQuiet
import Derived.IntWalk
namespace Go.Proofs.Ytmbogdimjbhbmaa
open Go.RowKit Go.Sort
set_option linter.unusedVariables false

theorem cell_lt {W : World} {a : Addr} {v : Value} (h : W.cell? a = some v) : a.block < W.heap.size := Nat.lt_of_not_le fun hle => by
  have hn : W.heap[a.block]? = none := by simp [hle]
  simp [World.cell?, hn] at h
/-- n inputs lie behind a slice's address: names N, bits B. -/
def InsAt (w : World) (p : Option Addr) (n : Nat) (N : Nat → ByteArray) (B : Nat → Int) : Prop :=
  ∀ i, i < n → ∃ b o, p = some ⟨b, o, none⟩ ∧ b < w.heap.size ∧ w.cell? ⟨b, o + i * 2, none⟩ = some (.string (N i)) ∧ w.cell? ⟨b, o + i * 2 + 1, none⟩ = some (.int .i64 (B i))
theorem InsAt.below {w w' : World} {p : Option Addr} {n : Nat} {N : Nat → ByteArray} {B : Nat → Int} (h : InsAt w p n N B) (hb : Below w.heap.size w w') : InsAt w' p n N B := by
  intro i hi
  obtain ⟨b, o, e, h1, h2, h3⟩ := h i hi
  exact ⟨b, o, e, Nat.lt_of_lt_of_le h1 hb.size, by rw [hb.cell h1]; exact h2, by rw [hb.cell h1]; exact h3⟩
/-- n pairs of numbers. -/
def PairsAt (w : World) (p : Option Addr) (n : Nat) (P Q : Nat → Int) : Prop :=
  ∀ i, i < n → ∃ b o, p = some ⟨b, o, none⟩ ∧ b < w.heap.size ∧ w.cell? ⟨b, o + i * 2, none⟩ = some (.int .i64 (P i)) ∧ w.cell? ⟨b, o + i * 2 + 1, none⟩ = some (.int .i64 (Q i))
theorem PairsAt.below {w w' : World} {p : Option Addr} {n : Nat} {P Q : Nat → Int} (h : PairsAt w p n P Q) (hb : Below w.heap.size w w') : PairsAt w' p n P Q := by
  intro i hi
  obtain ⟨b, o, e, h1, h2, h3⟩ := h i hi
  exact ⟨b, o, e, Nat.lt_of_lt_of_le h1 hb.size, by rw [hb.cell h1]; exact h2, by rw [hb.cell h1]; exact h3⟩
/-- n numbers. -/
def NumsAt (w : World) (p : Option Addr) (n : Nat) (O : Nat → Int) : Prop :=
  ∀ i, i < n → ∃ b o, p = some ⟨b, o, none⟩ ∧ b < w.heap.size ∧ w.cell? ⟨b, o + i, none⟩ = some (.int .i64 (O i))
theorem NumsAt.below {w w' : World} {p : Option Addr} {n : Nat} {O : Nat → Int} (h : NumsAt w p n O) (hb : Below w.heap.size w w') : NumsAt w' p n O := by
  intro i hi
  obtain ⟨b, o, e, h1, h2⟩ := h i hi
  exact ⟨b, o, e, Nat.lt_of_lt_of_le h1 hb.size, by rw [hb.cell h1]; exact h2⟩

-- all of the first n
def allTo (f : Nat → Bool) : Nat → Bool | 0 => true | n + 1 => allTo f n && f n
theorem allTo_succ (f : Nat → Bool) (n : Nat) : allTo f (n + 1) = (allTo f n && f n) := rfl
theorem allTo_no (f : Nat → Bool) (k : Nat) (hf : f k = false) : ∀ n, k < n → allTo f n = false
  | 0, h => by omega
  | n + 1, h => by
    rw [allTo_succ]
    by_cases e : k = n
    · subst e; rw [hf, Bool.and_false]
    · rw [allTo_no f k hf n (by omega), Bool.false_and]
theorem allTo_at (f : Nat → Bool) : ∀ n, allTo f n = true → ∀ k, k < n → f k = true
  | 0, _, k, h => by omega
  | n + 1, hn, k, h => by
    rw [allTo_succ, Bool.and_eq_true] at hn
    by_cases e : k = n
    · subst e; exact hn.2
    · exact allTo_at f n hn.1 k (by omega)

noncomputable def inOk (N : Nat → ByteArray) (B : Nat → Int) (i : Nat) : Bool := varR (N i) && !decide (B i < 0) && !decide (64 ≤ B i) && (i == 0 || befR (N (i - 1)) (B (i - 1)) (N i) (B i))
noncomputable def inputsR (N : Nat → ByteArray) (B : Nat → Int) (n : Nat) : Bool := allTo (inOk N B) n
def litOk (l : Int) (n : Nat) : Bool := decide (0 ≤ l) && decide (l < 2 * (n : Int))
def gateOk (P Q : Nat → Int) (ni i : Nat) : Bool := litOk (P i) (1 + ni + i) && litOk (Q i) (1 + ni + i)
def gatesR (P Q : Nat → Int) (ni ng : Nat) : Bool := allTo (gateOk P Q ni) ng
def outsR (O : Nat → Int) (n no : Nat) : Bool := allTo (fun i => litOk (O i) n) no
def manyR (ni ng no : Nat) : Bool := decide (512 < ni) || decide (100000 < ng) || decide (64 < no)
noncomputable def chkR (N : Nat → ByteArray) (B P Q O : Nat → Int) (ni ng no : Nat) : Nat :=
  if manyR ni ng no = true then 4 else if (inputsR N B ni && gatesR P Q ni ng && outsR O (1 + ni + ng) no) = true then 0 else 8

theorem literal_any (l : Int) (n : Nat) (w : World) (hn : n ≤ 200000) : Calls Try.prog 27 #[.int .i64 l, .int .i64 n] w fun e w' => e = .returned (.bool (litOk l n)) ∧ w = w' := by
  have HR := Lib.hid (show litOk l n = (decide (0 ≤ l) && decide (l < 2 * (n : Int))) from rfl)
  generalize litOk l n = r at *
  by_cases h : 0 ≤ l
  · go_enter Try.func27, Try.ntmps27
    go_wp2
    go_ret
    refine ⟨?_, rfl⟩
    rw [HR.out]
    simp [h]
  · have h2 : decide (0 ≤ l) = false := by simpa using h
    clear h
    go_enter Try.func27, Try.ntmps27
    go_wp2
    go_ret
    refine ⟨?_, rfl⟩
    rw [HR.out, h2]
    rfl

theorem below_regrown_mono {w : World} (W1 : World) (d : Nat) (os : Array Obj) (h : w.heap.size ≤ W1.heap.size) : Below w.heap.size W1 (grow (redrawn W1 d) os) := (below_regrown W1 d os).mono h

set_option maxRecDepth 100000 in
theorem valid_any (p : Option Addr) (n cap : Nat) (N : Nat → ByteArray) (B : Nat → Int) (w : World) (hn : n ≤ 600) (hm : InsAt w p n N B) (hN : ∀ i, i < n → (N i).size ≤ 200) :
    Calls Try.prog 26 #[.slice p n cap] w fun e w' => e = .returned (.bool (inputsR N B n)) ∧ Below w.heap.size w w' := by
  have HM := Lib.hid hm
  have HN := Lib.hid hN
  clear hm hN
  go_enter Try.func26, Try.ntmps26
  go_wp2
  go_loopw [7] (fun vi wr => ∃ k : Nat, vi = .int .i64 k ∧ k ≤ n ∧ inputsR N B k = true ∧ Below w.heap.size w wr) (fun vi _ => n - (intOf vi).toNat)
  case atStart => exact ⟨0, rfl, by omega, rfl, Below.refl _ _⟩
  case round =>
    obtain ⟨k, rfl, hk, hl, hb⟩ := hrel
    have HL := Lib.hid hl
    have HB := Lib.hid hb
    clear hl hb
    by_cases hlt : k < n
    · obtain ⟨b, o, hp, hbn, a0, a1⟩ := (HM.out.below HB.out) k hlt
      subst hp
      obtain ⟨q1, h1⟩ : ∃ q, varR (N k) = q := ⟨_, rfl⟩
      obtain ⟨q2, h2⟩ : ∃ q, decide (B k < 0) = q := ⟨_, rfl⟩
      obtain ⟨q3, h3⟩ : ∃ q, decide (64 ≤ B k) = q := ⟨_, rfl⟩
      obtain ⟨q4, h4⟩ : ∃ q, (k == 0 || befR (N (k - 1)) (B (k - 1)) (N k) (B k)) = q := ⟨_, rfl⟩
      have HQ := Lib.hid (show inOk N B k = (q1 && !q2 && !q3 && q4) by unfold inOk; rw [h1, h2, h3, h4])
      obtain ⟨W1, hW1⟩ : ∃ W1, W1 = wr.alloc (.cells #[.string (N k), .int .i64 (B k)] 45) := ⟨_, rfl⟩
      have hb1 : Below wr.heap.size wr W1 := by rw [hW1]; exact (Below.refl _ _).alloc (Nat.le_refl _) _
      have C0 : W1.cell? ⟨wr.heap.size, 0, none⟩ = some (.string (N k)) := by rw [hW1]; go_simp
      have C1 : W1.cell? ⟨wr.heap.size, 1, none⟩ = some (.int .i64 (B k)) := by rw [hW1]; go_simp
      have K0 := fun d os => cell_regrown C0 d os
      have K1 := fun d os => cell_regrown C1 d os
      have cV : ∀ d os, Calls Try.prog 33 #[.string (N k)] (grow (redrawn W1 d) os) fun e w'' => e = .returned (.bool q1) ∧ ∃ p : Regrown, w'' = grow (redrawn W1 p.d) p.os :=
        fun d os => Calls.regrown_of (by rw [← h1]; exact blastVar_any (N k) _ (by have := HN.out k hlt; omega))
      have CV := Lib.hid cV
      have H1 := Lib.hid (fun d os => HB.out.trans ((hb1.trans (below_regrown_mono W1 d os hb1.size)).mono HB.out.size))
      have HW := Lib.hid hW1
      clear cV hb1 C0 C1 h1 hW1
      have hbn2 := hbn
      go_wp2_with fail
      rw [← HW.out]
      clear a0 a1
      cases q1 with
      | false =>
        refine wp_region_quiet_below (by kernel_rfl) (by kernel_rfl) ?_
        repeat (first | go_big_quiet_step ((with_reducible exact CV.out _ _)) | quiet_step ((with_reducible exact CV.out _ _)))
        refine wpQuiet_nil ?_
        intro _ hw'
        obtain ⟨⟨dq, osq⟩, hw''⟩ := hw'
        subst hw''
        go_wp2
        go_ret
        exact ⟨by rw [show inputsR N B n = false from allTo_no _ k (by rw [HQ.out]; rfl) n hlt]; rfl, H1.out dq osq⟩
      | true =>
        cases q2 with
        | true =>
          refine wp_region_quiet_below (by kernel_rfl) (by kernel_rfl) ?_
          repeat (first | go_big_quiet_step ((with_reducible exact CV.out _ _)) | quiet_step ((with_reducible exact CV.out _ _)))
          refine wpQuiet_nil ?_
          intro _ hw'
          obtain ⟨⟨dq, osq⟩, hw''⟩ := hw'
          subst hw''
          go_wp2
          go_ret
          exact ⟨by rw [show inputsR N B n = false from allTo_no _ k (by rw [HQ.out]; rfl) n hlt]; rfl, H1.out dq osq⟩
        | false =>
          cases q3 with
          | true =>
            refine wp_region_quiet_below (by kernel_rfl) (by kernel_rfl) ?_
            repeat (first | go_big_quiet_step ((with_reducible exact CV.out _ _)) | quiet_step ((with_reducible exact CV.out _ _)))
            refine wpQuiet_nil ?_
            intro _ hw'
            obtain ⟨⟨dq, osq⟩, hw''⟩ := hw'
            subst hw''
            go_wp2
            go_ret
            exact ⟨by rw [show inputsR N B n = false from allTo_no _ k (by rw [HQ.out]; rfl) n hlt]; rfl, H1.out dq osq⟩
          | false =>
            by_cases hk0 : k = 0
            · have hkd : decide ((0 : Int) < (k : Int)) = false := by simp; omega
              have hkn : decide (0 < k) = false := by simp; omega
              obtain rfl : q4 = true := by rw [← h4, hk0]; rfl
              clear h4 hk0
              refine wp_region_quiet_below (by kernel_rfl) (by kernel_rfl) ?_
              repeat (first | go_big_quiet_step ((with_reducible exact CV.out _ _)) | quiet_step ((with_reducible exact CV.out _ _)))
              refine wpQuiet_nil ?_
              intro _ hw'
              obtain ⟨⟨dq, osq⟩, hw''⟩ := hw'
              subst hw''
              go_wp2
              go_roundw
              case rel => exact ⟨k + 1, by first | rfl | (rw [wrap64_small _ (by omega) (by omega)]; rfl), by omega, by rw [show inputsR N B (k + 1) = (inputsR N B k && inOk N B k) from rfl, HL.out, HQ.out]; rfl, H1.out dq osq⟩
              case measure => (try rw [wrap64_small _ (by omega) (by omega)]); simp only [intOf]; omega
            · obtain ⟨j, hj⟩ : ∃ j, j = k - 1 := ⟨_, rfl⟩
              obtain ⟨b', o', hp', hbn', a0', a1'⟩ := (HM.out.below HB.out) j (by omega)
              obtain ⟨rfl, rfl⟩ : b' = b ∧ o' = o := by injection hp' with h; injection h with h5 h6; exact ⟨h5.symm, h6.symm⟩
              have D0 := fun d os => cell_regrown (show W1.cell? ⟨b', o' + j * 2, none⟩ = some (.string (N j)) by rw [HW.out, World.cell?_alloc_lt _ _ _ hbn']; exact a0') d os
              have D1 := fun d os => cell_regrown (show W1.cell? ⟨b', o' + j * 2 + 1, none⟩ = some (.int .i64 (B j)) by rw [HW.out, World.cell?_alloc_lt _ _ _ hbn']; exact a1') d os
              have h4' : befR (N j) (B j) (N k) (B k) = q4 := by rw [← h4, hj]; simp [hk0]
              have CB := Lib.hid (fun d os => (Calls.regrown_of (by rw [← h4']; exact before_any (N j) (N k) (B j) (B k) _) : Calls Try.prog 34 #[.agg #[.string (N j), .int .i64 (B j)], .agg #[.string (N k), .int .i64 (B k)]] (grow (redrawn W1 d) os) fun e w'' => e = .returned (.bool q4) ∧ ∃ p : Regrown, w'' = grow (redrawn W1 p.d) p.os))
              have hj0 : (0 : Int) ≤ (j : Int) := Int.natCast_nonneg _
              have hj1 : (j : Int) < (n : Int) := by omega
              have hj2 : (0 : Int) < (k : Int) := by omega
              have hj4 : 0 < k := by omega
              have hj3 : IntKind.i64.wrap ((k : Int) - 1) = (j : Int) := by rw [show (k : Int) - 1 = j by omega]; exact IntWalk.i64_in _ (by omega)
              clear h4 h4' a0' a1' hbn' hp' hk0 hj
              cases q4 with
              | false =>
                refine wp_region_quiet_below (by kernel_rfl) (by kernel_rfl) ?_
                repeat (first | go_big_quiet_step (first | (with_reducible exact CV.out _ _) | (with_reducible exact CB.out _ _)) | quiet_step (first | (with_reducible exact CV.out _ _) | (with_reducible exact CB.out _ _)))
                refine wpQuiet_nil ?_
                intro _ hw'
                obtain ⟨⟨dq, osq⟩, hw''⟩ := hw'
                subst hw''
                go_wp2
                go_ret
                exact ⟨by rw [show inputsR N B n = false from allTo_no _ k (by rw [HQ.out]; rfl) n hlt]; rfl, H1.out dq osq⟩
              | true =>
                refine wp_region_quiet_below (by kernel_rfl) (by kernel_rfl) ?_
                repeat (first | go_big_quiet_step (first | (with_reducible exact CV.out _ _) | (with_reducible exact CB.out _ _)) | quiet_step (first | (with_reducible exact CV.out _ _) | (with_reducible exact CB.out _ _)))
                refine wpQuiet_nil ?_
                intro _ hw'
                obtain ⟨⟨dq, osq⟩, hw''⟩ := hw'
                subst hw''
                go_wp2
                go_roundw
                case rel => exact ⟨k + 1, by first | rfl | (rw [wrap64_small _ (by omega) (by omega)]; rfl), by omega, by rw [show inputsR N B (k + 1) = (inputsR N B k && inOk N B k) from rfl, HL.out, HQ.out]; rfl, H1.out dq osq⟩
                case measure => (try rw [wrap64_small _ (by omega) (by omega)]); simp only [intOf]; omega
    · obtain rfl : k = n := by omega
      go_wp2
      go_ret
      exact ⟨by rw [HL.out]; rfl, HB.out⟩
end Go.Proofs.Ytmbogdimjbhbmaa
