/- Contracts of package format's span, checkKind, isNumber. -/
import Derived.Test.YtjbapjgagiaefaaFmtNeed
import Derived.Test.YtjbapjgagiaefaaFmtMath
import Derived.Deep.QuietTactic
import Derived.BigQuiet
namespace Go.Proofs.Ytjbapjgagiaefaa
open Go.RowKit Go.Instr
set_option linter.unusedVariables false
set_option linter.unusedSimpArgs false
set_option maxRecDepth 100000
set_option maxHeartbeats 1000000

theorem belDrewN (B : Nat) (w : World) (n : Nat) : Below B w (w.drewN n) := ⟨rfl, rfl, rfl, Nat.le_refl _, fun _ _ => rfl⟩
theorem quiet_eq {P : Program} {f : FuncId} {args : Array Value} {w : World} {n : Nat} {v : Value}
    (h : Calls P f args (w.drewN n) fun e w' => e = .returned v ∧ w.drewN n = w') : Calls P f args (w.drewN n) fun e w'' => e = .returned v ∧ ∃ m, w'' = w.drewN m :=
  h.mono fun _ _ ⟨he, hm⟩ => ⟨he, n, hm.symm⟩
theorem thenBel {a b c : World} (h : Below a.heap.size a b) (k : Below b.heap.size b c) : Below a.heap.size a c := h.trans (k.mono h.size)
/-- Why there are no fields of this kind, width and scale. -/
def chkK (k w s : Int) : Int := needR 2 [sgK k || k == 3, inB w 1 32, inB s 0 3]
theorem checkKind_any (k w s : Int) (wo : World) :
    Calls Try.prog 29 #[.int .u8 k, .int .i64 w, .int .i64 s] wo fun e w' => e = .returned (.int .i64 (chkK k w s)) ∧ Below wo.heap.size wo w' := by
  have HR := Lib.hid (show chkK k w s = needR 2 [sgK k || k == 3, inB w 1 32, inB s 0 3] from rfl)
  have HS := Lib.hid (fun W => isSigned_any k W)
  have H1 := Lib.hid (fun W => isIn_any w 1 32 W)
  have H2 := Lib.hid (fun W => isIn_any s 0 3 W)
  generalize inB w 1 32 = q1 at *
  generalize inB s 0 3 = q2 at *
  generalize sgK k = g at *
  cases g
  all_goals
    go_enter Try.func29, Try.ntmps29
    go_wp2_with (first
      | (go_at_call 35; (with_reducible refine (HS.out _).mono ?_); rintro e w' ⟨rfl, rfl⟩)
      | (go_at_call 37; (with_reducible refine (H1.out _).mono ?_); rintro e w' ⟨rfl, rfl⟩)
      | (go_at_call 37; (with_reducible refine (H2.out _).mono ?_); rintro e w' ⟨rfl, rfl⟩)
      | (go_at_call 31; (with_reducible refine (need3 2 _ _ _ _).mono ?_); rintro e w' ⟨rfl, rfl⟩))
    go_ret
    refine ⟨by rw [HR.out]; rfl, ?_⟩
    go_grown

theorem span_any (k : Int) (w : Nat) (wo : World) (h1 : 1 ≤ w) (h2 : w ≤ 32) :
    Calls Try.prog 30 #[.int .u8 k, .int .i64 w] wo fun e w' => e = .returned (.tuple #[.int .i64 (lowN (sgK k) w), .int .i64 (highN (sgK k) w)]) ∧ Below wo.heap.size wo w' := by
  have HS := Lib.hid (fun W => isSigned_any k W)
  have A1 := Lib.hid (span_lo w h1 h2)
  have A2 := Lib.hid (span_hi w h1 h2)
  have A3 := Lib.hid (span_hiU w h2)
  generalize sgK k = g at *
  have e1 : ((w : Int) - 1).toNat = w - 1 := by omega
  cases g
  · go_enter Try.func30, Try.ntmps30
    go_wp2_with (go_at_call 35; (with_reducible refine (HS.out _).mono ?_); rintro e w' ⟨rfl, rfl⟩)
    go_quiet (fail)
    go_wp2
    go_ret2
    exact ⟨by rw [A3.out]; rfl, belDrewN _ _ _⟩
  · go_enter Try.func30, Try.ntmps30
    go_wp2_with (go_at_call 35; (with_reducible refine (HS.out _).mono ?_); rintro e w' ⟨rfl, rfl⟩)
    go_quiet (fail)
    go_wp2
    go_ret2
    exact ⟨by simp only [A1.out, A2.out]; rfl, belDrewN _ _ _⟩

theorem isNumber_any (k n : Int) (w s : Nat) (wo : World) (h1 : 1 ≤ w) (h2 : w ≤ 32) (h3 : s ≤ 3) (hn : -9223372036854775808 ≤ n ∧ n ≤ 9223372036854775807) :
    Calls Try.prog 32 #[.int .u8 k, .int .i64 w, .int .i64 s, .int .i64 n] wo fun e w' => e = .returned (.bool (numB (sgK k) w s n)) ∧ Below wo.heap.size wo w' := by
  have HS := Lib.hid (fun W => span_any k w W h1 h2)
  have HK := Lib.hid (back_small s n h3 hn.1 hn.2)
  have HI := Lib.hid (fun a b W => isIn_any (n / 2 ^ s) a b W)
  have HR := Lib.hid (show numB (sgK k) w s n = (decide (n / 2 ^ s * 2 ^ s = n) && inB (n / 2 ^ s) (lowN (sgK k) w) (highN (sgK k) w)) from rfl)
  generalize sgK k = g at *
  generalize lowN g w = lo at *
  generalize highN g w = hi at *
  have hq : (wrap64 (n / 2 ^ s * 2 ^ s) == n) = decide (n / 2 ^ s * 2 ^ s = n) := by
    rw [HK.out]
    by_cases e : n / 2 ^ s * 2 ^ s = n <;> simp [e]
  generalize decide (n / 2 ^ s * 2 ^ s = n) = q at *
  clear HK hn
  cases q
  all_goals
    go_enter Try.func32, Try.ntmps32
    go_wp2_with (first
      | (go_at_call 30; (with_reducible refine (HS.out _).mono ?_); rintro e w' ⟨rfl, hb⟩)
      | (go_at_call 37; (with_reducible refine (HI.out _ _ _).mono ?_); rintro e w' ⟨rfl, rfl⟩))
    go_ret
    exact ⟨by rw [HR.out]; rfl, hb⟩

/-- What Range, Field, Number, Fit give. -/
def rangeR (k : Int) (w s : Int) : Int × Int × Int := if chkK k w s = 0 then (lowN (sgK k) w.toNat * 2 ^ s.toNat, highN (sgK k) w.toNat * 2 ^ s.toNat, 0) else (0, 0, chkK k w s)
def fieldR (k : Int) (w s n : Int) : Nat × Int := if chkK k w s = 0 then (if numB (sgK k) w.toNat s.toNat n = true then (((n / 2 ^ s.toNat) % 2 ^ w.toNat).toNat, 0) else (0, 24)) else (0, chkK k w s)
theorem chkK_ok {k w s : Int} (h : chkK k w s = 0) : (1 ≤ w ∧ w ≤ 32) ∧ 0 ≤ s ∧ s ≤ 3 ∧ (sgK k = true ∨ k = 3) := by
  unfold chkK needR inB at h
  split at h
  · rename_i h'
    simp at h'
    obtain ⟨h1, h2, h3⟩ := h'
    exact ⟨h2, h3.1, h3.2, h1⟩
  · cases h
theorem chkK_two {k w s : Int} (h : ¬ chkK k w s = 0) : chkK k w s = 2 := by
  unfold chkK needR at *
  split at h
  · exact absurd rfl h
  · rename_i h'; rw [if_neg h']
theorem range_any (k w s : Int) (wo : World) :
    Calls Try.prog 12 #[.int .u8 k, .int .i64 w, .int .i64 s] wo fun e w' => e = .returned (.tuple #[.int .i64 (rangeR k w s).1, .int .i64 (rangeR k w s).2.1, .int .i64 (rangeR k w s).2.2]) ∧ Below wo.heap.size wo w' := by
  have HC := Lib.hid (fun W => checkKind_any k w s W)
  by_cases hk : chkK k w s = 0
  · have hr : rangeR k w s = (lowN (sgK k) w.toNat * 2 ^ s.toNat, highN (sgK k) w.toNat * 2 ^ s.toNat, 0) := by unfold rangeR; rw [if_pos hk]
    obtain ⟨⟨h1, h2⟩, h3, h4, _⟩ := chkK_ok hk
    rw [hk] at HC
    obtain ⟨m, rfl⟩ : ∃ m : Nat, w = m := ⟨w.toNat, by omega⟩
    obtain ⟨t, rfl⟩ : ∃ t : Nat, s = t := ⟨s.toNat, by omega⟩
    simp only [Int.toNat_natCast] at hr
    have b1 := low_bd (sgK k) m (by omega) (by omega)
    have b2 := high_bd (sgK k) m (by omega) (by omega)
    have A1 : Hid (wrap64 (lowN (sgK k) m * 2 ^ t) = lowN (sgK k) m * 2 ^ t) := Lib.hid (by apply wrap64_small <;> rcases pow3 t (by omega) with h | h | h | h <;> rw [h] <;> omega)
    have A2 : Hid (wrap64 (highN (sgK k) m * 2 ^ t) = highN (sgK k) m * 2 ^ t) := Lib.hid (by apply wrap64_small <;> rcases pow3 t (by omega) with h | h | h | h <;> rw [h] <;> omega)
    have HS := Lib.hid (fun W => span_any k m W (by omega) (by omega))
    rw [hr]
    clear hr hk b1 b2
    generalize lowN (sgK k) m = lo at *
    generalize highN (sgK k) m = hi at *
    go_enter Try.func12, Try.ntmps12
    go_wp2_with (first
      | (go_at_call 29; (with_reducible refine (HC.out _).mono ?_); rintro e w' ⟨rfl, hb⟩)
      | (go_at_call 30; (with_reducible refine (HS.out _).mono ?_); rintro e w' ⟨rfl, hb2⟩))
    go_quiet (fail)
    go_wp2
    refine bodyPost_ret (v := .tuple #[.int .i64 (wrap64 (lo * 2 ^ t)), .int .i64 (wrap64 (hi * 2 ^ t)), .int .i64 0]) (by simp [results, Try.results12, go_sem]) rfl ⟨by rw [A1.out, A2.out], ?_⟩
    exact (thenBel hb hb2).trans (belDrewN _ _ _)
  · have hr : rangeR k w s = (0, 0, 2) := by unfold rangeR; rw [if_neg hk, chkK_two hk]
    have h2 := chkK_two hk
    rw [h2] at HC
    rw [hr]
    clear hr hk h2
    go_enter Try.func12, Try.ntmps12
    go_wp2_with (go_at_call 29; (with_reducible refine (HC.out _).mono ?_); rintro e w' ⟨rfl, hb⟩)
    refine bodyPost_ret (v := .tuple #[.int .i64 0, .int .i64 0, .int .i64 2]) (by simp [results, Try.results12, go_sem]) rfl ⟨rfl, hb⟩
end Go.Proofs.Ytjbapjgagiaefaa
