/- Contracts of package format's Field, Number, Fit. -/
import Derived.Test.YtjbapjgagiaefaaFmtSpan
import Derived.Lib.QuietBelow
import Derived.Laws.CopyOwn
import Derived.Laws.Tables
namespace Go.Proofs.Ytjbapjgagiaefaa
open Go.RowKit Go.Instr Go.Sort
set_option linter.unusedVariables false
set_option linter.unusedSimpArgs false
set_option maxRecDepth 100000
set_option maxHeartbeats 1000000

theorem and_mask (r n : Nat) (hr : r < 18446744073709551616) (h1 : n ≤ 64) : bits .and .u64 (r : Int) ((mk n : Nat) : Int) = ((r % 2 ^ n : Nat) : Int) := by
  rw [bits_and_u64_nat r (mk n) hr (mk_lt n h1)]
  unfold mk
  rw [Nat.and_two_pow_sub_one_eq_mod]

theorem of_mask (n : Nat) (z : Int) (h1 : n ≤ 64) : bits .and .u64 (IntKind.u64.wrap z) ((mk n : Nat) : Int) = ((z % 2 ^ n).toNat : Int) := by
  have h2 := Int.emod_nonneg z (show (18446744073709551616 : Int) ≠ 0 by decide)
  have h3 := Int.emod_lt_of_pos z (show (0 : Int) < 18446744073709551616 by decide)
  obtain ⟨r, hr⟩ : ∃ r : Nat, z % 18446744073709551616 = r := ⟨(z % 18446744073709551616).toNat, by omega⟩
  rw [IntKind.wrap_u64, hr, and_mask r n (by omega) h1]
  congr 1
  have hs := pow_split n h1
  have e : z % 2 ^ n = ((r % 2 ^ n : Nat) : Int) := by
    rw [Int.natCast_emod, ← hr, Int.natCast_pow]
    have hd : ((2 : Int) ^ n) ∣ 18446744073709551616 := ⟨((2 ^ (64 - n) : Nat) : Int), by
      have : ((2 ^ n * 2 ^ (64 - n) : Nat) : Int) = ((18446744073709551616 : Nat) : Int) := by rw [hs]
      rw [Int.natCast_mul, Int.natCast_pow] at this
      exact this.symm⟩
    exact (Int.emod_emod_of_dvd z hd).symm
  rw [e]
  omega

/-- What Signed gives. -/
def sgR (n : Int) (x : Nat) : Int × Int :=
  if n < 1 ∨ 64 < n then (0, 14) else if chk1 n.toNat x = 8 then (0, 8) else (sg n.toNat x, 0)
theorem chk1_or (n a : Nat) : chk1 n a = 8 ∨ (a < 2 ^ n ∧ chk1 n a = 0) := by
  unfold chk1
  by_cases h : okB n a = true
  · exact Or.inr ⟨(okB_iff _ _).1 h, if_pos h⟩
  · exact Or.inl (if_neg h)

theorem signedP_any (n : Int) (x : Nat) (w : World) :
    Calls Try.prog 36 #[.int .i64 n, .int .u64 x] w fun e w' => e = .returned (.tuple #[.int .i64 (sgR n x).1, .int .i64 (sgR n x).2]) ∧ Below w.heap.size w w' := by
  by_cases h : n < 1 ∨ 64 < n
  · rw [show sgR n x = (0, 14) by unfold sgR; rw [if_pos h]]
    have H := Lib.hid h
    clear h
    go_enter Try.func36, Try.ntmps36
    go_wp2_with (go_at_call 53; refine (check_bad _ _ _ _ H.out).mono ?_; rintro e w' ⟨rfl, rfl⟩)
    go_ret2
    refine ⟨rfl, ?_⟩
    go_grown
  · obtain ⟨m, rfl⟩ : ∃ m : Nat, n = m := ⟨n.toNat, by omega⟩
    have h0 : 1 ≤ m := by omega
    have h1 : m ≤ 64 := by omega
    have c0 : (w.alloc (.cells #[.int .u64 x] 25)).cell? ⟨w.heap.size, 0, none⟩ = some (.int .u64 x) := by go_simp
    have HK := Lib.hid (check1 m x _ _ h0 h1 c0)
    rcases chk1_or m x with hx | ⟨hx, hx'⟩
    · rw [show sgR m x = (0, 8) by unfold sgR; rw [if_neg h, Int.toNat_natCast, if_pos hx]]
      rw [hx] at HK
      clear hx h c0
      go_enter Try.func36, Try.ntmps36
      go_wp2_with (go_at_call 53; refine HK.out.mono ?_; rintro e w' ⟨rfl, rfl⟩)
      go_ret2
      refine ⟨rfl, ?_⟩
      go_grown
    · rw [show sgR m x = (sg m x, 0) by unfold sgR; rw [if_neg h, Int.toNat_natCast, if_neg (by rw [hx']; decide)]]
      rw [hx'] at HK
      have HX := Lib.hid hx
      clear hx h hx' c0
      go_enter Try.func36, Try.ntmps36
      go_wp2_with (first
        | (go_at_call 53; refine HK.out.mono ?_; rintro e w' ⟨rfl, rfl⟩)
        | (go_at_call 54; refine (signed_any m x _ h0 h1 HX.out).mono ?_; rintro e w' ⟨rfl, rfl⟩))
      go_ret2
      refine ⟨rfl, ?_⟩
      go_grown


theorem field_any (k w s n : Int) (wo : World) (hn : -9223372036854775808 ≤ n ∧ n ≤ 9223372036854775807) :
    Calls Try.prog 13 #[.int .u8 k, .int .i64 w, .int .i64 s, .int .i64 n] wo fun e w' => e = .returned (.tuple #[.int .u64 ((fieldR k w s n).1 : Nat), .int .i64 (fieldR k w s n).2]) ∧ Below wo.heap.size wo w' := by
  have HC := Lib.hid (fun W => checkKind_any k w s W)
  by_cases hk : chkK k w s = 0
  · have hr : fieldR k w s n = (if numB (sgK k) w.toNat s.toNat n = true then (((n / 2 ^ s.toNat) % 2 ^ w.toNat).toNat, 0) else (0, 24)) := by unfold fieldR; rw [if_pos hk]
    obtain ⟨⟨h1, h2⟩, h3, h4, _⟩ := chkK_ok hk
    rw [hk] at HC
    obtain ⟨m, rfl⟩ : ∃ m : Nat, w = m := ⟨w.toNat, by omega⟩
    obtain ⟨t, rfl⟩ : ∃ t : Nat, s = t := ⟨s.toNat, by omega⟩
    simp only [Int.toNat_natCast] at hr
    have HS := Lib.hid (fun W => isNumber_any k n m t W (by omega) (by omega) (by omega) hn)
    have HM := Lib.hid (fun W => mask_yes m W (by omega) (by omega))
    have HA := Lib.hid (of_mask m (n / 2 ^ t) (by omega))
    have HX : Hid (wrap64 (n / 2 ^ t) = n / 2 ^ t) := Lib.hid (by apply wrap64_small <;> rcases pow3 t (by omega) with h | h | h | h <;> rw [h] <;> omega)
    rw [hr]
    clear hr hk hn
    generalize numB (sgK k) m t n = q at *
    cases q
    · rw [if_neg (by decide)]
      go_enter Try.func13, Try.ntmps13
      go_wp2_with (first
        | (go_at_call 29; (with_reducible refine (HC.out _).mono ?_); rintro e w' ⟨rfl, hb⟩)
        | (go_at_call 32; (with_reducible refine (HS.out _).mono ?_); rintro e w2 ⟨rfl, hb2⟩)
        | (go_at_call 31; (with_reducible refine (need1 24 _ _).mono ?_); rintro e w' ⟨rfl, rfl⟩))
      go_ret2
      refine ⟨rfl, ?_⟩
      exact (thenBel hb hb2).alloc (by have := hb.size; have := hb2.size; omega) _
    · rw [if_pos rfl]
      go_enter Try.func13, Try.ntmps13
      go_wp2_with (first
        | (go_at_call 29; (with_reducible refine (HC.out _).mono ?_); rintro e w' ⟨rfl, hb⟩)
        | (go_at_call 32; (with_reducible refine (HS.out _).mono ?_); rintro e w2 ⟨rfl, hb2⟩)
        | (go_at_call 31; (with_reducible refine (need1 24 _ _).mono ?_); rintro e w' ⟨rfl, rfl⟩))
      go_quiet ((go_at_call 33; exact quiet_eq (HM.out _)))
      go_wp2
      refine bodyPost_ret (v := .tuple #[.int .u64 (bits .and .u64 (IntKind.u64.wrap (n / 2 ^ t)) ((mk m : Nat) : Int)), .int .i64 0]) (by simp [results, Try.results13, go_sem]) rfl ⟨by rw [HA.out], ?_⟩
      exact ((thenBel hb hb2).alloc (by have := hb.size; have := hb2.size; omega) _).trans (belDrewN _ _ _)
  · have hr : fieldR k w s n = (0, 2) := by unfold fieldR; rw [if_neg hk, chkK_two hk]
    have h2 := chkK_two hk
    rw [h2] at HC
    rw [hr]
    clear hr hk h2
    go_enter Try.func13, Try.ntmps13
    go_wp2_with (go_at_call 29; (with_reducible refine (HC.out _).mono ?_); rintro e w' ⟨rfl, hb⟩)
    go_ret2
    exact ⟨rfl, hb⟩

/-- What Number gives. -/
def numberR (k : Int) (w s : Int) (x : Nat) : Int × Int := if chkK k w s = 0 then (if okB w.toNat x = true then ((if sgK k = true then sg w.toNat x else x) * 2 ^ s.toNat, 0) else (0, 24)) else (0, chkK k w s)
theorem sg_bd (w x : Nat) (h1 : 1 ≤ w) (h2 : w ≤ 32) (hx : x < 2 ^ w) : -4294967296 ≤ sg w x ∧ sg w x ≤ 4294967296 := by
  have := pow32 w h2
  have h3 : ((x : Nat) : Int) < 2 ^ w := by have := Int.ofNat_lt.2 hx; simpa using this
  unfold sg; split <;> omega
theorem number_any (k w s : Int) (x : Nat) (wo : World) :
    Calls Try.prog 14 #[.int .u8 k, .int .i64 w, .int .i64 s, .int .u64 x] wo fun e w' => e = .returned (.tuple #[.int .i64 (numberR k w s x).1, .int .i64 (numberR k w s x).2]) ∧ Below wo.heap.size wo w' := by
  have HC := Lib.hid (fun W => checkKind_any k w s W)
  by_cases hk : chkK k w s = 0
  · have hr : numberR k w s x = (if okB w.toNat x = true then ((if sgK k = true then sg w.toNat x else x) * 2 ^ s.toNat, 0) else (0, 24)) := by unfold numberR; rw [if_pos hk]
    obtain ⟨⟨h1, h2⟩, h3, h4, _⟩ := chkK_ok hk
    rw [hk] at HC
    obtain ⟨m, rfl⟩ : ∃ m : Nat, w = m := ⟨w.toNat, by omega⟩
    obtain ⟨t, rfl⟩ : ∃ t : Nat, s = t := ⟨s.toNat, by omega⟩
    simp only [Int.toNat_natCast] at hr
    have HM := Lib.hid (fun W => ok_any m x W (by omega) (by omega))
    have HG := Lib.hid (fun W => isSigned_any k W)
    have HV := Lib.hid (fun W => signedP_any m x W)
    by_cases hq : okB m x = true
    · have hx := (okB_iff m x).1 hq
      have hx2 : ((x : Nat) : Int) < 2 ^ m := by have := Int.ofNat_lt.2 hx; simpa using this
      have hp := pow32 m (by omega)
      have hsr : sgR m x = (sg m x, 0) := by
        unfold sgR
        rw [if_neg (by omega), Int.toNat_natCast, if_neg]
        rcases chk1_or m x with h | h
        · unfold chk1 at h; rw [hq] at h; simp at h
        · rw [h.2]; decide
      have hs := sg_bd m x (by omega) (by omega) hx
      rw [hsr] at HV
      rw [hq] at HM
      rw [hr, if_pos hq]
      have HX : Hid (wrap64 ((x : Nat) : Int) = (x : Nat)) := Lib.hid (wrap64_small _ (by omega) (by omega))
      have HW1 : Hid (wrap64 (sg m x * 2 ^ t) = sg m x * 2 ^ t) := Lib.hid (by apply wrap64_small <;> rcases pow3 t (by omega) with h | h | h | h <;> rw [h] <;> omega)
      have HW2 : Hid (wrap64 ((x : Nat) * 2 ^ t : Int) = (x : Nat) * 2 ^ t) := Lib.hid (by apply wrap64_small <;> rcases pow3 t (by omega) with h | h | h | h <;> rw [h] <;> omega)
      clear hr hk hq hx hx2 hp hsr hs
      generalize sg m x = g at *
      generalize sgK k = q at *
      have hxx := HX.out
      obtain ⟨y, hy⟩ : ∃ y : Int, y = x := ⟨_, rfl⟩
      cases q
      all_goals
        go_enter Try.func14, Try.ntmps14
        go_wp2_with (first
          | (go_at_call 29; (with_reducible refine (HC.out _).mono ?_); rintro e w' ⟨rfl, hb⟩)
          | (go_at_call 34; (with_reducible refine (HM.out _).mono ?_); rintro e w' ⟨rfl, rfl⟩)
          | (go_at_call 35; (with_reducible refine (HG.out _).mono ?_); rintro e w' ⟨rfl, rfl⟩)
          | (go_at_call 36; (with_reducible refine (HV.out _).mono ?_); rintro e w2 ⟨rfl, hb2⟩)
          | (go_at_call 31; (with_reducible refine (need1 24 _ _).mono ?_); rintro e w' ⟨rfl, rfl⟩))
        first
          | (go_ret2; exact ⟨by simp only [HW1.out, HW2.out]; rfl, by first | exact thenBel (hb.alloc hb.size _) hb2 | exact hb.alloc hb.size _⟩)
          | (trace_state; fail)
    · rw [hr, if_neg hq]
      have hq' : okB m x = false := by simpa using hq
      rw [hq'] at HM
      clear hr hk hq hq'
      go_enter Try.func14, Try.ntmps14
      go_wp2_with (first
        | (go_at_call 29; (with_reducible refine (HC.out _).mono ?_); rintro e w' ⟨rfl, hb⟩)
        | (go_at_call 34; (with_reducible refine (HM.out _).mono ?_); rintro e w' ⟨rfl, rfl⟩)
        | (go_at_call 31; (with_reducible refine (need1 24 _ _).mono ?_); rintro e w' ⟨rfl, rfl⟩))
      go_ret2
      exact ⟨rfl, hb.alloc hb.size _⟩
  · have hr : numberR k w s x = (0, 2) := by unfold numberR; rw [if_neg hk, chkK_two hk]
    have h2 := chkK_two hk
    rw [h2] at HC
    rw [hr]
    clear hr hk h2
    go_enter Try.func14, Try.ntmps14
    go_wp2_with (go_at_call 29; (with_reducible refine (HC.out _).mono ?_); rintro e w' ⟨rfl, hb⟩)
    go_ret2
    exact ⟨rfl, hb⟩
end Go.Proofs.Ytjbapjgagiaefaa
