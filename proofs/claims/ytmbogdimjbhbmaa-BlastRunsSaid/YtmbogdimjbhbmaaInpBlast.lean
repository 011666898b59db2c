/- Contract of Inputs of package blast. -/
import Derived.Test.YtmbogdimjbhbmaaInpMath
import Derived.Deep.RegionHeld3
namespace Go.Proofs.Ytmbogdimjbhbmaa
open Go.RowKit Go.Sort
set_option linter.unusedVariables false
set_option linter.unusedSimpArgs false

theorem and_bit (x β : Nat) (hx : x < 18446744073709551616) : (bits BinOp.and IntKind.u64 ((x : Int) / 2 ^ β) 1 == 1) = decide (x / 2 ^ β % 2 = 1) := by
  have e : ((x : Int) / 2 ^ β) = ((x / 2 ^ β : Nat) : Int) := by rw [Int.natCast_ediv]; simp
  have hle : x / 2 ^ β ≤ x := Nat.div_le_self _ _
  rw [e]
  generalize x / 2 ^ β = y at hle
  have h1 : (BitVec.ofInt 64 1).toNat = 2 ^ 1 - 1 := by decide
  have key : (BitVec.ofInt 64 (y : Int) &&& BitVec.ofInt 64 1).toNat = y % 2 := by
    rw [BitVec.toNat_and, BitVec.toNat_ofInt, h1, Nat.and_two_pow_sub_one_eq_mod]
    omega
  have h2 : bits BinOp.and IntKind.u64 (y : Int) 1 = ((y % 2 : Nat) : Int) := by
    show IntKind.u64.wrap ((BitVec.ofInt 64 (y : Int) &&& BitVec.ofInt 64 1).toNat : Nat) = _
    rw [key, IntKind.wrap_u64]
    omega
  rw [h2, Bool.eq_iff_iff]
  simp only [beq_iff_eq, decide_eq_true_eq]
  omega

set_option maxRecDepth 100000 in
set_option maxHeartbeats 4000000 in
theorem inputs_any (pi pg po pv : Option Addr) (ni ng no n ci cg co cv : Nat) (M : Nat → ByteArray) (B P Q O : Nat → Int) (N : Nat → ByteArray) (D : Nat → Int) (X : Nat → Nat) (w : World) (hc : CirAt w pi pg po ni ng no M B P Q O) (hv : EnvAt w pv n N D X) (hn : n ≤ 1100) (hN : ∀ i, i < n → (N i).size ≤ 200) (hXX : ∀ i, i < n → X i < 18446744073709551616) (L : List Bool) (err : Nat)
    (hL : InpIs M B P Q O ni ng no N D X n L err) :
    Calls Try.prog 9 #[.agg #[.slice pi ni ci, .slice pg ng cg, .slice po no co], .slice pv n cv] w (Ran L err w) := by
  have hni := hc.hi
  have hng := hc.hg
  have hno := hc.ho
  have HC := Lib.hid hc
  have HVS := Lib.hid hv
  have HXX := Lib.hid hXX
  clear hc hv hXX
  obtain ⟨W1, hW1⟩ : ∃ W1, W1 = w.alloc (.cells #[.slice pi ni ci, .slice pg ng cg, .slice po no co] 26) := ⟨_, rfl⟩
  have hb1 : Below w.heap.size w W1 := by rw [hW1]; exact (Below.refl _ _).alloc (Nat.le_refl _) _
  have c0 : W1.cell? ⟨w.heap.size, 0, none⟩ = some (.slice pi ni ci) := by rw [hW1]; go_simp
  have c1 : W1.cell? ⟨w.heap.size, 1, none⟩ = some (.slice pg ng cg) := by rw [hW1]; go_simp
  have c2 : W1.cell? ⟨w.heap.size, 2, none⟩ = some (.slice po no co) := by rw [hW1]; go_simp
  have hsz : w.heap.size < W1.heap.size := by rw [hW1]; simp
  have HB := Lib.hid hb1
  have HX := Lib.hid (fun (wr : World) (h : Below W1.heap.size W1 wr) => (⟨by rw [h.cell hsz]; exact c0, by rw [h.cell hsz]; exact c1, by rw [h.cell hsz]; exact c2⟩ : wr.cell? ⟨w.heap.size, 0, none⟩ = some (.slice pi ni ci) ∧ wr.cell? ⟨w.heap.size, 1, none⟩ = some (.slice pg ng cg) ∧ wr.cell? ⟨w.heap.size, 2, none⟩ = some (.slice po no co)))
  have HV1 := Lib.hid (check_any pi pg po ni ng no ci cg co M B P Q O W1 (HC.out.below hb1))
  have HB0 := Lib.hid (fun (wr : World) (h : Below W1.heap.size W1 wr) => hb1.trans (h.mono hb1.size))
  have HE := Lib.hid (fun (wr : World) (h : Below W1.heap.size W1 wr) => checkBound_any pv n cv N D X wr hn (HVS.out.below (hb1.trans (h.mono hb1.size))) hN)
  have HW := Lib.hid hW1
  clear hb1 hsz hN
  rw [hW1] at c0 HV1
  clear c1 c2 hW1
  rcases hL with ⟨h1, rfl, rfl⟩ | ⟨h1, h2, rfl, rfl⟩ | ⟨h1, h2, kf, hkf, hok, hend⟩
  · obtain ⟨r, hr⟩ : ∃ r, chkR M B P Q O ni ng no = r := ⟨_, rfl⟩
    have hr2 := chk_cases (N := M) (B := B) (P := P) (Q := Q) (O := O) (ni := ni) (ng := ng) (no := no)
    rw [hr] at h1 hr2 HV1 ⊢
    clear hr
    have hr3 : r = 4 ∨ r = 8 := by omega
    clear h1 hr2
    rcases hr3 with rfl | rfl
    all_goals
      go_enter Try.func9, Try.ntmps9
      go_wp2_with (go_at_call 11; (with_reducible refine HV1.out.mono ?_); rintro e w2 ⟨rfl, hb2⟩; rw [← HW.out] at hb2; obtain ⟨e0, e1, e2⟩ := HX.out w2 hb2; have HB2 := Lib.hid hb2; clear hb2)
      go_ret2
      exact Ran.none (HB0.out _ HB2.out)
  · rw [h1] at HV1
    rw [(envR_cases N D X n).resolve_left h2] at HE
    clear h2
    go_enter Try.func9, Try.ntmps9
    go_wp2_with (first
      | (go_at_call 11; (with_reducible refine HV1.out.mono ?_); rintro e w2 ⟨rfl, hb2⟩; rw [← HW.out] at hb2; obtain ⟨e0, e1, e2⟩ := HX.out w2 hb2; have HB2 := Lib.hid hb2; clear hb2)
      | (go_at_call 20; (with_reducible refine (HE.out _ HB2.out).mono ?_); rintro e w3 ⟨rfl, hb3⟩; have HB3 := Lib.hid (HB2.out.trans (hb3.mono HB2.out.size)); clear hb3))
    go_ret2
    exact Ran.none (HB0.out _ HB3.out)
  · rw [h1] at HV1
    rw [h2] at HE
    obtain ⟨hn2, hall⟩ := envR_zero h2
    have HI := Lib.hid (chk_valid h1).2.1
    have HA := Lib.hid hall
    have HOK := Lib.hid hok
    have HEND := Lib.hid hend
    clear h1 h2 hall hok hend
    obtain ⟨i0, hi, hz0, hz1, hz2⟩ := info_parts bool_info
    go_enter Try.func9, Try.ntmps9
    go_wp2_with (first
      | (go_at_call 11; (with_reducible refine HV1.out.mono ?_); rintro e w2 ⟨rfl, hb2⟩; rw [← HW.out] at hb2; obtain ⟨e0, e1, e2⟩ := HX.out w2 hb2; have HB2 := Lib.hid hb2; clear hb2)
      | (go_at_call 20; (with_reducible refine (HE.out _ HB2.out).mono ?_); rintro e w3 ⟨rfl, hb3⟩; have HB3 := Lib.hid (HB2.out.trans (hb3.mono HB2.out.size)); clear hb3; clear e0 e1 e2; obtain ⟨e0, e1, e2⟩ := HX.out w3 HB3.out))
    clear e0 e1 e2 c0
    have hs3 := HB3.out.size
    go_loopw [7, 24] (fun vo vi wr => ∃ k : Nat, vi = .int .i64 k ∧ k ≤ kf ∧ RowB wr W1.heap.size vo (bitsR M B N X n k) ∧ Below W1.heap.size W1 wr) (fun _ vi _ => ni - (intOf vi).toNat)
    case atStart => exact ⟨0, rfl, by omega, World.ownsRow_nil _ _ _ _, HB3.out⟩
    case round =>
      obtain ⟨k, rfl, hk, hr, hb⟩ := hrel
      have HR := Lib.hid hr
      have HBJ := Lib.hid hb
      have hsJ := hb.size
      by_cases hlt : k < ni
      · obtain ⟨b, oi, hpi, hbn, a0, a1⟩ := (HC.out.ins.below (HB0.out _ hb)) k hlt
        subst hpi
        have hbit := in_bit HI.out hlt
        obtain ⟨β, hβ⟩ : ∃ β : Nat, B k = β := ⟨(B k).toNat, by omega⟩
        rw [hβ] at a1 hbit
        obtain ⟨W2, hW2⟩ : ∃ W2, W2 = wr.alloc (.cells #[.string (M k), .int .i64 (β : Int)] 45) := ⟨_, rfl⟩
        have hb2 : Below wr.heap.size wr W2 := by rw [hW2]; exact (Below.refl _ _).alloc (Nat.le_refl _) _
        have C0 : W2.cell? ⟨wr.heap.size, 0, none⟩ = some (.string (M k)) := by rw [hW2]; go_simp
        have C1 : W2.cell? ⟨wr.heap.size, 1, none⟩ = some (.int .i64 (β : Int)) := by rw [hW2]; go_simp
        have hsz2 : wr.heap.size < W2.heap.size := by rw [hW2]; simp
        have HC2 := Lib.hid (fun (W : World) (h : Below W2.heap.size W2 W) => (⟨by rw [h.cell hsz2]; exact C0, by rw [h.cell hsz2]; exact C1⟩ : W.cell? ⟨wr.heap.size, 0, none⟩ = some (.string (M k)) ∧ W.cell? ⟨wr.heap.size, 1, none⟩ = some (.int .i64 (β : Int))))
        have HB2W := Lib.hid hb2
        have HW2 := Lib.hid hW2
        have HEV := Lib.hid (HVS.out.below ((HB0.out _ hb).trans (hb2.mono (HB0.out _ hb).size)))
        rw [hW2] at C0
        clear hr hb hb2 hW2 C1
        rcases step_ways M B N D X n k HA.out with ⟨hnot, hst⟩ | ⟨e, he, hne, hidx, ⟨hd, hst⟩ | ⟨hd, hst⟩⟩
        · obtain ⟨rfl, rfl⟩ : L = [] ∧ err = 16 := by
            have hkk : ¬ k < kf := fun h => by rw [HOK.out k h] at hst; cases hst
            have e : k = kf := by omega
            subst e
            rcases HEND.out with ⟨_, h2, _, h4⟩ | ⟨h2, _⟩
            · exact ⟨h4, by rw [← h2, hst]⟩
            · omega
          have HS := Lib.hid (envFind_no pv n cv N D X (M k) W2 (by omega) HEV.out hnot)
          rw [HW2.out] at HS
          clear hst hnot
          go_wp2_with (go_at_call 21; (with_reducible refine HS.out.mono ?_); rintro e w7 ⟨⟨r, rfl⟩, hb7⟩; rw [← HW2.out] at hb7; have HB7 := Lib.hid hb7; clear hb7)
          go_ret2
          exact Ran.none ((HB0.out _ HBJ.out).trans ((HB2W.out.trans (HB7.out.mono HB2W.out.size)).mono (HB0.out _ HBJ.out).size))
        · obtain ⟨rfl, rfl⟩ : L = [] ∧ err = 2 := by
            have hkk : ¬ k < kf := fun h => by rw [HOK.out k h] at hst; cases hst
            have e : k = kf := by omega
            subst e
            rcases HEND.out with ⟨_, h2, _, h4⟩ | ⟨h2, _⟩
            · exact ⟨h4, by rw [← h2, hst]⟩
            · omega
          have HS := Lib.hid (by
            have h := envFind_yes pv n cv N D X W2 (by omega) HEV.out HA.out e he
            rw [hne] at h; exact h)
          rw [HW2.out] at HS
          clear hst hidx
          go_wp2_with (go_at_call 21; (with_reducible refine HS.out.mono ?_); rintro e w7 ⟨rfl, hb7⟩; rw [← HW2.out] at hb7; have HB7 := Lib.hid hb7; obtain ⟨f0, f1⟩ := HC2.out w7 hb7; clear hb7)
          obtain ⟨be, oe, hpe, hbe, x0, x1, x2⟩ := (HEV.out.below HB7.out) e he
          subst hpe
          have K0 := fun d os => cell_regrown f1 d os
          have K1 := fun d os => cell_regrown x1 d os
          have hj0 : (0 : Int) ≤ (e : Int) := Int.natCast_nonneg _
          have hj1 : (e : Int) < (n : Int) := by omega
          have d2 : decide (D e ≤ (β : Int)) = true := decide_eq_true (by rw [← hβ]; exact hd)
          clear x0 x2 f0
          refine wp_region_quiet_below (by kernel_rfl) (by kernel_rfl) ?_
          repeat (first | go_big_quiet_step (fail) | quiet_step (fail))
          refine wpQuiet_nil ?_
          intro _ hw'
          obtain ⟨⟨dq, osq⟩, hw''⟩ := hw'
          subst hw''
          have HB8 := Lib.hid (HB7.out.trans ((below_regrown w7 dq osq).mono HB7.out.size))
          generalize grow (redrawn w7 dq) osq = w8 at *
          clear K0 K1
          go_wp2
          go_ret2
          exact Ran.none ((HB0.out _ HBJ.out).trans ((HB2W.out.trans (HB8.out.mono HB2W.out.size)).mono (HB0.out _ HBJ.out).size))
        · have hkk : k < kf := by
            rcases Nat.lt_or_ge k kf with h | h
            · exact h
            · have e2 : k = kf := by omega
              subst e2
              rcases HEND.out with ⟨_, h2, h3, _⟩ | ⟨h2, _⟩
              · exact absurd (h2.symm.trans hst) h3
              · omega
          have HS := Lib.hid (by
            have h := envFind_yes pv n cv N D X W2 (by omega) HEV.out HA.out e he
            rw [hne] at h; exact h)
          rw [HW2.out] at HS
          have HNS := Lib.hid (show bitsR M B N X n (k + 1) = bitsR M B N X n k ++ [decide (X e / 2 ^ β % 2 = 1)] by rw [bitsR_succ]; unfold bitR; rw [hidx, hβ]; rfl)
          have HOL := Lib.hid (bitsR_length M B N X n k)
          rw [hβ] at hd
          clear hst hidx
          go_wp2_with (go_at_call 21; (with_reducible refine HS.out.mono ?_); rintro e w7 ⟨rfl, hb7⟩; rw [← HW2.out] at hb7; have HB7 := Lib.hid hb7; obtain ⟨f0, f1⟩ := HC2.out w7 hb7; clear hb7)
          obtain ⟨be, oe, hpe, hbe, x0, x1, x2⟩ := (HEV.out.below HB7.out) e he
          subst hpe
          have K0 := fun d os => cell_regrown f1 d os
          have K1 := fun d os => cell_regrown x1 d os
          have hj0 : (0 : Int) ≤ (e : Int) := Int.natCast_nonneg _
          have hj1 : (e : Int) < (n : Int) := by omega
          have d2 : decide (D e ≤ (β : Int)) = false := decide_eq_false (by omega)
          have HBE := Lib.hid (And.intro hbe x2)
          clear x0 x2 f0
          refine wp_region_quiet_below (by kernel_rfl) (by kernel_rfl) ?_
          repeat (first | go_big_quiet_step (fail) | quiet_step (fail))
          refine wpQuiet_nil ?_
          intro _ hw'
          obtain ⟨⟨dq, osq⟩, hw''⟩ := hw'
          subst hw''
          have HB8 := Lib.hid (HB7.out.trans ((below_regrown w7 dq osq).mono HB7.out.size))
          have y1 := (HC2.out _ HB8.out).2
          have y2 : (grow (redrawn w7 dq) osq).cell? ⟨be, oe + e * 3 + 2, none⟩ = some (.int .u64 (X e : Nat)) := by rw [(below_regrown w7 dq osq).cell HBE.out.1]; exact HBE.out.2
          have hbe8 : be < (grow (redrawn w7 dq) osq).heap.size := Nat.lt_of_lt_of_le HBE.out.1 (below_regrown w7 dq osq).size
          have HR8 := Lib.hid (HR.out.kept (HB2W.out.trans (HB8.out.mono HB2W.out.size)))
          have HB18 := Lib.hid (HBJ.out.trans ((HB2W.out.trans (HB8.out.mono HB2W.out.size)).mono HBJ.out.size))
          generalize grow (redrawn w7 dq) osq = w8 at *
          clear K0 K1 x1 f1
          have hb0 : (0 : Int) ≤ (β : Int) := Int.natCast_nonneg _
          have hb64 : (β : Int) < 64 := hbit.2
          have hsz8 : wr.heap.size < w8.heap.size := by have := HB8.out.size; omega
          have HS8 := Lib.hid (fun (W : World) (h : Below w8.heap.size w8 W) => (⟨by rw [h.cell hbe8]; exact y2, by rw [h.cell hsz8]; exact y1⟩ :
            W.cell? ⟨be, oe + e * 3 + 2, none⟩ = some (.int .u64 (X e : Nat)) ∧ W.cell? ⟨wr.heap.size, 1, none⟩ = some (.int .i64 (β : Int))))
          have HRW := Lib.hid (fun (W : World) (h : Below w8.heap.size w8 W) => (⟨HR8.out.kept h, HB18.out.trans (h.mono HB18.out.size)⟩ : RowB W W1.heap.size u7 (bitsR M B N X n k) ∧ Below W1.heap.size W1 W))
          have hbase8 := HB18.out.size
          have HNE := Lib.hid (show some be ≠ u7.ownBlock ∧ some wr.heap.size ≠ u7.ownBlock from by
            obtain ⟨b', o', hp', hbn', _⟩ := HVS.out e he
            have hbb : be < w.heap.size := by injection hp' with h; injection h with h5 h6 _; rw [h5]; exact hbn'
            have hw1 := HB.out.size
            exact ⟨fun e2 => by have := (World.ownsRow.lt HR.out _ e2.symm).1; omega, fun e2 => by have := (World.ownsRow.lt HR.out _ e2.symm).2; omega⟩)
          have HA9 := Lib.hid (fun (z : Bool) (W w9 : World) (v9 : Value) (hg9 : W.grownBy w9 u7.ownBlock) (hown9 : w9.ownsRow W1.heap.size 4 1 v9 ((bitsR M B N X n k).length + 1) (bls (bitsR M B N X n k) ++ [.bool z])) (h : Below w8.heap.size w8 W) => by
            obtain ⟨s1, s2⟩ := HS8.out W h
            obtain ⟨r1, r2⟩ := HRW.out W h
            have ho : RowB w9 W1.heap.size v9 (bitsR M B N X n k ++ [z]) := by unfold RowB; rw [bls_append, List.length_append]; exact hown9
            exact (⟨⟨hg9.cell s1 HNE.out.1, hg9.cell s2 HNE.out.2⟩, ho, r2.grown hg9 r2.size (fun r hr => (World.ownsRow.lt r1 r hr).1)⟩ :
              (w9.cell? ⟨be, oe + e * 3 + 2, none⟩ = some (.int .u64 (X e : Nat)) ∧ w9.cell? ⟨wr.heap.size, 1, none⟩ = some (.int .i64 (β : Int))) ∧ RowB w9 W1.heap.size v9 (bitsR M B N X n k ++ [z]) ∧ Below W1.heap.size W1 w9))
          clear y1 y2
          go_wp2_with fail
          go_region_held3 (fun w' => w'.cell? ⟨be, oe + e * 3 + 2, none⟩ = some (.int .u64 (X e : Nat)) ∧ w'.cell? ⟨wr.heap.size, 1, none⟩ = some (.int .i64 (β : Int)))
            (first | exact hS9 | (refine HS8.out _ ?_; (repeat (first | assumption | exact Below.refl _ _ | refine Below.drew ?_ | (refine Below.alloc ?_ ?_ _; rotate_left; · (first | assumption | exact Nat.le_refl _ | omega | (simp; done) | (simp; omega))))); done))
            (first
              | (refine step_append_own_at (by rfl) _ _ 27 (by rfl) W1.heap.size 4 i0 (.bool false) 1 1 Try.underlying27 hi hz0 hz1 hz2 rfl (by decide) u7 (bitsR M B N X n k).length (bls (bitsR M B N X n k)) (by rfl) (HRW.out _ (by (repeat (first | assumption | exact Below.refl _ _ | refine Below.drew ?_ | (refine Below.alloc ?_ ?_ _; rotate_left; · (first | assumption | exact Nat.le_refl _ | omega | (simp; done) | (simp; omega))))))).1 ⟨_, 0, none⟩ 1 1 [_] (by rfl) rfl (cell_one_new _ _ _) (one_cell1 rfl) (by rw [HOL.out]; unfold maxLen; omega) (by rw [HOL.out]; omega) (by simp; omega) ?_; intro v9 w9 hown9 hg9; obtain ⟨hS9, hr9, hb9⟩ := HA9.out _ _ _ _ hg9 hown9 (by (repeat (first | assumption | exact Below.refl _ _ | refine Below.drew ?_ | (refine Below.alloc ?_ ?_ _; rotate_left; · (first | assumption | exact Nat.le_refl _ | omega | (simp; done) | (simp; omega)))))); have HR9 := Lib.hid hr9; have HB9 := Lib.hid hb9; clear hown9 hg9 hr9 hb9))
          have HZ := Lib.hid (show RowB w9 W1.heap.size v9 (bitsR M B N X n (k + 1)) from by
            have h := HR9.out
            rw [and_bit (X e) β (HXX.out e he)] at h
            rw [HNS.out]; exact h)
          clear hS9 HR9
          go_wp2
          go_roundw
          case rel => exact ⟨k + 1, by first | rfl | go_num | (rw [wrap64_small _ (by omega) (by omega)]; rfl), by omega, HZ.out, HB9.out⟩
          case measure => (try rw [wrap64_small _ (by omega) (by omega)]); simp only [intOf]; omega
      · obtain rfl : k = ni := by omega
        obtain ⟨rfl, rfl⟩ : L = bitsR M B N X n k ∧ err = 0 := by
          rcases HEND.out with ⟨h1, _⟩ | ⟨_, h2, h3⟩
          · omega
          · exact ⟨h2, h3⟩
        clear hr hb
        go_wp2
        go_ret2
        exact ⟨u7, rfl, HR.out.base HB.out.size, HB0.out _ HBJ.out⟩
end Go.Proofs.Ytmbogdimjbhbmaa
