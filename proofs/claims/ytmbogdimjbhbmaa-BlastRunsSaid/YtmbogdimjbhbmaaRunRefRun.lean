/- Contract of the reference's Run. -/
import Derived.Test.YtmbogdimjbhbmaaRunRef
namespace Go.Proofs.Ytmbogdimjbhbmaa
open Go.RowKit Go.Sort
set_option linter.unusedVariables false
set_option linter.unusedSimpArgs false

set_option maxRecDepth 100000 in
set_option maxHeartbeats 1000000 in
theorem refRun_any (pi pg po pv : Option Addr) (ni ng no n ci cg co cv : Nat) (N : Nat → ByteArray) (B P Q O : Nat → Int) (V : Nat → Bool) (w : World) (hc : CirAt w pi pg po ni ng no N B P Q O) (hv : BoolsAt w pv n V) (hn : n ≤ 700) (L : List Bool) (err : Nat)
    (hL : RunIs N B P Q O ni ng no V n L err) :
    Calls Try.prog 8 #[.agg #[.slice pi ni ci, .slice pg ng cg, .slice po no co], .slice pv n cv] w (Ran L err w) := by
  have hni := hc.hi
  have hng := hc.hg
  have hno := hc.ho
  have HC := Lib.hid hc
  have HVS := Lib.hid hv
  clear hc hv
  obtain ⟨i0, hi, hz0, hz1, hz2⟩ := info_parts bool_info
  obtain ⟨W1, hW1⟩ : ∃ W1, W1 = w.alloc (.cells #[.slice pi ni ci, .slice pg ng cg, .slice po no co] 26) := ⟨_, rfl⟩
  have hb1 : Below w.heap.size w W1 := by rw [hW1]; exact (Below.refl _ _).alloc (Nat.le_refl _) _
  have c0 : W1.cell? ⟨w.heap.size, 0, none⟩ = some (.slice pi ni ci) := by rw [hW1]; go_simp
  have c1 : W1.cell? ⟨w.heap.size, 1, none⟩ = some (.slice pg ng cg) := by rw [hW1]; go_simp
  have c2 : W1.cell? ⟨w.heap.size, 2, none⟩ = some (.slice po no co) := by rw [hW1]; go_simp
  have hsz : w.heap.size < W1.heap.size := by rw [hW1]; simp
  have HB := Lib.hid hb1
  have HX := Lib.hid (fun (wr : World) (h : Below W1.heap.size W1 wr) => (⟨by rw [h.cell hsz]; exact c0, by rw [h.cell hsz]; exact c1, by rw [h.cell hsz]; exact c2⟩ : wr.cell? ⟨w.heap.size, 0, none⟩ = some (.slice pi ni ci) ∧ wr.cell? ⟨w.heap.size, 1, none⟩ = some (.slice pg ng cg) ∧ wr.cell? ⟨w.heap.size, 2, none⟩ = some (.slice po no co)))
  have HV := Lib.hid (fun (wr : World) (h : Below W1.heap.size W1 wr) => refCheck_any pi pg po ni ng no ci cg co N B P Q O wr (HC.out.below (hb1.trans (h.mono hb1.size))))
  have HB0 := Lib.hid (fun (wr : World) (h : Below W1.heap.size W1 wr) => hb1.trans (h.mono hb1.size))
  have HR := Lib.hid (Below.refl W1.heap.size W1)
  have HW := Lib.hid hW1
  clear hb1 hsz
  rw [hW1] at c0
  clear c1 c2 hW1
  rcases hL with ⟨h1, rfl, rfl⟩ | ⟨h1, h2, rfl, rfl⟩ | ⟨h1, rfl, rfl, rfl⟩
  · obtain ⟨r, hr⟩ : ∃ r, chkR N B P Q O ni ng no = r := ⟨_, rfl⟩
    have hr2 := chk_cases (N := N) (B := B) (P := P) (Q := Q) (O := O) (ni := ni) (ng := ng) (no := no)
    rw [hr] at h1 hr2 HV ⊢
    clear hr
    have hr3 : r = 4 ∨ r = 8 := by omega
    clear h1 hr2
    have HV1 := Lib.hid (HV.out W1 HR.out)
    rw [HW.out] at HV1
    rcases hr3 with rfl | rfl
    all_goals
      go_enter Try.func8, Try.ntmps8
      go_wp2_with (go_at_call 12; first
        | ((with_reducible refine HV1.out.mono ?_); rintro e w2 ⟨rfl, hb2⟩; rw [← HW.out] at hb2; obtain ⟨e0, e1, e2⟩ := HX.out w2 hb2; have HB2 := Lib.hid hb2; clear hb2)
        | ((with_reducible refine (HV.out _ HB2.out).mono ?_); rintro e w3 ⟨rfl, hb3⟩))
      go_ret2
      exact Ran.none (HB0.out _ (HB2.out.trans (hb3.mono HB2.out.size)))
  · rw [h1] at HV
    have HV1 := Lib.hid (HV.out W1 HR.out)
    rw [HW.out] at HV1
    have d0 : ((n : Int) != (ni : Int)) = true := by simp; omega
    clear h2
    go_enter Try.func8, Try.ntmps8
    go_wp2_with (go_at_call 12; ((with_reducible refine HV1.out.mono ?_); rintro e w2 ⟨rfl, hb2⟩; rw [← HW.out] at hb2; obtain ⟨e0, e1, e2⟩ := HX.out w2 hb2; have HB2 := Lib.hid hb2; clear hb2))
    go_ret2
    exact Ran.none (HB0.out _ HB2.out)
  · rw [h1] at HV
    have hv := chk_valid h1
    have HO := Lib.hid hv.2.2.2
    have HV1 := Lib.hid (HV.out W1 HR.out)
    rw [HW.out] at HV1
    have HND := Lib.hid (fun (wr : World) (h : Below W1.heap.size W1 wr) => nodes_any pi pg po pv n ng no ci cg co cv N B P Q O V wr (HC.out.below (HB0.out wr h)) (HVS.out.below (HB0.out wr h)) hv.2.2.1)
    clear hv h1
    have d0 : ((n : Int) != (n : Int)) = false := by simp
    go_enter Try.func8, Try.ntmps8
    go_wp2_with (first
      | (go_at_call 12; ((with_reducible refine HV1.out.mono ?_); rintro e w2 ⟨rfl, hb2⟩; rw [← HW.out] at hb2; obtain ⟨e0, e1, e2⟩ := HX.out w2 hb2; have HB2 := Lib.hid hb2; clear hb2))
      | (go_at_call 18; (with_reducible refine (HND.out _ HB2.out).mono ?_); rintro e w3 ⟨v3, rfl, hr3, hb3⟩; clear e0 e1 e2; obtain ⟨e0, e1, e2⟩ := HX.out w3 (HB2.out.trans (hb3.mono HB2.out.size)); have HR3 := Lib.hid hr3; have HB3 := Lib.hid (HB2.out.trans (hb3.mono HB2.out.size)); clear hr3 hb3))
    clear e0 e1 e2 c0
    have hlen := nodesL_length V P Q n ng
    obtain ⟨NL, hNL⟩ : ∃ NL, nodesL V P Q n ng = NL := ⟨_, rfl⟩
    have HNL := Lib.hid hNL
    rw [hNL] at hlen HR3
    clear hNL
    have hs3 := HB3.out.size
    go_loopw [7, 8] (fun vo vi wr => ∃ j : Nat, vi = .int .i64 j ∧ j ≤ no ∧ RowB wr w3.heap.size vo (outsL NL O j) ∧ Below w3.heap.size w3 wr) (fun _ vi _ => no - (intOf vi).toNat)
    case atStart => exact ⟨0, rfl, by omega, World.ownsRow_nil _ _ _ _, Below.refl _ _⟩
    case round =>
      obtain ⟨j, rfl, hj, hr, hb⟩ := hrel
      have HBJ := Lib.hid hb
      have HRJ := Lib.hid hr
      obtain ⟨e0, e1, e2⟩ := HX.out wr (HB3.out.trans (hb.mono HB3.out.size))
      clear hr hb
      by_cases hlt : j < no
      · obtain ⟨b, oo, hpo, hbn, a0⟩ := ((HC.out.outs.below (HB0.out _ HB3.out)).below HBJ.out) j hlt
        subst hpo
        obtain ⟨p, hp, hp2⟩ := litOk_nat (allTo_at _ no HO.out j hlt)
        rw [hp] at a0
        obtain ⟨x, hx⟩ : ∃ x, litL NL (p : Int) = x := ⟨_, rfl⟩
        have hVO := Lib.hid (fun (W : World) (h : Below w3.heap.size w3 W) => by
          have h3 := litB_any HR3.out (by omega) p (by omega) W h
          rw [hx] at h3; exact h3)
        have HNS := Lib.hid (show outsL NL O (j + 1) = outsL NL O j ++ [x] by rw [outsL_succ, hp, hx])
        have HOL := Lib.hid (outsL_length NL O j)
        have hj0 : (0 : Int) ≤ (j : Int) := Int.natCast_nonneg _
        have hj1 : (j : Int) < (no : Int) := by omega
        have hsJ := HBJ.out.size
        clear hx hp
        go_wp2_with (first
          | (go_at_call 19; (with_reducible refine (hVO.out _ HBJ.out).mono ?_); rintro e w7 ⟨rfl, hb7⟩; have HB7 := Lib.hid (HBJ.out.trans (hb7.mono HBJ.out.size)); have HR7 := Lib.hid (HRJ.out.kept hb7); clear hb7)
          | (at_builtin; refine wpList_append_own_at _ rfl _ _ 27 rfl w3.heap.size 4 i0 (.bool false) 1 1 Try.underlying27 hi hz0 hz1 hz2 rfl (by decide) _ _ _ rfl (World.ownsRow.alloc HR7.out _) ⟨_, 0, none⟩ 1 1 [.bool x] rfl rfl (cell_one_new _ _ _) (one_cell1 rfl) (by rw [HOL.out]; unfold maxLen; omega) (by rw [HOL.out]; omega) (by have := HB7.out.size; simp; omega) ?_; intro v9 w9 hown9 hg9 _ _; have HR9 := Lib.hid (show RowB w9 w3.heap.size v9 (outsL NL O j ++ [x]) by (unfold RowB; rw [bls_append, List.length_append]; exact hown9)); have HB9 := Lib.hid ((HB7.out.alloc HB7.out.size _).grown hg9 (by have := HB7.out.size; simp; omega) (fun r hr => (World.ownsRow.lt HR7.out r hr).1)); clear hown9 hg9))
        go_roundw
        case rel => exact ⟨j + 1, by first | rfl | go_num | (rw [wrap64_small _ (by omega) (by omega)]; rfl), by omega, by rw [HNS.out]; exact HR9.out, HB9.out⟩
        case measure => (try rw [wrap64_small _ (by omega) (by omega)]); simp only [intOf]; omega
      · obtain rfl : j = no := by omega
        go_wp2
        go_ret2
        exact ⟨u7, rfl, by rw [HNL.out]; exact HRJ.out.base (Nat.le_trans HB.out.size hs3), (HB0.out _ HB3.out).trans (HBJ.out.mono (Nat.le_trans HB.out.size hs3))⟩
end Go.Proofs.Ytmbogdimjbhbmaa
