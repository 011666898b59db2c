/- Contract of the reference's Clauses. -/
import Derived.Test.YtjklebfggnllcaaBlastAtom
import Derived.Test.YtjklebfggnllcaaBlastRefCheck
namespace Go.Proofs.Ytjklebfggnllcaa
open Go.RowKit Go.Sort
set_option linter.unusedVariables false
set_option linter.unusedSimpArgs false

theorem Calls.below_of {f : FuncId} {args : Array Value} {w : World} {v : Value} (h : Calls Try.prog f args w fun e w' => e = .returned v ∧ w = w') :
    Calls Try.prog f args w fun e w' => e = .returned v ∧ Below w.heap.size w w' := h.mono fun _ _ ⟨he, hw⟩ => ⟨he, by rw [← hw]; exact Below.refl _ _⟩

/-- What Clauses has to give: a number of atoms, clauses, an error. -/
def ClsIs (N : Nat → ByteArray) (B P Q O : Nat → Int) (ni ng no : Nat) (o : Int) (n : Nat) (L : List (List Int)) (err : Nat) : Prop :=
  (chkR N B P Q O ni ng no ≠ 0 ∧ n = 0 ∧ L = [] ∧ err = chkR N B P Q O ni ng no) ∨
  (chkR N B P Q O ni ng no = 0 ∧ (o < 0 ∨ (no : Int) ≤ o) ∧ n = 0 ∧ L = [] ∧ err = 2) ∨
  (chkR N B P Q O ni ng no = 0 ∧ (∃ j : Nat, o = j ∧ j < no) ∧ 5000 < 1 + ni + ng ∧ n = 0 ∧ L = [] ∧ err = 4) ∨
  (∃ j : Nat, chkR N B P Q O ni ng no = 0 ∧ o = j ∧ j < no ∧ 1 + ni + ng ≤ 5000 ∧ n = 1 + ni + ng ∧ L = clausesR P Q ni ng (O j) ∧ err = 0)
theorem clsIs_some (N : Nat → ByteArray) (B P Q O : Nat → Int) (ni ng no : Nat) (o : Int) : ∃ n L err, ClsIs N B P Q O ni ng no o n L err := by
  unfold ClsIs
  by_cases h1 : chkR N B P Q O ni ng no = 0
  · by_cases h2 : o < 0 ∨ (no : Int) ≤ o
    · exact ⟨0, [], 2, .inr (.inl ⟨h1, h2, rfl, rfl, rfl⟩)⟩
    · obtain ⟨j, rfl⟩ : ∃ j : Nat, o = j := ⟨o.toNat, by omega⟩
      have hj : j < no := by omega
      by_cases h3 : 5000 < 1 + ni + ng
      · exact ⟨0, [], 4, .inr (.inr (.inl ⟨h1, ⟨j, rfl, hj⟩, h3, rfl, rfl, rfl⟩))⟩
      · exact ⟨_, _, 0, .inr (.inr (.inr ⟨j, h1, rfl, hj, by omega, rfl, rfl, rfl⟩))⟩
  · exact ⟨0, [], _, .inl ⟨h1, rfl, rfl, rfl⟩⟩

/-- A call hands them back. -/
def Claimed (n : Nat) (L : List (List Int)) (err : Nat) (w : World) (e : Ending) (w' : World) : Prop :=
  ∃ v us, e = .returned (.tuple #[.int .i64 (n : Int), v, .int .i64 (err : Int)]) ∧ ListsAt w' w.heap.size v us L ∧ Below w.heap.size w w'
theorem Claimed.none {err : Nat} {w w' : World} (h : Below w.heap.size w w') : Claimed 0 [] err w (.returned (.tuple #[.int .i64 0, .slice none 0 0, .int .i64 (err : Int)])) w' :=
  ⟨_, [], rfl, ListsAt.nil _ _, h⟩

theorem ListsAt.first (w : World) (base : Nat) (hbase : base ≤ w.heap.size) (a : Int) :
    ListsAt ((w.alloc (.cells #[.int .i64 a] 3)).alloc (.cells #[.slice (some ⟨w.heap.size, 0, none⟩) 1 1] 24)) base (.slice (some ⟨w.heap.size + 1, 0, none⟩) 1 1) [.slice (some ⟨w.heap.size, 0, none⟩) 1 1] [[a]] := by
  have hn := heap_alloc_new (w.alloc (.cells #[.int .i64 a] 3)) (.cells #[.slice (some ⟨w.heap.size, 0, none⟩) 1 1] 24)
  rw [show (w.alloc (.cells #[.int .i64 a] 3)).heap.size = w.heap.size + 1 by simp] at hn
  refine ⟨⟨rfl, .inr ⟨w.heap.size + 1, 1, _, rfl, by omega, hn, Nat.le_refl _, by unfold maxLen; omega, rfl, rfl⟩⟩, ?_⟩
  exact Inners.cons ((InnerAt.one w a).below ((Below.refl _ _).alloc (Nat.le_refl _) _)) (Inners.nil _)

theorem atom_bounds (l : Nat) (h : l ≤ 1000000) : -1000000 ≤ atomR (l : Int) ∧ atomR (l : Int) ≤ 1000000 := by
  unfold atomR; split <;> omega

theorem gate_nat {P Q : Nat → Int} {ni ng k : Nat} (h : gatesR P Q ni ng = true) (hk : k < ng) (hs : 1 + ni + ng ≤ 5000) : ∃ p q : Nat, P k = p ∧ Q k = q ∧ p ≤ 10000 ∧ q ≤ 10000 := by
  have hg := allTo_at _ ng h k hk
  unfold gateOk litOk at hg
  simp only [Bool.and_eq_true, decide_eq_true_eq] at hg
  exact ⟨(P k).toNat, (Q k).toNat, by omega, by omega, by omega, by omega⟩
theorem out_nat {O : Nat → Int} {n no j : Nat} (h : outsR O n no = true) (hj : j < no) (hs : n ≤ 5000) : ∃ p : Nat, O j = p ∧ p ≤ 10000 := by
  have hg := allTo_at _ no h j hj
  unfold litOk at hg
  simp only [Bool.and_eq_true, decide_eq_true_eq] at hg
  exact ⟨(O j).toNat, by omega, by omega⟩

set_option maxRecDepth 100000 in
set_option maxHeartbeats 1000000 in
theorem refClauses_any (pi pg po : Option Addr) (ni ng no ci cg co : Nat) (N : Nat → ByteArray) (B P Q O : Nat → Int) (w : World) (hc : CirAt w pi pg po ni ng no N B P Q O) (o : Int) (n : Nat) (L : List (List Int)) (err : Nat)
    (hL : ClsIs N B P Q O ni ng no o n L err) :
    Calls Try.prog 17 #[.agg #[.slice pi ni ci, .slice pg ng cg, .slice po no co], .int .i64 o] w (Claimed n L err w) := by
  have hni := hc.hi
  have hng := hc.hg
  have hno := hc.ho
  have HC := Lib.hid hc
  clear hc
  obtain ⟨W1, hW1⟩ : ∃ W1, W1 = w.alloc (.cells #[.slice pi ni ci, .slice pg ng cg, .slice po no co] 26) := ⟨_, rfl⟩
  have hb1 : Below w.heap.size w W1 := by rw [hW1]; exact (Below.refl _ _).alloc (Nat.le_refl _) _
  have c0 : W1.cell? ⟨w.heap.size, 0, none⟩ = some (.slice pi ni ci) := by rw [hW1]; go_simp
  have c1 : W1.cell? ⟨w.heap.size, 1, none⟩ = some (.slice pg ng cg) := by rw [hW1]; go_simp
  have c2 : W1.cell? ⟨w.heap.size, 2, none⟩ = some (.slice po no co) := by rw [hW1]; go_simp
  have hsz : w.heap.size < W1.heap.size := by rw [hW1]; simp
  have HB := Lib.hid hb1
  have HX := Lib.hid (fun (wr : World) (h : Below W1.heap.size W1 wr) => (⟨by rw [h.cell hsz]; exact c0, by rw [h.cell hsz]; exact c1, by rw [h.cell hsz]; exact c2⟩ : wr.cell? ⟨w.heap.size, 0, none⟩ = some (.slice pi ni ci) ∧ wr.cell? ⟨w.heap.size, 1, none⟩ = some (.slice pg ng cg) ∧ wr.cell? ⟨w.heap.size, 2, none⟩ = some (.slice po no co)))
  have HV := Lib.hid (fun (wr : World) (h : Below W1.heap.size W1 wr) => refCheck_any pi pg po ni ng no ci cg co N B P Q O wr (HC.out.below (hb1.trans (h.mono hb1.size))))
  have HB0 := Lib.hid (fun (wr : World) (h : Below W1.heap.size W1 wr) => hb1.trans (h.mono hb1.size))
  have HR := Lib.hid (Below.refl W1.heap.size W1)
  have HW := Lib.hid hW1
  clear hb1 hsz
  rw [hW1] at c0
  clear c1 c2 hW1
  rcases hL with ⟨h1, rfl, rfl, rfl⟩ | ⟨h1, h2, rfl, rfl, rfl⟩ | ⟨h1, ⟨j, rfl, hj⟩, h3, rfl, rfl, rfl⟩ | ⟨j, h1, rfl, hj, h3, rfl, rfl, rfl⟩
  · obtain ⟨r, hr⟩ : ∃ r, chkR N B P Q O ni ng no = r := ⟨_, rfl⟩
    have hr2 := chk_cases (N := N) (B := B) (P := P) (Q := Q) (O := O) (ni := ni) (ng := ng) (no := no)
    rw [hr] at h1 hr2 HV ⊢
    clear hr
    have hr3 : r = 4 ∨ r = 8 := by omega
    clear h1 hr2
    have HV1 := Lib.hid (HV.out W1 HR.out)
    rw [HW.out] at HV1
    rcases hr3 with rfl | rfl
    all_goals
      go_enter Try.func17, Try.ntmps17
      go_wp2_with (go_at_call 13; first
        | ((with_reducible refine HV1.out.mono ?_); rintro e w2 ⟨rfl, hb2⟩; rw [← HW.out] at hb2; obtain ⟨e0, e1, e2⟩ := HX.out w2 hb2; have HB2 := Lib.hid hb2; clear hb2)
        | ((with_reducible refine (HV.out _ HB2.out).mono ?_); rintro e w3 ⟨rfl, hb3⟩))
      go_ret3
      exact Claimed.none (HB0.out _ (HB2.out.trans (hb3.mono HB2.out.size)))
  · rw [h1] at HV
    have HV1 := Lib.hid (HV.out W1 HR.out)
    rw [HW.out] at HV1
    by_cases h3 : o < 0
    · have d0 : decide (o < 0) = true := decide_eq_true h3
      clear h2 h3
      go_enter Try.func17, Try.ntmps17
      go_wp2_with (go_at_call 13; ((with_reducible refine HV1.out.mono ?_); rintro e w2 ⟨rfl, hb2⟩; rw [← HW.out] at hb2; obtain ⟨e0, e1, e2⟩ := HX.out w2 hb2; have HB2 := Lib.hid hb2; clear hb2))
      go_ret3
      exact Claimed.none (HB0.out _ HB2.out)
    · have d0 : decide (o < 0) = false := decide_eq_false h3
      have h4 : (no : Int) ≤ o := by omega
      have d1 : decide ((no : Int) ≤ o) = true := decide_eq_true h4
      clear h2 h3
      go_enter Try.func17, Try.ntmps17
      go_wp2_with (go_at_call 13; ((with_reducible refine HV1.out.mono ?_); rintro e w2 ⟨rfl, hb2⟩; rw [← HW.out] at hb2; obtain ⟨e0, e1, e2⟩ := HX.out w2 hb2; have HB2 := Lib.hid hb2; clear hb2))
      go_ret3
      exact Claimed.none (HB0.out _ HB2.out)
  · rw [h1] at HV
    have HV1 := Lib.hid (HV.out W1 HR.out)
    rw [HW.out] at HV1
    have d0 : decide ((j : Int) < 0) = false := decide_eq_false (by omega)
    have d1 : decide ((no : Int) ≤ (j : Int)) = false := decide_eq_false (by omega)
    have d1n : decide (no ≤ j) = false := decide_eq_false (by omega)
    go_enter Try.func17, Try.ntmps17
    go_wp2_with (go_at_call 13; ((with_reducible refine HV1.out.mono ?_); rintro e w2 ⟨rfl, hb2⟩; rw [← HW.out] at hb2; obtain ⟨e0, e1, e2⟩ := HX.out w2 hb2; have HB2 := Lib.hid hb2; clear hb2))
    go_ret3
    exact Claimed.none (HB0.out _ HB2.out)
  · rw [h1] at HV
    have hv := chk_valid h1
    have HG := Lib.hid hv.2.2.1
    have HO := Lib.hid hv.2.2.2
    clear hv
    have HV1 := Lib.hid (HV.out W1 HR.out)
    rw [HW.out] at HV1
    have d0 : decide ((j : Int) < 0) = false := decide_eq_false (by omega)
    have d1 : decide ((no : Int) ≤ (j : Int)) = false := decide_eq_false (by omega)
    have d1n : decide (no ≤ j) = false := decide_eq_false (by omega)
    go_enter Try.func17, Try.ntmps17
    go_wp2_with (go_at_call 13; ((with_reducible refine HV1.out.mono ?_); rintro e w2 ⟨rfl, hb2⟩; rw [← HW.out] at hb2; obtain ⟨e0, e1, e2⟩ := HX.out w2 hb2; have HB2 := Lib.hid hb2; clear hb2))
    clear e0 e1 e2 c0
    obtain ⟨i0, hi, hz0, hz1, hz2⟩ := info_parts list_info
    have HL0 := Lib.hid (ListsAt.first w2 W1.heap.size HB2.out.size (-1))
    have HB00 := Lib.hid (show Below W1.heap.size W1 ((w2.alloc (.cells #[.int .i64 (-1)] 3)).alloc (.cells #[.slice (some ⟨w2.heap.size, 0, none⟩) 1 1] 24)) from (HB2.out.alloc HB2.out.size _).alloc (by have := HB2.out.size; simp; omega) _)
    go_loopw [8, 9] (fun vo vi wr => ∃ (k : Nat) (us : List Value), vi = .int .i64 k ∧ k ≤ ng ∧ ListsAt wr W1.heap.size vo us (clausesTo P Q ni k) ∧ Below W1.heap.size W1 wr) (fun _ vi _ => ng - (intOf vi).toNat)
    case atStart => exact ⟨0, _, rfl, by omega, HL0.out, HB00.out⟩
    case round =>
      obtain ⟨k, us, rfl, hk, hl, hb⟩ := hrel
      have HL := Lib.hid hl
      have HB3 := Lib.hid hb
      clear hl hb
      obtain ⟨e0, e1, e2⟩ := HX.out wr HB3.out
      by_cases hlt : k < ng
      · obtain ⟨b, og, hpg, hbn, a0, a1⟩ := ((HC.out.gates.below HB.out).below HB3.out) k hlt
        subst hpg
        obtain ⟨p, q, hp, hq, hp2, hq2⟩ := gate_nat HG.out hlt h3
        rw [hp] at a0
        rw [hq] at a1
        obtain ⟨x1, x2⟩ := atom_bounds p (by omega)
        obtain ⟨y1, y2⟩ := atom_bounds q (by omega)
        have HA1 := Lib.hid (fun d os => Calls.regrown_of (d := d) (os := os) (w := wr) (Calls.below_of (refAtom_any p (grow (redrawn wr d) os) (by omega))))
        have HA2 := Lib.hid (fun d os => Calls.regrown_of (d := d) (os := os) (w := wr) (Calls.below_of (refAtom_any q (grow (redrawn wr d) os) (by omega))))
        obtain ⟨x, hx⟩ : ∃ x, atomR (p : Int) = x := ⟨_, rfl⟩
        obtain ⟨y, hy⟩ : ∃ y, atomR (q : Int) = y := ⟨_, rfl⟩
        have HGL := Lib.hid (show clausesTo P Q ni (k + 1) = clausesTo P Q ni k ++ [[-(1 + (ni : Int) + (k : Int) + 1), x], [-(1 + (ni : Int) + (k : Int) + 1), y], [1 + (ni : Int) + (k : Int) + 1, -x, -y]] by
          rw [clausesTo, gateL, hp, hq, hx, hy, show (2 + (ni : Int) + (k : Int)) = 1 + (ni : Int) + (k : Int) + 1 by omega])
        have hlen := clausesTo_length P Q ni k
        rw [hx] at HA1 x1 x2
        rw [hy] at HA2 y1 y2
        obtain ⟨L0, hL0⟩ : ∃ L0, clausesTo P Q ni k = L0 := ⟨_, rfl⟩
        rw [hL0] at hlen HGL HL
        clear hL0 hx hy hp hq
        have K0 := fun d os => cell_regrown e1 d os
        have K1 := fun d os => cell_regrown a0 d os
        have K2 := fun d os => cell_regrown a1 d os
        have hj0 : (0 : Int) ≤ (k : Int) := Int.natCast_nonneg _
        have hj1 : (k : Int) < (ng : Int) := by omega
        go_wp2_with fail
        clear a0 a1 e0 e1 e2
        refine wp_region_quiet_below (by kernel_rfl) (by kernel_rfl) ?_
        repeat (first | go_big_quiet_step (first | (with_reducible exact HA1.out _ _) | (with_reducible exact HA2.out _ _)) | quiet_step (first | (with_reducible exact HA1.out _ _) | (with_reducible exact HA2.out _ _)))
        refine wpQuiet_nil ?_
        intro _ hw'
        obtain ⟨⟨dq, osq⟩, hw''⟩ := hw'
        subst hw''
        have HB4 := Lib.hid (HB3.out.trans ((below_regrown wr dq osq).mono HB3.out.size))
        have HL1 := Lib.hid (HL.out.below (below_regrown wr dq osq))
        generalize grow (redrawn wr dq) osq = w4 at *
        clear K0 K1 K2 HA1 HA2
        obtain ⟨g, hg⟩ : ∃ g : Int, 1 + (ni : Int) + (k : Int) + 1 = g := ⟨_, rfl⟩
        rw [hg] at HGL ⊢
        have g1 : 0 ≤ g := by omega
        have g2 : g ≤ 10000 := by omega
        have HG0 := Lib.hid hg
        clear hg
        obtain ⟨L1, hL1⟩ : ∃ L1, L0 ++ [[-g, x]] = L1 := ⟨_, rfl⟩
        obtain ⟨L2, hL2⟩ : ∃ L2, L1 ++ [[-g, y]] = L2 := ⟨_, rfl⟩
        have hlen1 : L1.length = 2 + 3 * k := by rw [← hL1, List.length_append, hlen]; simp; omega
        have hlen2 : L2.length = 3 + 3 * k := by rw [← hL2, List.length_append, hlen1]; simp; omega
        have hL3 : L2 ++ [[g, -x, -y]] = clausesTo P Q ni (k + 1) := by rw [HGL.out, ← hL2, ← hL1]; simp
        have HE1 := Lib.hid hL1
        have HE2 := Lib.hid hL2
        have HE3 := Lib.hid hL3
        clear hL1 hL2 hL3 HGL
        go_wp2_with (at_builtin; refine wpList_append_own_at _ rfl _ _ 44 rfl W1.heap.size 24 i0 (.slice none 0 0) 1 24 Try.underlying44 hi hz0 hz1 hz2 rfl (by decide) _ _ _ rfl (World.ownsRow.alloc (World.ownsRow.alloc HL1.out.1 _) _) ⟨w4.heap.size + 1, 0, none⟩ 1 1 [.slice (some ⟨w4.heap.size, 0, none⟩) 2 2] rfl rfl (cell_one_at _ _ _ _ (by simp)) (one_cell1 rfl) (by rw [hlen]; unfold maxLen; omega) (by rw [hlen]; omega) (by have := HB4.out.size; simp; omega) ?_)
        intro v5 w5 hown5 hgrow5 _ _
        have H5 := Lib.hid (push_one (l := [-g, x]) rfl 2 rfl hlen HL1.out HB4.out HE1.out hown5 hgrow5)
        obtain ⟨us5, HL5⟩ : ∃ us', Hid (ListsAt w5 W1.heap.size v5 us' L1) := ⟨_, Lib.hid H5.out.1⟩
        have HB5 := Lib.hid H5.out.2
        clear hown5 hgrow5 H5
        go_wp2_with (at_builtin; refine wpList_append_own_at _ rfl _ _ 44 rfl W1.heap.size 24 i0 (.slice none 0 0) 1 24 Try.underlying44 hi hz0 hz1 hz2 rfl (by decide) _ _ _ rfl (World.ownsRow.alloc (World.ownsRow.alloc HL5.out.1 _) _) ⟨w5.heap.size + 1, 0, none⟩ 1 1 [.slice (some ⟨w5.heap.size, 0, none⟩) 2 2] rfl rfl (cell_one_at _ _ _ _ (by simp)) (one_cell1 rfl) (by rw [hlen1]; unfold maxLen; omega) (by rw [hlen1]; omega) (by have := HB5.out.size; simp; omega) ?_)
        intro v6 w6 hown6 hgrow6 _ _
        have H6 := Lib.hid (push_one (l := [-g, y]) rfl 2 rfl hlen1 HL5.out HB5.out HE2.out hown6 hgrow6)
        obtain ⟨us6, HL6⟩ : ∃ us', Hid (ListsAt w6 W1.heap.size v6 us' L2) := ⟨_, Lib.hid H6.out.1⟩
        have HB6 := Lib.hid H6.out.2
        clear hown6 hgrow6 H6
        go_wp2_with (at_builtin; refine wpList_append_own_at _ rfl _ _ 44 rfl W1.heap.size 24 i0 (.slice none 0 0) 1 24 Try.underlying44 hi hz0 hz1 hz2 rfl (by decide) _ _ _ rfl (World.ownsRow.alloc (World.ownsRow.alloc HL6.out.1 _) _) ⟨w6.heap.size + 1, 0, none⟩ 1 1 [.slice (some ⟨w6.heap.size, 0, none⟩) 3 3] rfl rfl (cell_one_at _ _ _ _ (by simp)) (one_cell1 rfl) (by rw [hlen2]; unfold maxLen; omega) (by rw [hlen2]; omega) (by have := HB6.out.size; simp; omega) ?_)
        intro v7 w7 hown7 hgrow7 _ _
        have H7 := Lib.hid (push_one (l := [g, -x, -y]) rfl 3 rfl hlen2 HL6.out HB6.out HE3.out hown7 hgrow7)
        clear hown7 hgrow7
        go_wp2
        go_roundw
        case rel =>
          exact ⟨k + 1, _, by first | rfl | go_num | (rw [wrap64_small _ (by omega) (by omega)]; rfl), by omega, H7.out.1, H7.out.2⟩
        case measure => (try rw [wrap64_small _ (by omega) (by omega)]); simp only [intOf]; omega
      · obtain rfl : k = ng := by omega
        obtain ⟨b, oo, hpo, hbn, a0⟩ := ((HC.out.outs.below HB.out).below HB3.out) j hj
        subst hpo
        obtain ⟨p, hp, hp2⟩ := out_nat HO.out hj h3
        rw [hp] at a0
        have HA := Lib.hid (fun W => refAtom_any p W (by omega))
        obtain ⟨x1, x2⟩ := atom_bounds p (by omega)
        obtain ⟨x, hx⟩ : ∃ x, atomR (p : Int) = x := ⟨_, rfl⟩
        have HGL := Lib.hid (show clausesTo P Q ni k ++ [[x]] = clausesR P Q ni k (O j) by rw [clausesR, hp, hx])
        have hlen := clausesTo_length P Q ni k
        rw [hx] at HA x1 x2
        have hj0 : (0 : Int) ≤ (j : Int) := Int.natCast_nonneg _
        have hj1 : (j : Int) < (no : Int) := by omega
        clear hx hp
        go_wp2_with (first
          | (go_at_call 34; (with_reducible refine (HA.out _).mono ?_); rintro e w' ⟨rfl, rfl⟩)
          | (at_builtin; refine wpList_append_own_at _ rfl _ _ 44 rfl W1.heap.size 24 i0 (.slice none 0 0) 1 24 Try.underlying44 hi hz0 hz1 hz2 rfl (by decide) _ _ _ rfl (World.ownsRow.alloc (World.ownsRow.alloc HL.out.1 _) _) ⟨wr.heap.size + 1, 0, none⟩ 1 1 [.slice (some ⟨wr.heap.size, 0, none⟩) 1 1] rfl rfl (cell_one_at _ _ _ _ (by simp)) (one_cell1 rfl) (by rw [hlen]; unfold maxLen; omega) (by rw [hlen]; omega) (by have := HB3.out.size; simp; omega) ?_))
        intro v5 w5 hown5 hgrow5 _ _
        have H5 := Lib.hid (push_one (l := [x]) rfl 1 rfl hlen HL.out HB3.out HGL.out hown5 hgrow5)
        clear hown5 hgrow5
        go_wp2
        go_ret3
        exact ⟨_, _, by first | rfl | (congr 3; omega) | simp, H5.out.1.base HB.out.size, HB0.out _ H5.out.2⟩
end Go.Proofs.Ytjklebfggnllcaa
