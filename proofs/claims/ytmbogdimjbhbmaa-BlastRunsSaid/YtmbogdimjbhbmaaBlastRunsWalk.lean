/- The walk of BlastRuns. -/
import Derived.Test.YtmbogdimjbhbmaaRunBlast
import Derived.Test.YtmbogdimjbhbmaaRunRefRun
import Derived.Test.YtmbogdimjbhbmaaInpBlast
import Derived.Test.YtmbogdimjbhbmaaInpRef
import Derived.Test.YtmbogdimjbhbmaaRunSame
import Derived.Test.YtmbogdimjbhbmaaBlastSame
import Derived.Test.YtmbogdimjbhbmaaBlastOpen
import Derived.Test.YtmbogdimjbhbmaaRunOpen
namespace Go.Proofs.Ytmbogdimjbhbmaa.blastRuns
open Go.RowKit Go.Sort
set_option linter.unusedVariables false
set_option linter.unusedSimpArgs false

theorem outs_short {N : Nat → ByteArray} {B P Q O : Nat → Int} {ni ng no : Nat} {V : Nat → Bool} {n : Nat} {L : List Bool} {err : Nat} (h : RunIs N B P Q O ni ng no V n L err) (hno : no ≤ 100) : L.length ≤ 1000000 := by
  rcases h with ⟨_, rfl, _⟩ | ⟨_, _, rfl, _⟩ | ⟨_, _, rfl, _⟩
  · simp
  · simp
  · rw [outsL_length]; omega
theorem bits_short {M : Nat → ByteArray} {B P Q O : Nat → Int} {ni ng no : Nat} {N : Nat → ByteArray} {D : Nat → Int} {X : Nat → Nat} {n : Nat} {L : List Bool} {err : Nat} (h : InpIs M B P Q O ni ng no N D X n L err) (hni : ni ≤ 600) : L.length ≤ 1000000 := by
  rcases h with ⟨_, rfl, _⟩ | ⟨_, _, rfl, _⟩ | ⟨_, _, k, _, _, ⟨_, _, _, rfl⟩ | ⟨_, rfl, _⟩⟩
  · simp
  · simp
  · simp
  · rw [bitsR_length]; omega

set_option maxRecDepth 100000 in
set_option maxHeartbeats 4000000 in
theorem core (pi pg po pv pe : Option Addr) (ni ng no nv ne ci cg co cv ce : Nat) (M : Nat → ByteArray) (B P Q O : Nat → Int) (V : Nat → Bool) (N : Nat → ByteArray) (D : Nat → Int) (X : Nat → Nat) (w : World) (hm : ni ≤ maxLen) (hi : InsAt w pi ni M B) (hg : PairsAt w pg ng P Q) (ho : NumsAt w po no O)
    (hv : BoolsAt w pv nv V) (he : EnvAt w pe ne N D X) (hX : ∀ i, i < ne → X i < 18446744073709551616) :
    Calls Try.prog 3 #[.agg #[.slice pi ni ci, .slice pg ng cg, .slice po no co], .slice pv nv cv, .slice pe ne ce] w fun e w' => e = .returned (.bool true) ∧ Below w.heap.size w w' := by
  obtain ⟨W1, hW1⟩ : ∃ W1, W1 = w.alloc (.cells #[.slice pi ni ci, .slice pg ng cg, .slice po no co] 26) := ⟨_, rfl⟩
  have hb1 : Below w.heap.size w W1 := by rw [hW1]; exact (Below.refl _ _).alloc (Nat.le_refl _) _
  have c0 : W1.cell? ⟨w.heap.size, 0, none⟩ = some (.slice pi ni ci) := by rw [hW1]; go_simp
  have c1 : W1.cell? ⟨w.heap.size, 1, none⟩ = some (.slice pg ng cg) := by rw [hW1]; go_simp
  have c2 : W1.cell? ⟨w.heap.size, 2, none⟩ = some (.slice po no co) := by rw [hW1]; go_simp
  have hsz : w.heap.size < W1.heap.size := by rw [hW1]; simp
  have HB := Lib.hid hb1
  have HX := Lib.hid (fun (wr : World) (h : Below W1.heap.size W1 wr) => (⟨by rw [h.cell hsz]; exact c0, by rw [h.cell hsz]; exact c1, by rw [h.cell hsz]; exact c2⟩ : wr.cell? ⟨w.heap.size, 0, none⟩ = some (.slice pi ni ci) ∧ wr.cell? ⟨w.heap.size, 1, none⟩ = some (.slice pg ng cg) ∧ wr.cell? ⟨w.heap.size, 2, none⟩ = some (.slice po no co)))
  have HG := Lib.hid (circuitGreat_any pi pg po ni ng no ci cg co M B W1 (hi.below hb1) hm)
  have HGB := Lib.hid (fun (W : World) (h : Below W1.heap.size W1 W) => greatBound_any pe ne ce N D X W (he.below (hb1.trans (h.mono hb1.size))))
  have HW := Lib.hid hW1
  obtain ⟨q, hq⟩ : ∃ q, greatR M ni ng no = q := ⟨_, rfl⟩
  obtain ⟨q2, hq2⟩ : ∃ q, greatB N ne = q := ⟨_, rfl⟩
  rw [hq] at HG
  rw [hq2] at HGB
  rw [hW1] at HG c0
  have HI := Lib.hid (And.intro hi (And.intro hg ho))
  have HVV := Lib.hid hv
  have HEE := Lib.hid he
  have HXX := Lib.hid hX
  clear hb1 c1 c2 hsz hW1 hi hg ho hm hv he hX
  cases q with
  | true =>
    go_enter Try.func3, Try.ntmps3
    go_wp2_with (go_at_call 4; (with_reducible refine HG.out.mono ?_); rintro e w2 ⟨rfl, hb2⟩)
    go_ret
    rw [← HW.out] at hb2
    exact ⟨rfl, HB.out.trans (hb2.mono HB.out.size)⟩
  | false =>
    obtain ⟨x1, x2, x3, x4⟩ := greatR_no hq
    have HC := Lib.hid (⟨x1, x2, x3, x4, HI.out.1, HI.out.2.1, HI.out.2.2⟩ : CirAt w pi pg po ni ng no M B P Q O)
    have hni := x1
    have hno := x3
    clear x1 x2 x3 x4 hq HI
    by_cases hmany : 700 < nv
    · have d0 : decide ((700 : Int) < (nv : Int)) = true := decide_eq_true (by omega)
      clear hmany
      go_enter Try.func3, Try.ntmps3
      go_wp2_with (go_at_call 4; (with_reducible refine HG.out.mono ?_); rintro e w2 ⟨rfl, hb2⟩)
      go_ret
      rw [← HW.out] at hb2
      exact ⟨rfl, HB.out.trans (hb2.mono HB.out.size)⟩
    · have d0 : decide ((700 : Int) < (nv : Int)) = false := decide_eq_false (by omega)
      cases q2 with
      | true =>
        clear hq2
        go_enter Try.func3, Try.ntmps3
        go_wp2_with (first
          | (go_at_call 4; (with_reducible refine HG.out.mono ?_); rintro e w2 ⟨rfl, hb2⟩; rw [← HW.out] at hb2; have B2 := Lib.hid hb2; clear hb2)
          | (go_at_call 5; (with_reducible refine (HGB.out _ B2.out).mono ?_); rintro e w2 ⟨rfl, rfl⟩))
        go_ret
        exact ⟨rfl, HB.out.trans (B2.out.mono HB.out.size)⟩
      | false =>
        obtain ⟨hne, hNs⟩ := greatB_no hq2
        have HNS := Lib.hid hNs
        clear hq2 hNs
        obtain ⟨L1, err1, hL1⟩ := runIs_some M B P Q O ni ng no V nv
        obtain ⟨L2, err2, hL2⟩ := inpIs_some M B P Q O ni ng no N D X ne
        have hnv : nv ≤ 700 := by omega
        have S1 := Lib.hid (outs_short hL1 hno)
        have S2 := Lib.hid (bits_short hL2 hni)
        have HT := Lib.hid (fun (wr : World) (h : Below W1.heap.size W1 wr) => twin_any pi pg po ni ng no ci cg co M B P Q O wr (HC.out.below (HB.out.trans (h.mono HB.out.size))))
        have HK1 := Lib.hid (fun (pi pg po : Option Addr) (ci cg co : Nat) (wr : World) (h : CirAt wr pi pg po ni ng no M B P Q O) (h2 : Below W1.heap.size W1 wr) => run_any pi pg po pv ni ng no nv ci cg co cv M B P Q O V wr h (HVV.out.below (HB.out.trans (h2.mono HB.out.size))) hnv L1 err1 hL1)
        have HF1 := Lib.hid (fun (wr : World) (h2 : Below W1.heap.size W1 wr) => refRun_any pi pg po pv ni ng no nv ci cg co cv M B P Q O V wr (HC.out.below (HB.out.trans (h2.mono HB.out.size))) (HVV.out.below (HB.out.trans (h2.mono HB.out.size))) hnv L1 err1 hL1)
        have HK2 := Lib.hid (fun (pi pg po : Option Addr) (ci cg co : Nat) (wr : World) (h : CirAt wr pi pg po ni ng no M B P Q O) (h2 : Below W1.heap.size W1 wr) => inputs_any pi pg po pe ni ng no ne ci cg co ce M B P Q O N D X wr h (HEE.out.below (HB.out.trans (h2.mono HB.out.size))) hne HNS.out HXX.out L2 err2 hL2)
        have HF2 := Lib.hid (fun (wr : World) (h2 : Below W1.heap.size W1 wr) => refInputs_any pi pg po pe ni ng no ne ci cg co ce M B P Q O N D X wr (HC.out.below (HB.out.trans (h2.mono HB.out.size))) (HEE.out.below (HB.out.trans (h2.mono HB.out.size))) hne HNS.out HXX.out L2 err2 hL2)
        obtain ⟨r, hr⟩ : ∃ r, chkR M B P Q O ni ng no = r := ⟨_, rfl⟩
        have HCk := Lib.hid (fun (pi pg po : Option Addr) (ci cg co : Nat) (wr : World) (h : CirAt wr pi pg po ni ng no M B P Q O) => check_any pi pg po ni ng no ci cg co M B P Q O wr h)
        have HFk := Lib.hid (fun (wr : World) (h2 : Below W1.heap.size W1 wr) => refCheck_any pi pg po ni ng no ci cg co M B P Q O wr (HC.out.below (HB.out.trans (h2.mono HB.out.size))))
        rw [hr] at HCk HFk
        clear hL1 hL2 hr hnv hmany
        go_enter Try.func3, Try.ntmps3
        go_wp2_with (first
          | (go_at_call 4; (with_reducible refine HG.out.mono ?_); rintro e w2 ⟨rfl, hb2⟩; rw [← HW.out] at hb2; obtain ⟨e0, e1, e2⟩ := HX.out _ hb2; have B2 := Lib.hid hb2; clear hb2 c0)
          | (go_at_call 5; (with_reducible refine (HGB.out _ B2.out).mono ?_); rintro e w2' ⟨rfl, rfl⟩)
          | (go_at_call 6; (with_reducible refine (HT.out _ B2.out).mono ?_); rintro e w3 ⟨pi', pg', po', ci', cg', co', rfl, hc3, hb3⟩; obtain ⟨W4, hW4⟩ : ∃ W4, W4 = w3.alloc (.cells #[.slice pi' ni ci', .slice pg' ng cg', .slice po' no co'] 26) := ⟨_, rfl⟩
             have b4 : Below w3.heap.size w3 W4 := by rw [hW4]; exact (Below.refl _ _).alloc (Nat.le_refl _) _
             have f0 : W4.cell? ⟨w3.heap.size, 0, none⟩ = some (.slice pi' ni ci') := by rw [hW4]; clear hW4 e0 e1 e2; go_simp
             have f1 : W4.cell? ⟨w3.heap.size, 1, none⟩ = some (.slice pg' ng cg') := by rw [hW4]; clear hW4 e0 e1 e2; go_simp
             have f2 : W4.cell? ⟨w3.heap.size, 2, none⟩ = some (.slice po' no co') := by rw [hW4]; clear hW4 e0 e1 e2; go_simp
             have hs4 : w3.heap.size < W4.heap.size := by rw [hW4]; simp
             have HY := Lib.hid (fun (wr : World) (h : Below W4.heap.size W4 wr) => (⟨by rw [h.cell hs4]; exact f0, by rw [h.cell hs4]; exact f1, by rw [h.cell hs4]; exact f2⟩ : wr.cell? ⟨w3.heap.size, 0, none⟩ = some (.slice pi' ni ci') ∧ wr.cell? ⟨w3.heap.size, 1, none⟩ = some (.slice pg' ng cg') ∧ wr.cell? ⟨w3.heap.size, 2, none⟩ = some (.slice po' no co')))
             have HB4 := Lib.hid (B2.out.trans ((hb3.trans (b4.mono hb3.size)).mono B2.out.size))
             have HC4 := Lib.hid (hc3.below b4)
             have HW4 := Lib.hid hW4
             clear hc3 hb3 b4 f0 f1 f2 hs4 hW4 e0 e1 e2)
          | (go_at_call 7; rw [← HW4.out]; (with_reducible refine (HK1.out _ _ _ _ _ _ _ HC4.out HB4.out).mono ?_); rintro e w5 ⟨v5, rfl, hl5, hb5⟩; obtain ⟨e0, e1, e2⟩ := HX.out _ (HB4.out.trans (hb5.mono HB4.out.size)); have L5 := Lib.hid hl5; have B5 := Lib.hid hb5; clear hl5 hb5)
          | (go_at_call 8; (with_reducible refine (HF1.out _ (HB4.out.trans (B5.out.mono HB4.out.size))).mono ?_); rintro e w6 ⟨v6, rfl, hl6, hb6⟩; clear e0 e1 e2; have L6 := Lib.hid hl6; have B56 := Lib.hid hb6; have B6 := Lib.hid (B5.out.trans (hb6.mono B5.out.size)); obtain ⟨f0, f1, f2⟩ := HY.out _ B6.out; clear hl6 hb6)
          | (go_at_call 9; (with_reducible refine (HK2.out _ _ _ _ _ _ _ (HC4.out.below B6.out) (HB4.out.trans (B6.out.mono HB4.out.size))).mono ?_); rintro e w7 ⟨v7, rfl, hl7, hb7⟩; clear f0 f1 f2; have L7 := Lib.hid hl7; have B67 := Lib.hid hb7; have B7 := Lib.hid (B6.out.trans (hb7.mono B6.out.size)); obtain ⟨e0, e1, e2⟩ := HX.out _ (HB4.out.trans (B7.out.mono HB4.out.size)); clear hl7 hb7)
          | (go_at_call 10; (with_reducible refine (HF2.out _ (HB4.out.trans (B7.out.mono HB4.out.size))).mono ?_); rintro e w8 ⟨v8, rfl, hl8, hb8⟩; clear e0 e1 e2; have L8 := Lib.hid hl8; have B78 := Lib.hid hb8; have B8 := Lib.hid (B7.out.trans (hb8.mono B7.out.size)); obtain ⟨f0, f1, f2⟩ := HY.out _ B8.out; clear hl8 hb8))
        obtain ⟨e0, e1, e2⟩ := HX.out _ (HB4.out.trans (B8.out.mono HB4.out.size))
        have BR := Lib.hid (fun d os => below_regrown w8 d os)
        have CA := Lib.hid (fun d os => Calls.regrown_of (d := d) (os := os) (w := w8) (HCk.out pi' pg' po' ci' cg' co' _ (HC4.out.below (B8.out.trans ((BR.out d os).mono B8.out.size)))))
        have CB := Lib.hid (fun d os => Calls.regrown_of (d := d) (os := os) (w := w8) (HFk.out _ (HB4.out.trans ((B8.out.trans ((BR.out d os).mono B8.out.size)).mono HB4.out.size))))
        have CS1 := Lib.hid (fun d os => Calls.regrown_of (d := d) (os := os) (w := w8) (sameBools_any _ _ _ v5 v6 L1 ((((L5.out.kept B56.out).kept B67.out).kept B78.out).kept (BR.out d os)) (((L6.out.kept B67.out).kept B78.out).kept (BR.out d os)) S1.out))
        have CS2 := Lib.hid (fun d os => Calls.regrown_of (d := d) (os := os) (w := w8) (sameBools_any _ _ _ v7 v8 L2 ((L7.out.kept B78.out).kept (BR.out d os)) (L8.out.kept (BR.out d os)) S2.out))
        have CS := Lib.hid (fun d os => Calls.regrown_of (d := d) (os := os) (w := w8) (same_any pi' pg' po' pi pg po ni ng no ci' cg' co' ci cg co M B P Q O _ (HC4.out.below (B8.out.trans ((BR.out d os).mono B8.out.size))) (HC.out.below (HB.out.trans ((HB4.out.trans ((B8.out.trans ((BR.out d os).mono B8.out.size)).mono HB4.out.size)).mono HB.out.size)))))
        have K0 := fun d os => cell_regrown e0 d os
        have K1 := fun d os => cell_regrown e1 d os
        have K2 := fun d os => cell_regrown e2 d os
        have K3 := fun d os => cell_regrown f0 d os
        have K4 := fun d os => cell_regrown f1 d os
        have K5 := fun d os => cell_regrown f2 d os
        clear e0 e1 e2 f0 f1 f2
        refine wp_region_quiet_below (by kernel_rfl) (by kernel_rfl) ?_
        repeat (first | go_big_quiet_step (first | (with_reducible exact CA.out _ _) | (with_reducible exact CB.out _ _) | (with_reducible exact CS1.out _ _) | (with_reducible exact CS2.out _ _) | (with_reducible exact CS.out _ _)) | quiet_step (first | (with_reducible exact CA.out _ _) | (with_reducible exact CB.out _ _) | (with_reducible exact CS1.out _ _) | (with_reducible exact CS2.out _ _) | (with_reducible exact CS.out _ _)))
        refine wpQuiet_nil ?_
        intro _ hw'
        obtain ⟨⟨dq, osq⟩, hw''⟩ := hw'
        subst hw''
        go_wp2
        go_ret
        exact ⟨by rfl, HB.out.trans ((HB4.out.trans ((B8.out.trans ((below_regrown w8 dq osq).mono B8.out.size)).mono HB4.out.size)).mono HB.out.size)⟩

theorem walk {H : Type} {enc : TypeId × Value → H} {W : World} {base : Nat} (v0 v1 v2 : Value) {d0 d1 d2 : DataW H} {p0 p1 p2 : List MemPlace} (ok0 : Value.okWide Try.prog W .any base 26 v0) (h0 : DataW.Trod enc Try.prog W 0 (fun _ => true) true 26 v0 d0 p0)
    (ok1 : Value.okWide Try.prog W .any base 27 v1) (h1 : DataW.Trod enc Try.prog W 0 (fun _ => true) true 27 v1 d1 p1) (ok2 : Value.okWide Try.prog W .any base 28 v2) (h2 : DataW.Trod enc Try.prog W 0 (fun _ => true) true 28 v2 d2 p2) (_ : World) :
    Calls Try.prog 3 #[v0, v1, v2] W fun e w' => e = .returned (.bool true) ∧ Below W.heap.size W w' := by
  obtain ⟨pi, pg, po, ni, ng, no, ci, cg, co, M, B, P, Q, O, rfl, hi, _, _, HI, HG, HO⟩ := open_circuit ok0 h0
  obtain ⟨f1, h1⟩ := h1
  obtain ⟨f2, h2⟩ := h2
  obtain ⟨a1, l1, k1, rfl⟩ := Go.WideShapes.okWide_slice Try.underlying27 ok1
  obtain ⟨a2, l2, k2, rfl⟩ := Go.WideShapes.okWide_slice Try.underlying28 ok2
  obtain ⟨pv, nv, cv, V, e1, _, HV⟩ := open_bools h1
  obtain ⟨pe, ne, ce, N, D, X, e2, _, HE, HX⟩ := open_env h2
  obtain ⟨rfl, rfl, rfl⟩ : a1 = pv ∧ l1 = nv ∧ k1 = cv := by simpa [Value.cells] using e1
  obtain ⟨rfl, rfl, rfl⟩ : a2 = pe ∧ l2 = ne ∧ k2 = ce := by simpa [Value.cells] using e2
  exact core pi pg po a1 a2 ni ng no l1 l2 ci cg co k1 k2 M B P Q O V N D X W hi HI HG HO HV HE HX
end Go.Proofs.Ytmbogdimjbhbmaa.blastRuns
