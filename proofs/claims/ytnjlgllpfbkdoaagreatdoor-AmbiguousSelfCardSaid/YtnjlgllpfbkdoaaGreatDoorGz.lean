/- Merged texts: AmbiguousSelfWalk. -/
import Derived.Test.YtnjlgllpfbkdoaaGreatDoorGv
import Derived.Test.YtnjlgllpfbkdoaaGreatDoorGy
namespace Go.Proofs.YtnjlgllpfbkdoaaGreatDoor.ambiguousSelf
open Go.RowKit Go.Instr
set_option linter.unusedVariables false
set_option linter.unusedSimpArgs false
set_option maxRecDepth 100000
set_option warningAsError false in
set_option maxHeartbeats 4000000 in
theorem walk {H : Type} {enc : TypeId × Value → H} {W : World} {base : Nat} (v0 : Value) (a1 a2 : Int) {d0 : DataW H} {p0 : List MemPlace} (ok0 : Value.okWide Tryz.prog W .any base 27 v0) (h0 : DataW.Trod enc Tryz.prog W 0 (fun _ => true) true 27 v0 d0 p0)
    (w1 : (Lit.int .i64 a1).wf = true) (w2 : (Lit.int .i64 a2).wf = true) (hL : laidMetH Tryz.prog Rows.ambiguousSelfRow.laid W) :
    Calls Tryz.prog 8 #[v0, .int .i64 a1, .int .i64 a2] W fun e w' => e = .returned (.bool true) ∧ Below W.heap.size W w' := by
  obtain ⟨m, hm⟩ := open_machv ok0 h0
  have hz1 := i64_of w1
  have hz2 := i64_of w2
  have hT := amb_shapes W hL
  have hA := amb_alive hL
  clear ok0 h0 w1 w2 hL
  have hm' := hm
  obtain ⟨cs0, rfl, sr, sb, su, si, hcs, h1, h2, h3, hR, hB, hU, hI⟩ := hm
  obtain rfl : cs0 = #[.string m.name, .int .i64 m.word, .int .i64 m.address, sr, sb, su, si] := by cases cs0; simp_all
  obtain ⟨A, c, rfl, _⟩ := id hI
  obtain ⟨n, hn⟩ : ∃ z, m.instrs.length = z := ⟨_, rfl⟩
  rw [hn] at hm'
  rw [hn]
  obtain ⟨W1, hW1⟩ : ∃ W1, W1 = W.alloc (.cells #[.string m.name, .int .i64 m.word, .int .i64 m.address, sr, sb, su, .slice A n c] 27) := ⟨_, rfl⟩
  have hb1 : Below W.heap.size W W1 := by rw [hW1]; exact (Below.refl _ _).alloc (Nat.le_refl _) _
  have hl1 : W.heap.size < W1.heap.size := by rw [hW1]; simp
  have hblk1 : W1.heap[W.heap.size]? = some (.cells #[.string m.name, .int .i64 m.word, .int .i64 m.address, sr, sb, su, .slice A n c] 27) := by rw [hW1]; exact heap_alloc_new _ _
  have HQ := Lib.hid (show ∀ X, Below W1.heap.size W1 X → X.cell? ⟨W.heap.size, 0, none⟩ = some (.string m.name) ∧ X.cell? ⟨W.heap.size, 1, none⟩ = some (.int .i64 m.word) ∧ X.cell? ⟨W.heap.size, 2, none⟩ = some (.int .i64 m.address) ∧ X.cell? ⟨W.heap.size, 3, none⟩ = some sr ∧ X.cell? ⟨W.heap.size, 4, none⟩ = some sb ∧ X.cell? ⟨W.heap.size, 5, none⟩ = some su ∧ X.cell? ⟨W.heap.size, 6, none⟩ = some (.slice A n c) from fun X hX => by
    have e1 := (hX.block _ hl1).trans hblk1
    exact ⟨cell_of e1 rfl, cell_of e1 rfl, cell_of e1 rfl, cell_of e1 rfl, cell_of e1 rfl, cell_of e1 rfl, cell_of e1 rfl⟩)
  have HGR := Lib.hid (show ∀ X, Below W1.heap.size W1 X → Below W.heap.size W X from fun X hX => hb1.trans (hX.mono hb1.size))
  have HW1 := Lib.hid hW1
  have hMV : ∀ X, Below W1.heap.size W1 X → MachV X (.agg #[.string m.name, .int .i64 m.word, .int .i64 m.address, sr, sb, su, .slice A n c]) m := fun X hX => hm'.kept (HGR.out X hX)
  have HAL := Lib.hid ((hA W1 hb1).mono (R' := fun e w' => e = .returned (.bool true) ∧ Below W1.heap.size W1 w') fun e w' h => h)
  have HGT := Lib.hid (show ∀ X, Below W1.heap.size W1 X → Calls Tryz.prog 10 #[.agg #[.string m.name, .int .i64 m.word, .int .i64 m.address, sr, sb, su, .slice A n c]] X fun e w' => GrE m e ∧ Below W1.heap.size W1 w' from fun X hX => (great8_any X _ m (hMV X hX)).mono fun e w' ⟨g1, g2⟩ => ⟨g1, hX.trans (g2.mono hX.size)⟩)
  rw [hW1] at HAL
  have HCM := Lib.hid (show ∀ (y1 y2 : Int), (-9223372036854775808 ≤ y1 ∧ y1 ≤ 9223372036854775807) → (-9223372036854775808 ≤ y2 ∧ y2 ≤ 9223372036854775807) → MachSmall m → ∀ X, Below W1.heap.size W1 X → Calls Tryz.prog 16 #[.agg #[.string m.name, .int .i64 m.word, .int .i64 m.address, sr, sb, su, .slice A n c], .int .i64 y1, .int .i64 y2] X fun e w' => e = .returned (.tuple #[.int .u64 ((comOf m y1 y2).1 : Nat), .bool (comOf m y1 y2).2, .int .i64 (amErr m [y1, y2])]) ∧ Below W1.heap.size W1 w' from fun y1 y2 h1 h2 hs X hX => (commonM_any X _ m (hMV X hX) (hT.below (HGR.out X hX)) hs.effs y1 y2 h1 h2).mono fun e w' ⟨g1, g2⟩ => ⟨g1, hX.trans (g2.mono hX.size)⟩)
  have HI := Lib.hid hI
  rw [hn] at HI
  have HNL := Lib.hid hn
  have HF1 := Lib.hid (Below.refl W1.heap.size W1)
  obtain ⟨ce, hce⟩ : ∃ z, amErr m [a1, a2] = z := ⟨_, rfl⟩
  have hce2 : amErr m [a2, a1] = ce := by rw [amErr_swap, hce]
  by_cases hk : ce = 0
  · subst hk
    have hc0 : chkR m = 0 ∧ insIdx m a1 = true ∧ insIdx m a2 = true := by
      unfold amErr at hce
      by_cases h : chkR m = 0
      · rw [if_pos h] at hce
        refine ⟨h, ?_⟩
        cases hq : insIdx m a1 <;> cases hq2 : insIdx m a2 <;> simp [hq, hq2] at hce ⊢
      · rw [if_neg h] at hce; exact absurd hce h
    obtain ⟨hc0, hidx, hidx2⟩ := hc0
    have hsame : amErr m [a1, a1] = 0 := by unfold amErr; rw [if_pos hc0]; simp [hidx]
    unfold insIdx at hidx hidx2
    simp only [decide_eq_true_eq] at hidx hidx2
    rw [hn] at hidx hidx2
    obtain ⟨k, rfl⟩ : ∃ k : Nat, a1 = (k : Int) := ⟨a1.toNat, by omega⟩
    obtain ⟨k2, rfl⟩ : ∃ k : Nat, a2 = (k : Int) := ⟨a2.toNat, by omega⟩
    obtain ⟨i, hi⟩ : ∃ y, m.instrs[k]? = some y := ⟨_, List.getElem?_eq_getElem (by omega)⟩
    obtain ⟨i2, hi2⟩ : ∃ y, m.instrs[k2]? = some y := ⟨_, List.getElem?_eq_getElem (by omega)⟩
    have hco : comOf m (k : Int) (k2 : Int) = (comR (shapeR m i) (shapeR m i2), comB (shapeR m i) (shapeR m i2)) := by unfold comOf; rw [if_pos hce, Int.toNat_natCast, Int.toNat_natCast, hi, hi2]
    have hss := self_has hm' hc0 (List.mem_of_getElem? hi)
    have hcs2 : comOf m (k : Int) (k : Int) = (i.mtch, true) := by
      unfold comOf
      rw [if_pos hsame, Int.toNat_natCast, hi]
      have hw : comW (shapeR m i) (shapeR m i) = i.mtch := by unfold comW; show i.mtch ||| i.mtch = i.mtch; simp
      have hb : comB (shapeR m i) (shapeR m i) = true := by unfold comB; rw [hw, hss]; rfl
      show (comR _ _, comB _ _) = _
      unfold comR
      rw [hb, hw]
      rfl
    have hge : comB (shapeR m i) (shapeR m i2) = true → i.mtch ≤ comR (shapeR m i) (shapeR m i2) := fun h => by
      unfold comR
      rw [h]
      exact or_ge _ _
    obtain ⟨xr, hxr⟩ : ∃ z, comR (shapeR m i) (shapeR m i2) = z := ⟨_, rfl⟩
    obtain ⟨q, hq⟩ : ∃ z, comB (shapeR m i) (shapeR m i2) = z := ⟨_, rfl⟩
    rw [hxr, hq] at hco
    rw [hq, hxr] at hge
    have hco2 : comOf m (k2 : Int) (k : Int) = (xr, q) := by rw [comOf_swap, hco]
    have HC1 := Lib.hid (HCM.out (k : Int) (k2 : Int) hz1 hz2)
    have HC2 := Lib.hid (HCM.out (k2 : Int) (k : Int) hz2 hz1)
    have HC3 := Lib.hid (HCM.out (k : Int) (k : Int) hz1 hz1)
    rw [hco, hce] at HC1
    rw [hco2, hce2] at HC2
    rw [hcs2, hsame] at HC3
    obtain ⟨A', c', e1, _, _, _, hall⟩ := HI.out
    obtain ⟨b, o, cs, e2, hb, hcl, hcell, hE⟩ := hall k i hi
    obtain ⟨rfl, rfl⟩ : A = A' ∧ c = c' := by cases e1; exact ⟨rfl, rfl⟩
    subst e2
    obtain ⟨so, se, rfl, _⟩ := hE
    have HMC := Lib.hid (show ∀ X, Below W1.heap.size W1 X → X.cell? ⟨b, o + k * 9 + 2, none⟩ = some (.int .u64 (i.mtch : Nat)) from fun X hX => by rw [(HGR.out X hX).cell hb]; exact hcell 2 _ rfl)
    obtain ⟨mt, hmt⟩ : ∃ z, i.mtch = z := ⟨_, rfl⟩
    rw [hmt] at HC3 HMC hge
    have hin : (k : Int) < (n : Int) := by omega
    have hk0 : (0 : Int) ≤ (k : Int) := by omega
    have hkneg : ¬ (k : Int) < 0 := by omega
    have hkn : ¬ (n : Int) ≤ (k : Int) := by omega
    have hkn2 : ¬ n ≤ k := by omega
    have HGE := Lib.hid hge
    clear hcs h1 h2 h3 hR hB hU hI hm' hT hA hW1 hb1 hl1 hblk1 hMV hn hce hce2 hc0 hsame hidx hidx2 hi hi2 hco hco2 hcs2 hss hge hxr hq hall hcell hcl e1 hmt hz1 hz2 hb
    cases q with
    | false =>
      go_enter Tryz.func8, Tryz.ntmps8
      go_wp2_with (first
      | (go_at_call 26; (with_reducible refine HAL.out.mono ?_); rintro e w3 ⟨rfl, hb3⟩; rw [← HW1.out] at hb3; obtain ⟨p0, p1, p2, p3, p4, p5, p6⟩ := HQ.out _ hb3)
      | (go_at_call 10; (with_reducible refine (HGT.out _ (by assumption)).mono ?_); rintro e w4 ⟨⟨g, rfl, hg⟩, hb4⟩; have HG := Lib.hid hg; clear hg; obtain ⟨q0, q1, q2, q3, q4, q5, q6⟩ := HQ.out _ hb4)
      | (go_at_call 16; (with_reducible refine (HC1.out (HG.out (by first | assumption | simp_all)) _ (by assumption)).mono ?_); rintro e w5 ⟨rfl, hb5⟩; obtain ⟨w50, w51, w52, w53, w54, w55, w56⟩ := HQ.out _ hb5)
      | (go_at_call 16; (with_reducible refine (HC2.out (HG.out (by first | assumption | simp_all)) _ (by assumption)).mono ?_); rintro e w6 ⟨rfl, hb6⟩; obtain ⟨w60, w61, w62, w63, w64, w65, w66⟩ := HQ.out _ hb6)
      | (go_at_call 16; (with_reducible refine (HC3.out (HG.out (by first | assumption | simp_all)) _ (by assumption)).mono ?_); rintro e w7 ⟨rfl, hb7⟩; obtain ⟨w70, w71, w72, w73, w74, w75, w76⟩ := HQ.out _ hb7; have z0 := HMC.out _ hb7))
      · exact bodyPost_ret (v := .bool true) (by simp [results, Tryz.results8, go_sem]) rfl ⟨rfl, HGR.out _ (by assumption)⟩
      · exact bodyPost_ret (v := .bool true) (by simp [results, Tryz.results8, go_sem]) rfl ⟨rfl, HGR.out _ (by assumption)⟩
    | true =>
      have hge : mt ≤ xr := HGE.out rfl
      have hge2 : ¬ xr < mt := by omega
      go_enter Tryz.func8, Tryz.ntmps8
      go_wp2_with (first
      | (go_at_call 26; (with_reducible refine HAL.out.mono ?_); rintro e w3 ⟨rfl, hb3⟩; rw [← HW1.out] at hb3; obtain ⟨p0, p1, p2, p3, p4, p5, p6⟩ := HQ.out _ hb3)
      | (go_at_call 10; (with_reducible refine (HGT.out _ (by assumption)).mono ?_); rintro e w4 ⟨⟨g, rfl, hg⟩, hb4⟩; have HG := Lib.hid hg; clear hg; obtain ⟨q0, q1, q2, q3, q4, q5, q6⟩ := HQ.out _ hb4)
      | (go_at_call 16; (with_reducible refine (HC1.out (HG.out (by first | assumption | simp_all)) _ (by assumption)).mono ?_); rintro e w5 ⟨rfl, hb5⟩; obtain ⟨w50, w51, w52, w53, w54, w55, w56⟩ := HQ.out _ hb5)
      | (go_at_call 16; (with_reducible refine (HC2.out (HG.out (by first | assumption | simp_all)) _ (by assumption)).mono ?_); rintro e w6 ⟨rfl, hb6⟩; obtain ⟨w60, w61, w62, w63, w64, w65, w66⟩ := HQ.out _ hb6)
      | (go_at_call 16; (with_reducible refine (HC3.out (HG.out (by first | assumption | simp_all)) _ (by assumption)).mono ?_); rintro e w7 ⟨rfl, hb7⟩; obtain ⟨w70, w71, w72, w73, w74, w75, w76⟩ := HQ.out _ hb7; have z0 := HMC.out _ hb7))
      · exact bodyPost_ret (v := .bool true) (by simp [results, Tryz.results8, go_sem]) rfl ⟨rfl, HGR.out _ (by assumption)⟩
      · exact bodyPost_ret (v := .bool true) (by simp [results, Tryz.results8, go_sem]) rfl ⟨rfl, HGR.out _ (by assumption)⟩
  · have hco : comOf m a1 a2 = (0, false) := by unfold comOf; rw [if_neg (by rw [hce]; exact hk)]
    have hco2 : comOf m a2 a1 = (0, false) := by rw [comOf_swap, hco]
    have HC1 := Lib.hid (HCM.out a1 a2 hz1 hz2)
    have HC2 := Lib.hid (HCM.out a2 a1 hz2 hz1)
    rw [hco, hce] at HC1
    rw [hco2, hce2] at HC2
    have g : (ce != 0) = true := by simp [hk]
    clear hcs h1 h2 h3 hR hB hU hI hm' hT hA hW1 hb1 hl1 hblk1 hMV hn hce hce2 hco hco2 hz1 hz2
    go_enter Tryz.func8, Tryz.ntmps8
    go_wp2_with (first
      | (go_at_call 26; (with_reducible refine HAL.out.mono ?_); rintro e w3 ⟨rfl, hb3⟩; rw [← HW1.out] at hb3; obtain ⟨p0, p1, p2, p3, p4, p5, p6⟩ := HQ.out _ hb3)
      | (go_at_call 10; (with_reducible refine (HGT.out _ (by assumption)).mono ?_); rintro e w4 ⟨⟨g, rfl, hg⟩, hb4⟩; have HG := Lib.hid hg; clear hg; obtain ⟨q0, q1, q2, q3, q4, q5, q6⟩ := HQ.out _ hb4)
      | (go_at_call 16; (with_reducible refine (HC1.out (HG.out (by first | assumption | simp_all)) _ (by assumption)).mono ?_); rintro e w5 ⟨rfl, hb5⟩; obtain ⟨w50, w51, w52, w53, w54, w55, w56⟩ := HQ.out _ hb5)
      | (go_at_call 16; (with_reducible refine (HC2.out (HG.out (by first | assumption | simp_all)) _ (by assumption)).mono ?_); rintro e w6 ⟨rfl, hb6⟩; obtain ⟨w60, w61, w62, w63, w64, w65, w66⟩ := HQ.out _ hb6))
    · exact bodyPost_ret (v := .bool true) (by simp [results, Tryz.results8, go_sem]) rfl ⟨rfl, HGR.out _ (by assumption)⟩
    · exact bodyPost_ret (v := .bool true) (by simp [results, Tryz.results8, go_sem]) rfl ⟨rfl, HGR.out _ (by assumption)⟩
end Go.Proofs.YtnjlgllpfbkdoaaGreatDoor.ambiguousSelf
