/- Merged texts: AmbiguousSpansWalk. -/
import Derived.Test.YtnjlgllpfbkdoaaGreatDoorGv
import Derived.Test.YtnjlgllpfbkdoaaGreatDoorGaa
namespace Go.Proofs.YtnjlgllpfbkdoaaGreatDoor.ambiguousSpans
open Go.RowKit Go.Instr
set_option linter.unusedVariables false
set_option linter.unusedSimpArgs false
set_option maxRecDepth 100000
set_option warningAsError false in
set_option maxHeartbeats 4000000 in
theorem walk {H : Type} {enc : TypeId × Value → H} {W : World} {base : Nat} (v0 : Value) (a1 a2 a3 : Int) {d0 : DataW H} {p0 : List MemPlace} (ok0 : Value.okWide Tryz.prog W .any base 27 v0) (h0 : DataW.Trod enc Tryz.prog W 0 (fun _ => true) true 27 v0 d0 p0)
    (w1 : (Lit.int .u64 a1).wf = true) (w2 : (Lit.int .i64 a2).wf = true) (w3 : (Lit.int .i64 a3).wf = true) (hL : laidMetH Tryz.prog Rows.ambiguousSpansRow.laid W) :
    Calls Tryz.prog 9 #[v0, .int .u64 a1, .int .i64 a2, .int .i64 a3] W fun e w' => e = .returned (.bool true) ∧ Below W.heap.size W w' := by
  obtain ⟨m, hm⟩ := open_machv ok0 h0
  obtain ⟨fr, rfl, hfr⟩ := u64_of w1
  have hT := amb_shapes W hL
  have hA := amb_alive hL
  clear ok0 h0 w1 w2 w3 hL
  have hm' := hm
  obtain ⟨cs0, rfl, sr, sb, su, si, hcs, h1, h2, h3, hR, hB, hU, hI⟩ := hm
  obtain rfl : cs0 = #[.string m.name, .int .i64 m.word, .int .i64 m.address, sr, sb, su, si] := by cases cs0; simp_all
  obtain ⟨W1, hW1⟩ : ∃ W1, W1 = W.alloc (.cells #[.string m.name, .int .i64 m.word, .int .i64 m.address, sr, sb, su, si] 27) := ⟨_, rfl⟩
  have hb1 : Below W.heap.size W W1 := by rw [hW1]; exact (Below.refl _ _).alloc (Nat.le_refl _) _
  have hl1 : W.heap.size < W1.heap.size := by rw [hW1]; simp
  have hblk1 : W1.heap[W.heap.size]? = some (.cells #[.string m.name, .int .i64 m.word, .int .i64 m.address, sr, sb, su, si] 27) := by rw [hW1]; exact heap_alloc_new _ _
  have HQ := Lib.hid (show ∀ X, Below W1.heap.size W1 X → X.cell? ⟨W.heap.size, 0, none⟩ = some (.string m.name) ∧ X.cell? ⟨W.heap.size, 1, none⟩ = some (.int .i64 m.word) ∧ X.cell? ⟨W.heap.size, 2, none⟩ = some (.int .i64 m.address) ∧ X.cell? ⟨W.heap.size, 3, none⟩ = some sr ∧ X.cell? ⟨W.heap.size, 4, none⟩ = some sb ∧ X.cell? ⟨W.heap.size, 5, none⟩ = some su ∧ X.cell? ⟨W.heap.size, 6, none⟩ = some si from fun X hX => by
    have e1 := (hX.block _ hl1).trans hblk1
    exact ⟨cell_of e1 rfl, cell_of e1 rfl, cell_of e1 rfl, cell_of e1 rfl, cell_of e1 rfl, cell_of e1 rfl, cell_of e1 rfl⟩)
  have HGR := Lib.hid (show ∀ X, Below W1.heap.size W1 X → Below W.heap.size W X from fun X hX => hb1.trans (hX.mono hb1.size))
  have HW1 := Lib.hid hW1
  have hMV : ∀ X, Below W1.heap.size W1 X → MachV X (.agg #[.string m.name, .int .i64 m.word, .int .i64 m.address, sr, sb, su, si]) m := fun X hX => hm'.kept (HGR.out X hX)
  have HAL := Lib.hid ((hA W1 hb1).mono (R' := fun e w' => e = .returned (.bool true) ∧ Below W1.heap.size W1 w') fun e w' h => h)
  have HGT := Lib.hid (show ∀ X, Below W1.heap.size W1 X → Calls Tryz.prog 10 #[.agg #[.string m.name, .int .i64 m.word, .int .i64 m.address, sr, sb, su, si]] X fun e w' => GrE m e ∧ Below W1.heap.size W1 w' from fun X hX => (great8_any X _ m (hMV X hX)).mono fun e w' ⟨g1, g2⟩ => ⟨g1, hX.trans (g2.mono hX.size)⟩)
  rw [hW1] at HAL
  have HHO := Lib.hid (show ∀ (y : Nat) (z : Int), y < 18446744073709551616 → (-9223372036854775808 ≤ z ∧ z ≤ 9223372036854775807) → MachSmall m → ∀ X, Below W1.heap.size W1 X → Calls Tryz.prog 21 #[.agg #[.string m.name, .int .i64 m.word, .int .i64 m.address, sr, sb, su, si], .int .u64 y, .int .i64 z] X fun e w' => ∃ (Al : Option Addr) (cl : Nat), e = .returned (.tuple #[.slice Al (holL m y z).length cl, .int .i64 (holErr m y z)]) ∧ WordsAt w' (.slice Al (holL m y z).length cl) (holL m y z) ∧ Below W1.heap.size W1 w' ∧ Below X.heap.size X w' from fun y z hy hz hs X hX => (holes_any X _ m (hMV X hX) (hT.below (HGR.out X hX)) hs.effs y hy z hz).mono fun e w' ⟨sv, g1, g2, g3⟩ => by
    have g4 := WordsAt.of g2
    obtain ⟨A, c, rfl, _⟩ := id g4
    exact ⟨A, c, g1, g4, hX.trans (g3.mono hX.size), g3⟩)
  have HCK := Lib.hid (show MachSmall m → chkR m = 0 → ∀ X, Below W1.heap.size W1 X → Calls Tryz.prog 27 #[.agg #[.string m.name, .int .i64 m.word, .int .i64 m.address, sr, sb, su, si]] X fun e w' => e = .returned (.int .i64 0) ∧ Below W1.heap.size W1 w' from fun hs hc X hX => (mcheck_any X _ m (hMV X hX) (hT.below (HGR.out X hX)) hs.effs).mono fun e w' ⟨g1, g2⟩ => ⟨by rw [g1, hc], hX.trans (g2.mono hX.size)⟩)
  clear hcs h1 h2 h3 hR hB hU hI hm' hT hA hW1 hb1 hl1 hblk1 hMV
  have quick : (a2 < 0 ∨ a2 > 300 ∨ a3 < 0 ∨ a3 > 300) → Calls Tryz.prog 9 #[.agg #[.string m.name, .int .i64 m.word, .int .i64 m.address, sr, sb, su, si], .int .u64 (fr : Nat), .int .i64 a2, .int .i64 a3] W fun e w' => e = .returned (.bool true) ∧ Below W.heap.size W w' := by
    intro hor
    obtain ⟨q1, hq1⟩ : ∃ z, decide (a2 < 0) = z := ⟨_, rfl⟩
    obtain ⟨q2, hq2⟩ : ∃ z, decide (a2 > 300) = z := ⟨_, rfl⟩
    obtain ⟨q3, hq3⟩ : ∃ z, decide (a3 < 0) = z := ⟨_, rfl⟩
    obtain ⟨q4, hq4⟩ : ∃ z, decide (a3 > 300) = z := ⟨_, rfl⟩
    have HOR := Lib.hid hor
    clear hor
    cases q1 <;> cases q2 <;> cases q3 <;> cases q4 <;> simp only [decide_eq_true_eq, decide_eq_false_iff_not] at hq1 hq2 hq3 hq4
    case false.false.false.false => exact absurd HOR.out (by omega)
    all_goals
      go_enter Tryz.func9, Tryz.ntmps9
      go_wp2_with (first
        | (go_at_call 26; (with_reducible refine HAL.out.mono ?_); rintro e w3 ⟨rfl, hb3⟩; rw [← HW1.out] at hb3; obtain ⟨p0, p1, p2, p3, p4, p5, p6⟩ := HQ.out _ hb3)
        | (go_at_call 10; (with_reducible refine (HGT.out _ (by assumption)).mono ?_); rintro e w4 ⟨⟨g, rfl, hg⟩, hb4⟩; cases g))
      all_goals exact bodyPost_ret (v := .bool true) (by simp [results, Tryz.results9, go_sem]) rfl ⟨rfl, HGR.out _ (by assumption)⟩
  by_cases hrg : (0 ≤ a2 ∧ a2 ≤ 300) ∧ (0 ≤ a3 ∧ a3 ≤ 300)
  rotate_left
  · exact quick (by omega)
  clear quick
  obtain ⟨⟨ha0, ha1⟩, hb0, hb1⟩ := hrg
  obtain ⟨a, rfl⟩ : ∃ a : Nat, a2 = (a : Int) := ⟨a2.toNat, by omega⟩
  obtain ⟨b, rfl⟩ : ∃ b : Nat, a3 = (b : Int) := ⟨a3.toNat, by omega⟩
  have ha : a ≤ 300 := by omega
  have hb : b ≤ 300 := by omega
  clear ha0 ha1 hb0 hb1
  have n0 : ¬ (a : Int) < 0 := by omega
  have n1 : ¬ (a : Int) > 300 := by omega
  have n2 : ¬ (b : Int) < 0 := by omega
  have n3 : ¬ (b : Int) > 300 := by omega
  have n4 : ¬ 300 < a := by omega
  have n5 : ¬ 300 < b := by omega
  have gab : IntKind.i64.wrap ((a : Int) + (b : Int)) = ((a + b : Nat) : Int) := by rw [IntWalk.i64_in _ (by omega)]; omega
  have gua : IntKind.u64.wrap (a : Int) = (a : Int) := by have := wrap_nat a a (by omega); exact this
  have HC1 := Lib.hid (HHO.out fr ((a + b : Nat) : Int) hfr ⟨by omega, by omega⟩)
  have HC2 := Lib.hid (HHO.out fr (a : Int) hfr ⟨by omega, by omega⟩)
  obtain ⟨ab, hab⟩ : ∃ z, a + b = z := ⟨_, rfl⟩
  obtain ⟨ce, hce⟩ : ∃ z, holErr m fr ((ab : Nat) : Int) = z := ⟨_, rfl⟩
  by_cases hk : ce = 0
  · subst hk
    rw [hab] at HC1 gab
    rw [← hab] at hce
    obtain ⟨hck, h32, e1, e2, hsp, l1, l2⟩ := hol_split hce ha hb
    have hfa : IntKind.u64.wrap ((fr : Int) + (a : Int)) = ((fr + a : Nat) : Int) := by have := wrap_nat (fr + a) (fr + a) (by omega); simpa using this
    have HC3 := Lib.hid (HHO.out (fr + a) (b : Int) (by omega) ⟨by omega, by omega⟩)
    have HCC := Lib.hid (fun hs => HCK.out hs hck)
    rw [hab] at hsp hce
    rw [hce, hsp] at HC1
    rw [e1] at HC2
    rw [e2] at HC3
    obtain ⟨L1, hL1⟩ : ∃ z, holL m fr (a : Int) = z := ⟨_, rfl⟩
    obtain ⟨L2, hL2⟩ : ∃ z, holL m (fr + a) (b : Int) = z := ⟨_, rfl⟩
    obtain ⟨fa, hfaa⟩ : ∃ z, fr + a = z := ⟨_, rfl⟩
    rw [hL1] at HC1 HC2 l1
    rw [hL2] at HC1 HC3 l2
    rw [hfaa] at hfa HC3
    obtain ⟨k0, hk0⟩ : ∃ z, (L1 ++ L2).length = z := ⟨_, rfl⟩
    obtain ⟨k1, hk1⟩ : ∃ z, L1.length = z := ⟨_, rfl⟩
    obtain ⟨k2, hk2⟩ : ∃ z, L2.length = z := ⟨_, rfl⟩
    rw [hk0] at HC1
    rw [hk1] at HC2
    rw [hk2] at HC3
    have HK := Lib.hid (show k0 = k1 + k2 ∧ L1.length = k1 ∧ L2.length = k2 ∧ (L1 ++ L2).length = k0 ∧ k1 ≤ 300 ∧ k2 ≤ 300 from ⟨by rw [← hk0, ← hk1, ← hk2, List.length_append], hk1, hk2, hk0, by omega, by omega⟩)
    obtain ⟨i0, hi0, hz0, hz1, hz2⟩ := info_parts u64_info
    have HI0 := Lib.hid hi0
    have HZ0 := Lib.hid hz0
    have HZ1 := Lib.hid hz1
    have HZ2 := Lib.hid hz2
    clear hab hce hck h32 e1 e2 hsp l1 l2 hL1 hL2 hfaa hk0 hk1 hk2 hi0 hz0 hz1 hz2 HHO HCK hfr ha hb
    go_enter Tryz.func9, Tryz.ntmps9
    go_wp2_with (first
      | (go_at_call 26; (with_reducible refine HAL.out.mono ?_); rintro e w3 ⟨rfl, hb3⟩; rw [← HW1.out] at hb3; obtain ⟨p0, p1, p2, p3, p4, p5, p6⟩ := HQ.out _ hb3)
      | (go_at_call 10; (with_reducible refine (HGT.out _ (by assumption)).mono ?_); rintro e w4 ⟨⟨g, rfl, hg⟩, hb4⟩; have HG := Lib.hid hg; clear hg; obtain ⟨q0, q1, q2, q3, q4, q5, q6⟩ := HQ.out _ hb4)
      | (go_at_call 21; (with_reducible refine (HC1.out (HG.out (by first | assumption | simp_all)) _ (by assumption)).mono ?_); rintro e w5 ⟨A5, c5, rfl, hl5, hb5, hx5⟩; have HL5 := Lib.hid hl5; clear hl5; obtain ⟨w50, w51, w52, w53, w54, w55, w56⟩ := HQ.out _ hb5)
      | (go_at_call 21; (with_reducible refine (HC2.out (HG.out (by first | assumption | simp_all)) _ (by assumption)).mono ?_); rintro e w6 ⟨A6, c6, rfl, hl6, hb6, hx6⟩; have HL6 := Lib.hid hl6; clear hl6; obtain ⟨w60, w61, w62, w63, w64, w65, w66⟩ := HQ.out _ hb6)
      | (go_at_call 21; (with_reducible refine (HC3.out (HG.out (by first | assumption | simp_all)) _ (by assumption)).mono ?_); rintro e w7 ⟨A7, c7, rfl, hl7, hb7, hx7⟩; have HL7 := Lib.hid hl7; clear hl7; obtain ⟨w70, w71, w72, w73, w74, w75, w76⟩ := HQ.out _ hb7)
      | (at_builtin; refine Hid.out ?_))
    · exact bodyPost_ret (v := .bool true) (by simp [results, Tryz.results9, go_sem]) rfl ⟨rfl, HGR.out _ (by assumption)⟩
    · refine Lib.hid ?_
      have hg : MachSmall m := HG.out (by first | assumption | simp_all)
      have HB7 := Lib.hid hb7
      have h6 : WordsAt w7 (.slice A6 k1 c6) L1 := HL6.out.below hx7
      have h7 : WordsAt w7 (.slice A7 k2 c7) L2 := HL7.out
      have h5 : WordsAt w7 (.slice A5 k0 c5) (L1 ++ L2) := (HL5.out.below hx6).below hx7
      have hba : Below w7.heap.size w7 (w7.alloc (.cells #[] 28)) := (Below.refl _ _).alloc (Nat.le_refl _) _
      obtain ⟨hk0, hk1, hk2, hk3, hk4, hk5⟩ := HK.out
      refine wpList_append_wsrc (by rfl) (.tmp 94) (.tmp 95) 53 rfl w7.heap.size 28 i0 (.int .u64 0) 1 8 Tryz.underlying53 HI0.out HZ0.out HZ1.out HZ2.out rfl (by decide) _ 0 [] rfl (World.ownsRow_lit w7 #[] 0 (Nat.le_refl _) (Nat.zero_le _) rfl) A6 k1 c6 (fun j => u64V (L1.getD j 0)) rfl (src_words (h6.below hba)) (u64V_one L1) (by unfold maxLen; omega) (by omega) (by simp) ?_
      intro v8 w8 ho8 hg8
      rw [List.nil_append, Nat.zero_add, ← hk1, range_words] at ho8
      have hb8 : Below w7.heap.size w7 w8 := hba.grown hg8 (by simp) (fun r hr => (World.ownsRow.lt (World.ownsRow_lit w7 #[] 0 (Nat.le_refl _) (Nat.zero_le _) rfl (e := 28) (size := 1)) r hr).1)
      have H5 := Lib.hid h5
      have HB7 := Lib.hid hb7
      have h78 := h7.below hb8
      have HP := Lib.hid (And.intro hk0 (And.intro h78 ho8))
      have HB8 := Lib.hid hb8
      have HG2 := Lib.hid hg
      have HL12 := Lib.hid (show ∀ x ∈ L1 ++ L2, x < 18446744073709551616 from words_lt h5)
      clear h5 h6 h7 hx5 hx6 hx7 hba ho8 hg8 hb8 h78 hb7 hb6 hb5 hb4 hb3 HL5 HL6 HL7 HC1 HC2 HC3 hg hk0 hk1 hk2 hk3 hk4 hk5 p0 p1 p2 p3 p4 p5 p6 q0 q1 q2 q3 q4 q5 q6 w50 w51 w52 w53 w54 w55 w56 w60 w61 w62 w63 w64 w65 w66 w70 w71 w72 w73 w74 w75 w76
      go_wp2_with (at_builtin; refine Hid.out ?_)
      refine Lib.hid ?_
      obtain ⟨hk0, hk1, hk2, hk3, hk4, hk5⟩ := HK.out
      refine wpList_append_wsrc (by rfl) (.tmp 96) (.tmp 97) 53 rfl w7.heap.size 28 i0 (.int .u64 0) 1 8 Tryz.underlying53 HI0.out HZ0.out HZ1.out HZ2.out rfl (by decide) _ L1.length (L1.map u64V) rfl HP.out.2.2 A7 k2 c7 (fun j => u64V (L2.getD j 0)) rfl (src_words HP.out.2.1) (u64V_one L2) (by unfold maxLen; omega) (by omega) HB8.out.size ?_
      intro v9 w9 ho9 hg9
      rw [← hk2, range_words, ← List.map_append, ← List.length_append] at ho9
      have hb9 : Below w7.heap.size w7 w9 := HB8.out.grown hg9 HB8.out.size (fun r hr => (World.ownsRow.lt HP.out.2.2 r hr).1)
      have HS := Lib.hid (sameWords_any w9 (.slice A5 k0 c5) v9 (L1 ++ L2) (H5.out.below hb9) (own_words (by simp) ho9 (by rw [hk3]; unfold maxLen; omega) HL12.out) (by rw [hk3]; omega))
      have HB9 := Lib.hid (HB7.out.trans (hb9.mono HB7.out.size))
      clear hk0 hk1 hk2 hk3 hk4 hk5 ho9 hg9 hb9
      go_wp2_with (first
        | (go_at_call 25; (with_reducible refine HS.out.mono ?_); rintro e w10 ⟨rfl, hx10⟩; have hb10 := HB9.out.trans (hx10.mono HB9.out.size); obtain ⟨p0, p1, p2, p3, p4, p5, p6⟩ := HQ.out _ hb10)
        | (go_at_call 27; (with_reducible refine (HCC.out HG2.out _ (by assumption)).mono ?_); rintro e w11 ⟨rfl, hb11⟩))
      exact bodyPost_ret (v := .bool true) (by simp [results, Tryz.results9, go_sem]) rfl ⟨rfl, HGR.out _ (by assumption)⟩
  · rw [hab] at HC1 gab
    rw [hce, hol_nil (by rw [hce]; exact hk)] at HC1
    have g : (ce != 0) = true := by simp [hk]
    obtain ⟨cf, hcf⟩ : ∃ z, holErr m fr (a : Int) = z := ⟨_, rfl⟩
    have HC2' := Lib.hid (show MachSmall m → ∀ X, Below W1.heap.size W1 X → Calls Tryz.prog 21 #[.agg #[.string m.name, .int .i64 m.word, .int .i64 m.address, sr, sb, su, si], .int .u64 (fr : Nat), .int .i64 (a : Nat)] X fun e w' => ∃ (Al : Option Addr) (cl ll : Nat), e = .returned (.tuple #[.slice Al ll cl, .int .i64 cf]) ∧ (cf ≠ 0 → ll = 0) ∧ Below W1.heap.size W1 w' from fun hs X hX => (HC2.out hs X hX).mono fun e w' ⟨Al, cl, g1, g2, g3, _⟩ => ⟨Al, cl, (holL m fr (a : Int)).length, by rw [g1, hcf], fun h => by rw [hol_nil (by rw [hcf]; exact h)]; rfl, g3⟩)
    clear HC2 hab hce hcf HHO HCK hfr ha hb
    by_cases hf : cf = 0
    · subst hf
      go_enter Tryz.func9, Tryz.ntmps9
      go_wp2_with (first
        | (go_at_call 26; (with_reducible refine HAL.out.mono ?_); rintro e w3 ⟨rfl, hb3⟩; rw [← HW1.out] at hb3; obtain ⟨p0, p1, p2, p3, p4, p5, p6⟩ := HQ.out _ hb3)
        | (go_at_call 10; (with_reducible refine (HGT.out _ (by assumption)).mono ?_); rintro e w4 ⟨⟨g, rfl, hg⟩, hb4⟩; have HG := Lib.hid hg; clear hg; obtain ⟨q0, q1, q2, q3, q4, q5, q6⟩ := HQ.out _ hb4)
        | (go_at_call 21; (with_reducible refine (HC1.out (HG.out (by first | assumption | simp_all)) _ (by assumption)).mono ?_); rintro e w5 ⟨A5, c5, rfl, hl5, hb5, hx5⟩; obtain ⟨w50, w51, w52, w53, w54, w55, w56⟩ := HQ.out _ hb5)
        | (go_at_call 21; (with_reducible refine (HC2'.out (HG.out (by first | assumption | simp_all)) _ (by assumption)).mono ?_); rintro e w6 ⟨A6, c6, l6, rfl, hl6, hb6⟩))
      · exact bodyPost_ret (v := .bool true) (by simp [results, Tryz.results9, go_sem]) rfl ⟨rfl, HGR.out _ (by assumption)⟩
      · exact bodyPost_ret (v := .bool true) (by simp [results, Tryz.results9, go_sem]) rfl ⟨rfl, HGR.out _ (by assumption)⟩
    · have gf : (cf == 0) = false := by simp [hf]
      go_enter Tryz.func9, Tryz.ntmps9
      go_wp2_with (first
        | (go_at_call 26; (with_reducible refine HAL.out.mono ?_); rintro e w3 ⟨rfl, hb3⟩; rw [← HW1.out] at hb3; obtain ⟨p0, p1, p2, p3, p4, p5, p6⟩ := HQ.out _ hb3)
        | (go_at_call 10; (with_reducible refine (HGT.out _ (by assumption)).mono ?_); rintro e w4 ⟨⟨g, rfl, hg⟩, hb4⟩; have HG := Lib.hid hg; clear hg; obtain ⟨q0, q1, q2, q3, q4, q5, q6⟩ := HQ.out _ hb4)
        | (go_at_call 21; (with_reducible refine (HC1.out (HG.out (by first | assumption | simp_all)) _ (by assumption)).mono ?_); rintro e w5 ⟨A5, c5, rfl, hl5, hb5, hx5⟩; obtain ⟨w50, w51, w52, w53, w54, w55, w56⟩ := HQ.out _ hb5)
        | (go_at_call 21; (with_reducible refine (HC2'.out (HG.out (by first | assumption | simp_all)) _ (by assumption)).mono ?_); rintro e w6 ⟨A6, c6, l6, rfl, hl6, hb6⟩; obtain rfl := hl6 hf))
      · exact bodyPost_ret (v := .bool true) (by simp [results, Tryz.results9, go_sem]) rfl ⟨rfl, HGR.out _ (by assumption)⟩
      · exact bodyPost_ret (v := .bool true) (by simp [results, Tryz.results9, go_sem]) rfl ⟨rfl, HGR.out _ (by assumption)⟩
end Go.Proofs.YtnjlgllpfbkdoaaGreatDoor.ambiguousSpans
