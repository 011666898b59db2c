/- Merged texts: AmbiguousAllWalk. -/
import Derived.Test.YtnjlgllpfbkdoaaGreatDoorGv
import Derived.Test.YtnjlgllpfbkdoaaGreatDoorGac
namespace Go.Proofs.YtnjlgllpfbkdoaaGreatDoor.ambiguousAll
open Go.RowKit Go.Instr
set_option linter.unusedVariables false
set_option linter.unusedSimpArgs false
set_option maxRecDepth 100000
set_option warningAsError false in
set_option maxHeartbeats 4000000 in
theorem walk {H : Type} {enc : TypeId × Value → H} {W : World} {base : Nat} (v0 : Value) {d0 : DataW H} {p0 : List MemPlace} (ok0 : Value.okWide Tryz.prog W .any base 27 v0) (h0 : DataW.Trod enc Tryz.prog W 0 (fun _ => true) true 27 v0 d0 p0)
    (hL : laidMetH Tryz.prog Rows.ambiguousAllRow.laid W) :
    Calls Tryz.prog 7 #[v0] W fun e w' => e = .returned (.bool true) ∧ Below W.heap.size W w' := by
  obtain ⟨m, hm⟩ := open_machv ok0 h0
  have hT := amb_shapes W hL
  have hA := amb_alive hL
  clear ok0 h0 hL
  have hm' := hm
  obtain ⟨cs0, rfl, sr, sb, su, si, hcs, h1, h2, h3, hR, hB, hU, hI⟩ := hm
  obtain rfl : cs0 = #[.string m.name, .int .i64 m.word, .int .i64 m.address, sr, sb, su, si] := by cases cs0; simp_all
  obtain ⟨A, c, rfl, _⟩ := id hI
  obtain ⟨n, hn⟩ : ∃ z, m.instrs.length = z := ⟨_, rfl⟩
  obtain ⟨wv, hwv⟩ : ∃ z, m.word = z := ⟨_, rfl⟩
  rw [hn, hwv] at hm'
  rw [hn, hwv]
  have hMM : ∀ X, Below W.heap.size W X → MachV X (.agg #[.string m.name, .int .i64 wv, .int .i64 m.address, sr, sb, su, .slice A n c]) m := fun X hX => hm'.kept hX
  obtain ⟨W1, hW1⟩ : ∃ W1, W1 = W.alloc (.cells #[.string m.name, .int .i64 wv, .int .i64 m.address, sr, sb, su, .slice A n c] 27) := ⟨_, rfl⟩
  have hb1 : Below W.heap.size W W1 := by rw [hW1]; exact (Below.refl _ _).alloc (Nat.le_refl _) _
  have hl1 : W.heap.size < W1.heap.size := by rw [hW1]; simp
  have hblk1 : W1.heap[W.heap.size]? = some (.cells #[.string m.name, .int .i64 wv, .int .i64 m.address, sr, sb, su, .slice A n c] 27) := by rw [hW1]; exact heap_alloc_new _ _
  have HQ := Lib.hid (show ∀ X, Below W1.heap.size W1 X → X.cell? ⟨W.heap.size, 0, none⟩ = some (.string m.name) ∧ X.cell? ⟨W.heap.size, 1, none⟩ = some (.int .i64 wv) ∧ X.cell? ⟨W.heap.size, 2, none⟩ = some (.int .i64 m.address) ∧ X.cell? ⟨W.heap.size, 3, none⟩ = some sr ∧ X.cell? ⟨W.heap.size, 4, none⟩ = some sb ∧ X.cell? ⟨W.heap.size, 5, none⟩ = some su ∧ X.cell? ⟨W.heap.size, 6, none⟩ = some (.slice A n c) from fun X hX => by
    have e1 := (hX.block _ hl1).trans hblk1
    exact ⟨cell_of e1 rfl, cell_of e1 rfl, cell_of e1 rfl, cell_of e1 rfl, cell_of e1 rfl, cell_of e1 rfl, cell_of e1 rfl⟩)
  have HGR := Lib.hid (show ∀ X, Below W1.heap.size W1 X → Below W.heap.size W X from fun X hX => hb1.trans (hX.mono hb1.size))
  have HW1 := Lib.hid hW1
  have hMV : ∀ X, Below W1.heap.size W1 X → MachV X (.agg #[.string m.name, .int .i64 wv, .int .i64 m.address, sr, sb, su, .slice A n c]) m := fun X hX => hm'.kept (HGR.out X hX)
  have HAL := Lib.hid ((hA W1 hb1).mono (R' := fun e w' => e = .returned (.bool true) ∧ Below W1.heap.size W1 w') fun e w' h => h)
  have HGT := Lib.hid (show ∀ X, Below W1.heap.size W1 X → Calls Tryz.prog 10 #[.agg #[.string m.name, .int .i64 wv, .int .i64 m.address, sr, sb, su, .slice A n c]] X fun e w' => GrE m e ∧ Below W1.heap.size W1 w' from fun X hX => (great8_any X _ m (hMV X hX)).mono fun e w' ⟨g1, g2⟩ => ⟨g1, hX.trans (g2.mono hX.size)⟩)
  rw [hW1] at HAL
  have HHO := Lib.hid (show MachSmall m → ∀ X, Below W1.heap.size W1 X → Calls Tryz.prog 21 #[.agg #[.string m.name, .int .i64 wv, .int .i64 m.address, sr, sb, su, .slice A n c], .int .u64 0, .int .i64 256] X fun e w' => ∃ (Al : Option Addr) (cl : Nat), e = .returned (.tuple #[.slice Al (holL m 0 256).length cl, .int .i64 (holErr m 0 256)]) ∧ Below W1.heap.size W1 w' from fun hs X hX => (holes_any X _ m (hMV X hX) (hT.below (HGR.out X hX)) hs.effs 0 (by omega) 256 (by omega)).mono fun e w' ⟨sv, g1, g2, g3⟩ => by
    obtain ⟨A, c, rfl, _⟩ := id g2
    exact ⟨A, c, g1, hX.trans (g3.mono hX.size)⟩)
  have HCA := Lib.hid (show MachSmall m → ∀ X, Below W1.heap.size W1 X → Calls Tryz.prog 18 #[.agg #[.string m.name, .int .i64 wv, .int .i64 m.address, sr, sb, su, .slice A n c]] X fun e w' => ∃ (Al : Option Addr) (cl : Nat), e = .returned (.tuple #[.slice Al (clashL m).length cl, .int .i64 (chkR m)]) ∧ Below W1.heap.size W1 w' from fun hs X hX => (clashes_any X _ m (hMV X hX) (hT.below (HGR.out X hX)) hs.effs).mono fun e w' ⟨sv, g1, g2, g3⟩ => by
    obtain ⟨A, c, rfl, _⟩ := id g2
    exact ⟨A, c, g1, hX.trans (g3.mono hX.size)⟩)
  have HCT := Lib.hid (show MachSmall m → ∀ (k : Nat), k < n → ∀ X, Below W1.heap.size W1 X → Calls Tryz.prog 23 #[.agg #[.string m.name, .int .i64 wv, .int .i64 m.address, sr, sb, su, .slice A n c], .int .i64 k] X fun e w' => e = .returned (.tuple #[.int .u64 (cntR m (k : Int) : Nat), .int .i64 (amErr m [(k : Int)])]) ∧ Below X.heap.size X w' from fun hs k hk X hX => amCount_any X _ m (hMV X hX) (hT.below (HGR.out X hX)) hs.effs k (by have := hs.instrs; omega))
  have HNL := Lib.hid hn
  obtain ⟨ce, hce⟩ : ∃ z, chkR m = z := ⟨_, rfl⟩
  by_cases hw1 : wv = 1
  rotate_left
  · have gw : (wv != 1) = true := by simp [hw1]
    clear hcs h1 h2 h3 hR hB hU hI hm' hT hA hW1 hb1 hl1 hblk1 hMV hMM hn hwv hce HHO HCA HCT
    go_enter Tryz.func7, Tryz.ntmps7
    go_wp2_with (first
      | (go_at_call 26; (with_reducible refine HAL.out.mono ?_); rintro e w3 ⟨rfl, hb3⟩; rw [← HW1.out] at hb3; obtain ⟨p0, p1, p2, p3, p4, p5, p6⟩ := HQ.out _ hb3)
      | (go_at_call 10; (with_reducible refine (HGT.out _ (by assumption)).mono ?_); rintro e w4 ⟨⟨g, rfl, hg⟩, hb4⟩; obtain ⟨q0, q1, q2, q3, q4, q5, q6⟩ := HQ.out _ hb4; cases g))
    all_goals exact bodyPost_ret (v := .bool true) (by simp [results, Tryz.results7, go_sem]) rfl ⟨rfl, HGR.out _ (by assumption)⟩
  subst hw1
  by_cases hk : ce = 0
  · subst hk
    obtain ⟨k1, k2⟩ := all_cover hm' hce hwv
    obtain ⟨sf, hsf⟩ : ∃ z, allS m = z := ⟨_, rfl⟩
    obtain ⟨hl, hhl⟩ : ∃ z, (holL m 0 256).length = z := ⟨_, rfl⟩
    obtain ⟨kl, hkl⟩ : ∃ z, (clashL m).length = z := ⟨_, rfl⟩
    have hs0 : sf 0 = hl := by rw [← hsf, ← hhl]; unfold allS; simp
    have HSL := Lib.hid (show ∀ k, k ≤ n → sf k ≤ 256 * (k + 1) from fun k hk => by rw [← hsf]; exact allS_le hm' hce hwv k (by rw [hn]; exact hk))
    have HCI := Lib.hid (show ∀ k, k < n → cntR m (k : Int) ≤ 256 ∧ sf (k + 1) = sf k + cntR m (k : Int) ∧ amErr m [(k : Int)] = 0 from fun k hk => ⟨all_le hm' hce hwv (by rw [hn]; exact hk), by rw [← hsf]; exact allS_succ m k, by
      unfold amErr
      rw [if_pos hce]
      have : insIdx m (k : Int) = true := by unfold insIdx; simp; omega
      simp [this]⟩)
    have HCV := Lib.hid (show 256 ≤ sf n ∧ (kl = 0 ↔ sf n = 256) from by
      rw [hn, hsf] at k1 k2
      exact ⟨k1, by rw [← k2, ← hkl, List.length_eq_zero_iff]⟩)
    have hhe := all_err hce hwv
    rw [hhl, hhe] at HHO
    rw [hkl, hce] at HCA
    have hl0 : hl ≤ 256 := by have := HSL.out 0 (Nat.zero_le _); omega
    have gul : IntKind.u64.wrap (hl : Int) = (hl : Int) := by have := wrap_nat hl hl (by omega); exact this
    have HS0 := Lib.hid hs0
    clear hcs h1 h2 h3 hR hB hU hI hm' hT hA hW1 hb1 hl1 hblk1 hMV hMM hn hwv hce k1 k2 hsf hhl hkl hhe hs0 hl0
    go_enter Tryz.func7, Tryz.ntmps7
    go_wp2_with (first
      | (go_at_call 26; (with_reducible refine HAL.out.mono ?_); rintro e w3 ⟨rfl, hb3⟩; rw [← HW1.out] at hb3; obtain ⟨p0, p1, p2, p3, p4, p5, p6⟩ := HQ.out _ hb3)
      | (go_at_call 10; (with_reducible refine (HGT.out _ (by assumption)).mono ?_); rintro e w4 ⟨⟨g, rfl, hg⟩, hb4⟩; have HG := Lib.hid hg; clear hg; obtain ⟨q0, q1, q2, q3, q4, q5, q6⟩ := HQ.out _ hb4)
      | (go_at_call 18; (with_reducible refine (HCA.out (HG.out (by first | assumption | simp_all)) _ (by assumption)).mono ?_); rintro e w5 ⟨A5, c5, rfl, hb5⟩; obtain ⟨r0, r1, r2, r3, r4, r5, r6⟩ := HQ.out _ hb5)
      | (go_at_call 21; (with_reducible refine (HHO.out (HG.out (by first | assumption | simp_all)) _ (by assumption)).mono ?_); rintro e w6 ⟨A6, c6, rfl, hb6⟩))
    · exact bodyPost_ret (v := .bool true) (by simp [results, Tryz.results7, go_sem]) rfl ⟨rfl, HGR.out _ hb4⟩
    · have hgf : MachSmall m := HG.out (by first | assumption | simp_all)
      have HGF := Lib.hid hgf
      have HB6 := Lib.hid hb6
      have HNS := Lib.hid (show n ≤ 74 by rw [← HNL.out]; exact hgf.instrs)
      clear hgf p0 p1 p2 p3 p4 p5 p6 q0 q1 q2 q3 q4 q5 q6 r0 r1 r2 r3 r4 r5 r6 HCA HHO HGT HAL hb3 hb4 hb5 hb6 HG
      go_loopw [8, 9] (fun va vi wr => ∃ i : Nat, vi = .int .i64 i ∧ va = .int .u64 (sf i : Nat) ∧ i ≤ n ∧ Hid (Below w6.heap.size w6 wr)) (fun _ vi _ => n - (intOf vi).toNat)
      case atStart => exact ⟨0, rfl, by rw [HS0.out], Nat.zero_le _, Lib.hid (Below.refl _ _)⟩
      case round =>
        obtain ⟨i, rfl, rfl, hi, HJ⟩ := hrel
        have hbw := HB6.out.trans (HJ.out.mono HB6.out.size)
        obtain ⟨q0, q1, q2, q3, q4, q5, q6⟩ := HQ.out _ hbw
        by_cases hlt : i < n
        · obtain ⟨k1, k2, k3⟩ := HCI.out i hlt
          have hsl := HSL.out (i + 1) hlt
          have hns := HNS.out
          have hcl := HCT.out HGF.out i hlt
          rw [k3] at hcl
          obtain ⟨ck, hck⟩ : ∃ z, cntR m (i : Int) = z := ⟨_, rfl⟩
          obtain ⟨s0, hs0⟩ : ∃ z, sf i = z := ⟨_, rfl⟩
          obtain ⟨s1, hs1⟩ : ∃ z, sf (i + 1) = z := ⟨_, rfl⟩
          rw [hck] at hcl k1 k2
          rw [hs0, hs1] at k2
          rw [hs1] at hsl
          have g0 : ¬ (256 : Nat) < ck := by omega
          have g1 : ¬ (256 : Int) < (ck : Int) := by omega
          have hin : (i : Int) < (n : Int) := by omega
          have hadd : IntKind.u64.wrap ((s0 : Int) + (ck : Int)) = ((s1 : Nat) : Int) := by
            have := wrap_nat s1 s1 (by omega)
            rw [← this]; congr 1; omega
          have HCL := Lib.hid (show ∀ X, Below w6.heap.size w6 X → Calls Tryz.prog 23 #[.agg #[.string m.name, .int .i64 1, .int .i64 m.address, sr, sb, su, .slice A n c], .int .i64 i] X fun e w' => e = .returned (.tuple #[.int .u64 (ck : Nat), .int .i64 0]) ∧ Below w6.heap.size w6 w' from fun X hX =>
            (hcl X (HB6.out.trans (hX.mono HB6.out.size))).mono fun e w' ⟨g1, g2⟩ => ⟨g1, hX.trans (g2.mono hX.size)⟩)
          have HLT := Lib.hid hlt
          have HS1 := Lib.hid hs1
          have hbJ := HJ.out
          rw [hs0]
          clear k1 k2 k3 hsl hcl hck hs0 hs1 HJ
          go_wp2_with (go_at_call 23; (with_reducible refine (HCL.out _ (by assumption)).mono ?_); rintro e w7 ⟨rfl, hb7⟩)
          go_roundw
          case rel => exact ⟨i + 1, by first | rfl | go_num | (congr 1), by rw [HS1.out], by have := HLT.out; omega, Lib.hid hb7⟩
          case measure => simp only [intOf]; have := HLT.out; omega
        · obtain rfl : i = n := by omega
          have HBW := Lib.hid hbw
          obtain ⟨k1, k2⟩ := HCV.out
          obtain ⟨s0, hs0⟩ : ∃ z, sf i = z := ⟨_, rfl⟩
          rw [hs0] at k1 k2 ⊢
          have hin : ¬ (i : Int) < (i : Int) := by omega
          clear hbw HJ hs0 HCI HSL HCV HS0
          by_cases h256 : s0 = 256
          · subst h256
            obtain rfl := k2.2 rfl
            clear k1 k2
            go_wp2
            exact bodyPost_ret (v := .bool true) (by simp [results, Tryz.results7, go_sem]) rfl ⟨rfl, HGR.out _ HBW.out⟩
          · have hkl : ¬ kl = 0 := fun e => h256 (k2.1 e)
            have hkl2 : ¬ (kl : Int) = 0 := by omega
            have h2562 : ¬ (s0 : Int) = 256 := by omega
            have hge : (256 : Int) ≤ (s0 : Int) := by omega
            have hge2 : ¬ (s0 : Int) < 256 := by omega
            clear k2
            go_wp2
            · exact bodyPost_ret (v := .bool true) (by simp [results, Tryz.results7, go_sem]) rfl ⟨rfl, HGR.out _ HBW.out⟩
            · rename_i hne
              exact absurd (by rw [beq_false_of_ne hkl2, beq_false_of_ne h2562]) hne
  · have hhe : holErr m 0 256 = ce := by unfold holErr; rw [if_neg (by rw [hce]; exact hk), hce]
    have hhl : holL m 0 256 = [] := by unfold holL; rw [if_neg (by rw [hhe]; exact hk)]
    have g : (ce != 0) = true := by simp [hk]
    rw [hhe, hhl] at HHO
    rw [hce] at HCA
    clear hcs h1 h2 h3 hR hB hU hI hm' hT hA hW1 hb1 hl1 hblk1 hMV hMM hn hwv hce hhe hhl HCT
    go_enter Tryz.func7, Tryz.ntmps7
    go_wp2_with (first
      | (go_at_call 26; (with_reducible refine HAL.out.mono ?_); rintro e w3 ⟨rfl, hb3⟩; rw [← HW1.out] at hb3; obtain ⟨p0, p1, p2, p3, p4, p5, p6⟩ := HQ.out _ hb3)
      | (go_at_call 10; (with_reducible refine (HGT.out _ (by assumption)).mono ?_); rintro e w4 ⟨⟨g, rfl, hg⟩, hb4⟩; have HG := Lib.hid hg; clear hg; obtain ⟨q0, q1, q2, q3, q4, q5, q6⟩ := HQ.out _ hb4)
      | (go_at_call 18; (with_reducible refine (HCA.out (HG.out (by first | assumption | simp_all)) _ (by assumption)).mono ?_); rintro e w5 ⟨A5, c5, rfl, hb5⟩; obtain ⟨r0, r1, r2, r3, r4, r5, r6⟩ := HQ.out _ hb5)
      | (go_at_call 21; (with_reducible refine (HHO.out (HG.out (by first | assumption | simp_all)) _ (by assumption)).mono ?_); rintro e w6 ⟨A6, c6, rfl, hb6⟩))
    · exact bodyPost_ret (v := .bool true) (by simp [results, Tryz.results7, go_sem]) rfl ⟨rfl, HGR.out _ (by assumption)⟩
    · exact bodyPost_ret (v := .bool true) (by simp [results, Tryz.results7, go_sem]) rfl ⟨rfl, HGR.out _ (by assumption)⟩
end Go.Proofs.YtnjlgllpfbkdoaaGreatDoor.ambiguousAll
