/- Contract of the reference's Same: two circuits that read alike are the same. -/
import Derived.Test.YtmbogdimjbhbmaaBlastRefMath
namespace Go.Proofs.Ytmbogdimjbhbmaa
open Go.RowKit Go.Sort
set_option linter.unusedVariables false

set_option maxRecDepth 100000 in
set_option maxHeartbeats 1000000 in
theorem same_any (pi pg po pi' pg' po' : Option Addr) (ni ng no ci cg co ci' cg' co' : Nat) (N : Nat → ByteArray) (B P Q O : Nat → Int) (w : World) (hc : CirAt w pi pg po ni ng no N B P Q O) (hc' : CirAt w pi' pg' po' ni ng no N B P Q O) :
    Calls Try.prog 14 #[.agg #[.slice pi ni ci, .slice pg ng cg, .slice po no co], .agg #[.slice pi' ni ci', .slice pg' ng cg', .slice po' no co']] w fun e w' => e = .returned (.bool true) ∧ Below w.heap.size w w' := by
  have hni := hc.hi
  have hng := hc.hg
  have hno := hc.ho
  have HC := Lib.hid hc
  have HC' := Lib.hid hc'
  clear hc hc'
  obtain ⟨W1, hW1⟩ : ∃ W1, W1 = (w.alloc (.cells #[.slice pi ni ci, .slice pg ng cg, .slice po no co] 26)).alloc (.cells #[.slice pi' ni ci', .slice pg' ng cg', .slice po' no co'] 26) := ⟨_, rfl⟩
  have hb1 : Below w.heap.size w W1 := by rw [hW1]; exact ((Below.refl _ _).alloc (Nat.le_refl _) _).alloc (by simp) _
  have c0 : W1.cell? ⟨w.heap.size, 0, none⟩ = some (.slice pi ni ci) := by rw [hW1]; go_simp
  have c1 : W1.cell? ⟨w.heap.size, 1, none⟩ = some (.slice pg ng cg) := by rw [hW1]; go_simp
  have c2 : W1.cell? ⟨w.heap.size, 2, none⟩ = some (.slice po no co) := by rw [hW1]; go_simp
  have c3 : W1.cell? ⟨w.heap.size + 1, 0, none⟩ = some (.slice pi' ni ci') := by rw [hW1]; go_simp
  have c4 : W1.cell? ⟨w.heap.size + 1, 1, none⟩ = some (.slice pg' ng cg') := by rw [hW1]; go_simp
  have c5 : W1.cell? ⟨w.heap.size + 1, 2, none⟩ = some (.slice po' no co') := by rw [hW1]; go_simp
  have HB := Lib.hid hb1
  have HX := Lib.hid (fun (wr : World) (h : Below W1.heap.size W1 wr) => (⟨by rw [h.cell (cell_lt c0)]; exact c0, by rw [h.cell (cell_lt c1)]; exact c1, by rw [h.cell (cell_lt c2)]; exact c2, by rw [h.cell (cell_lt c3)]; exact c3, by rw [h.cell (cell_lt c4)]; exact c4, by rw [h.cell (cell_lt c5)]; exact c5⟩ :
    wr.cell? ⟨w.heap.size, 0, none⟩ = some (.slice pi ni ci) ∧ wr.cell? ⟨w.heap.size, 1, none⟩ = some (.slice pg ng cg) ∧ wr.cell? ⟨w.heap.size, 2, none⟩ = some (.slice po no co) ∧
    wr.cell? ⟨w.heap.size + 1, 0, none⟩ = some (.slice pi' ni ci') ∧ wr.cell? ⟨w.heap.size + 1, 1, none⟩ = some (.slice pg' ng cg') ∧ wr.cell? ⟨w.heap.size + 1, 2, none⟩ = some (.slice po' no co')))
  have HW := Lib.hid hW1
  clear hb1 hW1 c0 c1 c2 c3 c4 c5
  go_enter Try.func14, Try.ntmps14
  go_wp2
  rw [← HW.out]
  clear HW
  go_loopw [5] (fun vi wr => ∃ k : Nat, vi = .int .i64 k ∧ k ≤ ni ∧ Below W1.heap.size W1 wr) (fun vi _ => ni - (intOf vi).toNat)
  case atStart => exact ⟨0, rfl, by omega, Below.refl _ _⟩
  case round =>
    obtain ⟨k, rfl, hk, hb⟩ := hrel
    have HB2 := Lib.hid hb
    clear hb
    obtain ⟨e0, e1, e2, e3, e4, e5⟩ := HX.out _ HB2.out
    by_cases hlt : k < ni
    · obtain ⟨b, o, hp, hbn, a0, a1⟩ := ((HC.out.ins.below HB.out).below HB2.out) k hlt
      obtain ⟨b', o', hp', hbn', a0', a1'⟩ := ((HC'.out.ins.below HB.out).below HB2.out) k hlt
      subst hp
      subst hp'
      have hj0 : (0 : Int) ≤ (k : Int) := Int.natCast_nonneg _
      have hj1 : (k : Int) < (ni : Int) := by omega
      have K0 := fun d os => cell_regrown e0 d os
      have K3 := fun d os => cell_regrown e3 d os
      have k0 := fun d os => cell_regrown a0 d os
      have k1 := fun d os => cell_regrown a1 d os
      have k0' := fun d os => cell_regrown a0' d os
      have k1' := fun d os => cell_regrown a1' d os
      go_wp2_with fail
      refine wp_region_quiet_below (by kernel_rfl) (by kernel_rfl) ?_
      repeat (first | go_big_quiet_step (fail) | quiet_step (fail))
      refine wpQuiet_nil ?_
      intro _ hw'
      obtain ⟨⟨dq, osq⟩, hw''⟩ := hw'
      subst hw''
      go_wp2
      go_roundw
      case rel => exact ⟨k + 1, by first | rfl | go_num | (rw [wrap64_small _ (by omega) (by omega)]; rfl), by omega, HB2.out.trans ((below_regrown _ dq osq).mono HB2.out.size)⟩
      case measure => (try rw [wrap64_small _ (by omega) (by omega)]); simp only [intOf]; omega
    · obtain ⟨ki, hki⟩ : ∃ ki, ki = ni := ⟨_, rfl⟩
      obtain rfl : k = ni := by omega
      subst hki
      go_wp2
      clear e0 e1 e2 e3 e4 e5
      go_loopw [6] (fun vi wr => ∃ k : Nat, vi = .int .i64 k ∧ k ≤ ng ∧ Below W1.heap.size W1 wr) (fun vi _ => ng - (intOf vi).toNat)
      case atStart => exact ⟨0, rfl, by omega, HB2.out⟩
      case round =>
        obtain ⟨k, rfl, hk, hb⟩ := hrel
        have HB3 := Lib.hid hb
        clear hb
        obtain ⟨e0, e1, e2, e3, e4, e5⟩ := HX.out _ HB3.out
        by_cases hlt : k < ng
        · obtain ⟨b, o, hp, hbn, a0, a1⟩ := ((HC.out.gates.below HB.out).below HB3.out) k hlt
          obtain ⟨b', o', hp', hbn', a0', a1'⟩ := ((HC'.out.gates.below HB.out).below HB3.out) k hlt
          subst hp
          subst hp'
          have hj0 : (0 : Int) ≤ (k : Int) := Int.natCast_nonneg _
          have hj1 : (k : Int) < (ng : Int) := by omega
          have K1 := fun d os => cell_regrown e1 d os
          have K4 := fun d os => cell_regrown e4 d os
          have k0 := fun d os => cell_regrown a0 d os
          have k1 := fun d os => cell_regrown a1 d os
          have k0' := fun d os => cell_regrown a0' d os
          have k1' := fun d os => cell_regrown a1' d os
          go_wp2_with fail
          refine wp_region_quiet_below (by kernel_rfl) (by kernel_rfl) ?_
          repeat (first | go_big_quiet_step (fail) | quiet_step (fail))
          refine wpQuiet_nil ?_
          intro _ hw'
          obtain ⟨⟨dq, osq⟩, hw''⟩ := hw'
          subst hw''
          go_wp2
          go_roundw
          case rel => exact ⟨k + 1, by first | rfl | go_num | (rw [wrap64_small _ (by omega) (by omega)]; rfl), by omega, HB3.out.trans ((below_regrown _ dq osq).mono HB3.out.size)⟩
          case measure => (try rw [wrap64_small _ (by omega) (by omega)]); simp only [intOf]; omega
        · obtain ⟨kg, hkg⟩ : ∃ kg, kg = ng := ⟨_, rfl⟩
          obtain rfl : k = ng := by omega
          subst hkg
          go_wp2
          clear e0 e1 e2 e3 e4 e5
          go_loopw [7] (fun vi wr => ∃ k : Nat, vi = .int .i64 k ∧ k ≤ no ∧ Below W1.heap.size W1 wr) (fun vi _ => no - (intOf vi).toNat)
          case atStart => exact ⟨0, rfl, by omega, HB3.out⟩
          case round =>
            obtain ⟨k, rfl, hk, hb⟩ := hrel
            have HB4 := Lib.hid hb
            clear hb
            obtain ⟨e0, e1, e2, e3, e4, e5⟩ := HX.out _ HB4.out
            by_cases hlt : k < no
            · obtain ⟨b, o, hp, hbn, a0⟩ := ((HC.out.outs.below HB.out).below HB4.out) k hlt
              obtain ⟨b', o', hp', hbn', a0'⟩ := ((HC'.out.outs.below HB.out).below HB4.out) k hlt
              subst hp
              subst hp'
              have hj0 : (0 : Int) ≤ (k : Int) := Int.natCast_nonneg _
              have hj1 : (k : Int) < (no : Int) := by omega
              have K2 := fun d os => cell_regrown e2 d os
              have K5 := fun d os => cell_regrown e5 d os
              have k0 := fun d os => cell_regrown a0 d os
              have k0' := fun d os => cell_regrown a0' d os
              go_wp2_with fail
              refine wp_region_quiet_below (by kernel_rfl) (by kernel_rfl) ?_
              repeat (first | go_big_quiet_step (fail) | quiet_step (fail))
              refine wpQuiet_nil ?_
              intro _ hw'
              obtain ⟨⟨dq, osq⟩, hw''⟩ := hw'
              subst hw''
              go_wp2
              go_roundw
              case rel => exact ⟨k + 1, by first | rfl | go_num | (rw [wrap64_small _ (by omega) (by omega)]; rfl), by omega, HB4.out.trans ((below_regrown _ dq osq).mono HB4.out.size)⟩
              case measure => (try rw [wrap64_small _ (by omega) (by omega)]); simp only [intOf]; omega
            · obtain rfl : k = no := by omega
              have HWr := Lib.hid (HB.out.trans (HB4.out.mono HB.out.size))
              go_wp2
              go_ret
              exact ⟨rfl, HWr.out⟩
end Go.Proofs.Ytmbogdimjbhbmaa
