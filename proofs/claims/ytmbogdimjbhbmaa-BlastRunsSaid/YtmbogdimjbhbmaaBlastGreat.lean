/- Contracts of the reference's Great and Same of circuits. -/
import Derived.Test.YtmbogdimjbhbmaaBlastRefMath
namespace Go.Proofs.Ytmbogdimjbhbmaa
open Go.RowKit Go.Sort
set_option linter.unusedVariables false

def shortR (N : Nat → ByteArray) (n : Nat) : Bool := allTo (fun i => !decide (200 < (N i).size)) n
def greatR (N : Nat → ByteArray) (ni ng no : Nat) : Bool := if shortR N (min ni 601) = true then (decide (600 < ni) || decide (100100 < ng) || decide (100 < no)) else true
theorem greatR_no {N : Nat → ByteArray} {ni ng no : Nat} (h : greatR N ni ng no = false) : ni ≤ 600 ∧ ng ≤ 100100 ∧ no ≤ 100 ∧ ∀ i, i < ni → (N i).size ≤ 200 := by
  unfold greatR at h
  by_cases hs : shortR N (min ni 601) = true
  · rw [if_pos hs] at h
    simp only [Bool.or_eq_false_iff, decide_eq_false_iff_not] at h
    refine ⟨by omega, by omega, by omega, fun i hi => ?_⟩
    have := allTo_at _ _ hs i (by omega)
    simp at this
    exact this
  · rw [if_neg hs] at h; cases h

set_option maxRecDepth 100000 in
theorem circuitGreat_any (pi pg po : Option Addr) (ni ng no ci cg co : Nat) (N : Nat → ByteArray) (B : Nat → Int) (w : World) (hi : InsAt w pi ni N B) (hm : ni ≤ maxLen) :
    Calls Try.prog 4 #[.agg #[.slice pi ni ci, .slice pg ng cg, .slice po no co]] w fun e w' => e = .returned (.bool (greatR N ni ng no)) ∧ Below w.heap.size w w' := by
  obtain ⟨r, hr⟩ : ∃ r, r = greatR N ni ng no := ⟨_, rfl⟩
  rw [← hr]
  have HR := Lib.hid hr
  have HI := Lib.hid hi
  clear hi hr
  unfold maxLen at hm
  obtain ⟨W1, hW1⟩ : ∃ W1, W1 = w.alloc (.cells #[.slice pi ni ci, .slice pg ng cg, .slice po no co] 26) := ⟨_, rfl⟩
  have hb1 : Below w.heap.size w W1 := by rw [hW1]; exact (Below.refl _ _).alloc (Nat.le_refl _) _
  have c0 : W1.cell? ⟨w.heap.size, 0, none⟩ = some (.slice pi ni ci) := by rw [hW1]; go_simp
  have c1 : W1.cell? ⟨w.heap.size, 1, none⟩ = some (.slice pg ng cg) := by rw [hW1]; go_simp
  have c2 : W1.cell? ⟨w.heap.size, 2, none⟩ = some (.slice po no co) := by rw [hW1]; go_simp
  have HB := Lib.hid hb1
  have HW := Lib.hid hW1
  clear hb1 hW1
  go_enter Try.func4, Try.ntmps4
  go_wp2
  rw [← HW.out]
  clear HW
  go_loopw [3] (fun vi wr => ∃ k : Nat, vi = .int .i64 k ∧ k ≤ min ni 601 ∧ shortR N k = true ∧ W1 = wr) (fun vi _ => ni - (intOf vi).toNat)
  case atStart => exact ⟨0, rfl, by omega, rfl, rfl⟩
  case round =>
    obtain ⟨k, rfl, hk, hl, rfl⟩ := hrel
    have HL := Lib.hid hl
    clear hl
    by_cases hgo : k < ni ∧ k ≤ 600
    · obtain ⟨hlt, h6⟩ := hgo
      obtain ⟨b, o, hp, hbn, a0, a1⟩ := (HI.out.below HB.out) k hlt
      subst hp
      by_cases hlong : 200 < (N k).size
      · have HQ := Lib.hid (show shortR N (min ni 601) = false from allTo_no _ k (by simp [hlong]) _ (by omega))
        go_wp2
        go_ret
        refine ⟨?_, HB.out⟩
        rw [HR.out]
        unfold greatR
        rw [HQ.out]
        rfl
      · have HQ := Lib.hid (show shortR N (k + 1) = true by show allTo _ (k + 1) = true; rw [allTo_succ, show allTo (fun i => !decide (200 < (N i).size)) k = true from HL.out]; simp; omega)
        go_wp2
        go_roundw
        case rel => exact ⟨k + 1, by first | rfl | go_num | (rw [wrap64_small _ (by omega) (by omega)]; rfl), by omega, HQ.out, by first | rfl | trivial⟩
        case measure => (try rw [wrap64_small _ (by omega) (by omega)]); simp only [intOf]; omega
    · obtain rfl : k = min ni 601 := by omega
      have HG := Lib.hid (show r = (decide (600 < ni) || decide (100100 < ng) || decide (100 < no)) by rw [HR.out]; unfold greatR; rw [if_pos HL.out])
      clear hk
      by_cases hn : ni ≤ 600
      · have e1 : min ni 601 = ni := by omega
        have hd : decide (((min ni 601 : Nat) : Int) < (ni : Int)) = false := by rw [e1]; simp
        have hd2 : decide (min ni 601 < ni) = false := by rw [e1]; simp
        have hg : decide ((600 : Int) < (ni : Int)) = false := by simp; omega
        have HG2 := Lib.hid (show r = (decide (100100 < ng) || decide (100 < no)) by rw [HG.out]; simp [show ¬ 600 < ni by omega])
        generalize min ni 601 = z at *
        by_cases hg2 : 100100 < ng
        · obtain rfl : r = true := by rw [HG2.out]; simp [hg2]
          clear hgo e1
          go_wp2
          go_ret
          exact ⟨rfl, HB.out⟩
        · have hg3 : decide ((100100 : Int) < (ng : Int)) = false := by simp; omega
          have HG3 := Lib.hid (show r = decide ((100 : Int) < (no : Int)) by rw [HG2.out, Bool.eq_iff_iff]; simp; omega)
          clear hgo e1
          go_wp2
          go_ret
          exact ⟨by rw [HG3.out]; rfl, HB.out⟩
      · have e1 : min ni 601 = 601 := by omega
        obtain rfl : r = true := by rw [HG.out]; simp [show 600 < ni by omega]
        have hd : decide (((min ni 601 : Nat) : Int) ≤ (600 : Int)) = false := by rw [e1]; rfl
        have hd2 : decide (min ni 601 ≤ 600) = false := by rw [e1]; rfl
        have hg : (600 : Int) < (ni : Int) := by omega
        have h601 : (min ni 601 : Nat) = 601 := e1
        generalize min ni 601 = z at *
        subst h601
        clear hgo e1 hd hd2
        by_cases h61 : 601 < ni
        · go_wp2
          go_ret
          exact ⟨rfl, HB.out⟩
        · have hd : decide ((601 : Int) < (ni : Int)) = false := by simp; omega
          go_wp2
          go_ret
          exact ⟨rfl, HB.out⟩
end Go.Proofs.Ytmbogdimjbhbmaa
