/- Merged texts: AmbCommonM, AmbSelfMath. -/
import Derived.Test.YtnjlgllpfbkdoaaGreatDoorGs
import Derived.Test.YtnjlgllpfbkdoaaGreatDoorGt
import Derived.Test.YtnjlgllpfbkdoaaGreatDoorGu
import Derived.Test.YtnjlgllpfbkdoaaGreatDoorGp
namespace Go.Proofs.YtnjlgllpfbkdoaaGreatDoor
open Go.RowKit Go.Instr
set_option linter.unusedVariables false
set_option linter.unusedSimpArgs false
set_option maxRecDepth 100000

noncomputable def comOf (m : Mach) (z1 z2 : Int) : Nat × Bool := if amErr m [z1, z2] = 0 then (match m.instrs[z1.toNat]?, m.instrs[z2.toNat]? with | some a, some b => (comR (shapeR m a) (shapeR m b), comB (shapeR m a) (shapeR m b)) | _, _ => (0, false)) else (0, false)
theorem rows_two' {w : World} {k : Nat} {a b : Int} {T : Nat} (h : w.heap[k]? = some (.cells #[.int .i64 a, .int .i64 b] T)) (ha : -9223372036854775808 ≤ a ∧ a ≤ 9223372036854775807) (hb : -9223372036854775808 ≤ b ∧ b ≤ 9223372036854775807) : RowsAt 1 intE w (.slice (some ⟨k, 0, none⟩) 2 2) [a, b] := rows_two h ha hb
theorem ins_mtch {w : World} {v : Value} {m : Mach} (hm : MachV w v m) (h : chkR m = 0) {i : MIns} (hi : i ∈ m.instrs) : i.mtch < 2 ^ (8 * m.word).toNat := by
  obtain ⟨_, _, h3, h4, _⟩ := ins_good h hi
  obtain ⟨cs0, _, sr, sb, su, si, _, _, _, _, _, _, _, hI⟩ := hm
  obtain ⟨k, hk⟩ := List.getElem?_of_mem hi
  obtain ⟨_, _, _, _, _, _, hall⟩ := hI
  obtain ⟨_, _, _, _, _, _, _, hE⟩ := hall k i hk
  obtain ⟨_, _, _, _, e1, e2, _⟩ := hE
  exact mtch_lt h3 e1 e2 h4
set_option warningAsError false in
set_option maxHeartbeats 4000000 in
theorem commonM_any (w : World) (v : Value) (m : Mach) (hm : MachV w v m) (hT : ShapesAt w) (hef : ∀ x ∈ m.instrs, ∀ f ∈ x.effs, EffOk f) (z1 z2 : Int) (hz1 : -9223372036854775808 ≤ z1 ∧ z1 ≤ 9223372036854775807) (hz2 : -9223372036854775808 ≤ z2 ∧ z2 ≤ 9223372036854775807) :
    Calls Tryz.prog 16 #[v, .int .i64 z1, .int .i64 z2] w fun e w' => e = .returned (.tuple #[.int .u64 ((comOf m z1 z2).1 : Nat), .bool (comOf m z1 z2).2, .int .i64 (amErr m [z1, z2])]) ∧ Below w.heap.size w w' := by
  have hm' := hm
  obtain ⟨cs0, rfl, sr, sb, su, si, hcs, h1, h2, h3, hR, hB, hU, hI⟩ := hm
  obtain rfl : cs0 = #[.string m.name, .int .i64 m.word, .int .i64 m.address, sr, sb, su, si] := by cases cs0; simp_all
  obtain ⟨A, c, rfl, _⟩ := id hI
  obtain ⟨n, hn⟩ : ∃ z, m.instrs.length = z := ⟨_, rfl⟩
  have HI := Lib.hid hI
  have HN := Lib.hid hn
  rw [hn] at hm' HI
  rw [hn]
  obtain ⟨W1, hW1⟩ : ∃ W1, W1 = w.alloc (.cells #[.string m.name, .int .i64 m.word, .int .i64 m.address, sr, sb, su, .slice A n c] 27) := ⟨_, rfl⟩
  have hb1 : Below w.heap.size w W1 := by rw [hW1]; exact (Below.refl _ _).alloc (Nat.le_refl _) _
  have hl1 : w.heap.size < W1.heap.size := by rw [hW1]; simp
  have hs1 : W1.heap.size = w.heap.size + 1 := by rw [hW1]; simp
  have hblk1 : W1.heap[w.heap.size]? = some (.cells #[.string m.name, .int .i64 m.word, .int .i64 m.address, sr, sb, su, .slice A n c] 27) := by rw [hW1]; exact heap_alloc_new _ _
  obtain ⟨W2, hW2⟩ : ∃ W2, W2 = W1.alloc (.cells #[.int .i64 z1, .int .i64 z2] 3) := ⟨_, rfl⟩
  have hb2 : Below W1.heap.size W1 W2 := by rw [hW2]; exact (Below.refl _ _).alloc (Nat.le_refl _) _
  have hblk2 : W2.heap[w.heap.size + 1]? = some (.cells #[.int .i64 z1, .int .i64 z2] 3) := by rw [hW2, ← hs1]; exact heap_alloc_new _ _
  have hw2 : Below w.heap.size w W2 := hb1.trans (hb2.mono hb1.size)
  have HQ := Lib.hid (show ∀ X, Below W1.heap.size W1 X → X.cell? ⟨w.heap.size, 0, none⟩ = some (.string m.name) ∧ X.cell? ⟨w.heap.size, 1, none⟩ = some (.int .i64 m.word) ∧ X.cell? ⟨w.heap.size, 2, none⟩ = some (.int .i64 m.address) ∧ X.cell? ⟨w.heap.size, 3, none⟩ = some sr ∧ X.cell? ⟨w.heap.size, 4, none⟩ = some sb ∧ X.cell? ⟨w.heap.size, 5, none⟩ = some su ∧ X.cell? ⟨w.heap.size, 6, none⟩ = some (.slice A n c) from fun X hX => by
    have e1 := (hX.block _ hl1).trans hblk1
    exact ⟨cell_of e1 rfl, cell_of e1 rfl, cell_of e1 rfl, cell_of e1 rfl, cell_of e1 rfl, cell_of e1 rfl, cell_of e1 rfl⟩)
  have HGR := Lib.hid (show ∀ X, Below W1.heap.size W1 X → Below w.heap.size w X from fun X hX => hb1.trans (hX.mono hb1.size))
  obtain ⟨ce, hce⟩ : ∃ y, amErr m [z1, z2] = y := ⟨_, rfl⟩
  have HCI := Lib.hid ((amCheck_any W2 (.agg #[.string m.name, .int .i64 m.word, .int .i64 m.address, sr, sb, su, .slice A n c]) m (hm'.kept hw2) (hT.below hw2) hef _ [z1, z2] (rows_two hblk2 hz1 hz2) (by simp)).mono (R' := fun e w' => e = .returned (.int .i64 ce) ∧ Below W1.heap.size W1 w') fun e w' ⟨h1, h2⟩ => ⟨by rw [h1, hce], hb2.trans (h2.mono hb2.size)⟩)
  have hMV : ∀ X, Below W1.heap.size W1 X → MachV X (.agg #[.string m.name, .int .i64 m.word, .int .i64 m.address, sr, sb, su, .slice A n c]) m := fun X hX => hm'.kept (HGR.out X hX)
  rw [hW2, hW1] at HCI
  have HW1 := Lib.hid hW1
  have HCE := Lib.hid hce
  by_cases hk : ce = 0
  · subst hk
    have hc0 : chkR m = 0 ∧ insIdx m z1 = true ∧ insIdx m z2 = true := by
      unfold amErr at hce
      by_cases h : chkR m = 0
      · rw [if_pos h] at hce
        refine ⟨h, ?_⟩
        cases hq : insIdx m z1 <;> cases hq2 : insIdx m z2 <;> simp [hq, hq2] at hce ⊢
      · rw [if_neg h] at hce; exact absurd hce h
    obtain ⟨hc0, hidx, hidx2⟩ := hc0
    unfold insIdx at hidx hidx2
    simp only [decide_eq_true_eq] at hidx hidx2
    rw [hn] at hidx hidx2
    obtain ⟨k, rfl⟩ : ∃ k : Nat, z1 = (k : Int) := ⟨z1.toNat, by omega⟩
    obtain ⟨k2, rfl⟩ : ∃ k : Nat, z2 = (k : Int) := ⟨z2.toNat, by omega⟩
    have hkn : (k : Int) < (n : Int) := hidx.2
    have hkn2 : (k2 : Int) < (n : Int) := hidx2.2
    obtain ⟨i, hi⟩ : ∃ y, m.instrs[k]? = some y := ⟨_, List.getElem?_eq_getElem (by omega)⟩
    obtain ⟨i2, hi2⟩ : ∃ y, m.instrs[k2]? = some y := ⟨_, List.getElem?_eq_getElem (by omega)⟩
    have him := List.mem_of_getElem? hi
    have him2 := List.mem_of_getElem? hi2
    have hm1 := ins_mtch hm' hc0 him
    have hm2 := ins_mtch hm' hc0 him2
    obtain ⟨s, hs⟩ : ∃ y, shapeR m i = y := ⟨_, rfl⟩
    obtain ⟨s2, hs2⟩ : ∃ y, shapeR m i2 = y := ⟨_, rfl⟩
    have hcom : comOf m (k : Int) (k2 : Int) = (comR s s2, comB s s2) := by unfold comOf; rw [if_pos hce, Int.toNat_natCast, Int.toNat_natCast, hi, hi2, ← hs, ← hs2]
    obtain ⟨A', c', e1, _, _, _, hall⟩ := HI.out
    obtain ⟨b, o, cs, e2, hb, hcl, hcell, hE⟩ := hall k i hi
    obtain ⟨b', o', cs2, e2', hb', hcl', hcell2, hE2⟩ := hall k2 i2 hi2
    obtain ⟨rfl, rfl⟩ : A = A' ∧ c = c' := by cases e1; exact ⟨rfl, rfl⟩
    rw [e2] at e2'
    obtain ⟨rfl, rfl⟩ : b = b' ∧ o = o' := by cases e2'; exact ⟨rfl, rfl⟩
    subst e2
    have hE0 := hE
    have hE02 := hE2
    obtain ⟨so, se, rfl, _⟩ := hE
    obtain ⟨so2, se2, rfl, _⟩ := hE2
    have hIV : ∀ X, Below W1.heap.size W1 X → InsV X (.agg #[.string i.name, .int .u64 (i.mask : Nat), .int .u64 (i.mtch : Nat), so, se, .int .i64 i.unit, .int .i64 i.busy, .int .i64 i.lat, .int .i64 i.slots]) i := fun X hX => ⟨_, rfl, hE0.kept (HGR.out X hX)⟩
    have hIV2 : ∀ X, Below W1.heap.size W1 X → InsV X (.agg #[.string i2.name, .int .u64 (i2.mask : Nat), .int .u64 (i2.mtch : Nat), so2, se2, .int .i64 i2.unit, .int .i64 i2.busy, .int .i64 i2.lat, .int .i64 i2.slots]) i2 := fun X hX => ⟨_, rfl, hE02.kept (HGR.out X hX)⟩
    have HS := Lib.hid (show ∀ X, Below W1.heap.size W1 X → X.cell? ⟨w.heap.size, 0, none⟩ = some (.string m.name) ∧ X.cell? ⟨w.heap.size, 1, none⟩ = some (.int .i64 m.word) ∧ X.cell? ⟨w.heap.size, 2, none⟩ = some (.int .i64 m.address) ∧ X.cell? ⟨w.heap.size, 3, none⟩ = some (sr) ∧ X.cell? ⟨w.heap.size, 4, none⟩ = some (sb) ∧ X.cell? ⟨w.heap.size, 5, none⟩ = some (su) ∧ X.cell? ⟨w.heap.size, 6, none⟩ = some (.slice (some ⟨b, o, none⟩) n c) ∧ X.cell? ⟨b, o + k * 9, none⟩ = some (.string i.name) ∧ X.cell? ⟨b, o + k * 9 + 1, none⟩ = some (.int .u64 (i.mask : Nat)) ∧ X.cell? ⟨b, o + k * 9 + 2, none⟩ = some (.int .u64 (i.mtch : Nat)) ∧ X.cell? ⟨b, o + k * 9 + 3, none⟩ = some (so) ∧ X.cell? ⟨b, o + k * 9 + 4, none⟩ = some (se) ∧ X.cell? ⟨b, o + k * 9 + 5, none⟩ = some (.int .i64 i.unit) ∧ X.cell? ⟨b, o + k * 9 + 6, none⟩ = some (.int .i64 i.busy) ∧ X.cell? ⟨b, o + k * 9 + 7, none⟩ = some (.int .i64 i.lat) ∧ X.cell? ⟨b, o + k * 9 + 8, none⟩ = some (.int .i64 i.slots) ∧ X.cell? ⟨b, o + k2 * 9, none⟩ = some (.string i2.name) ∧ X.cell? ⟨b, o + k2 * 9 + 1, none⟩ = some (.int .u64 (i2.mask : Nat)) ∧ X.cell? ⟨b, o + k2 * 9 + 2, none⟩ = some (.int .u64 (i2.mtch : Nat)) ∧ X.cell? ⟨b, o + k2 * 9 + 3, none⟩ = some (so2) ∧ X.cell? ⟨b, o + k2 * 9 + 4, none⟩ = some (se2) ∧ X.cell? ⟨b, o + k2 * 9 + 5, none⟩ = some (.int .i64 i2.unit) ∧ X.cell? ⟨b, o + k2 * 9 + 6, none⟩ = some (.int .i64 i2.busy) ∧ X.cell? ⟨b, o + k2 * 9 + 7, none⟩ = some (.int .i64 i2.lat) ∧ X.cell? ⟨b, o + k2 * 9 + 8, none⟩ = some (.int .i64 i2.slots) from fun X hX => by
      obtain ⟨q0, q1, q2, q3, q4, q5, q6⟩ := HQ.out X hX
      have hd : ∀ j u, ([.string i.name, .int .u64 (i.mask : Nat), .int .u64 (i.mtch : Nat), so, se, .int .i64 i.unit, .int .i64 i.busy, .int .i64 i.lat, .int .i64 i.slots] : List Value)[j]? = some u → X.cell? ⟨b, o + k * 9 + j, none⟩ = some u := fun j u hj => by rw [(HGR.out X hX).cell hb]; exact hcell j u hj
      have hd2 : ∀ j u, ([.string i2.name, .int .u64 (i2.mask : Nat), .int .u64 (i2.mtch : Nat), so2, se2, .int .i64 i2.unit, .int .i64 i2.busy, .int .i64 i2.lat, .int .i64 i2.slots] : List Value)[j]? = some u → X.cell? ⟨b, o + k2 * 9 + j, none⟩ = some u := fun j u hj => by rw [(HGR.out X hX).cell hb]; exact hcell2 j u hj
      exact ⟨q0, q1, q2, q3, q4, q5, q6, by simpa using hd 0 _ rfl, hd 1 _ rfl, hd 2 _ rfl, hd 3 _ rfl, hd 4 _ rfl, hd 5 _ rfl, hd 6 _ rfl, hd 7 _ rfl, hd 8 _ rfl, by simpa using hd2 0 _ rfl, hd2 1 _ rfl, hd2 2 _ rfl, hd2 3 _ rfl, hd2 4 _ rfl, hd2 5 _ rfl, hd2 6 _ rfl, hd2 7 _ rfl, hd2 8 _ rfl⟩)
    have HSO := Lib.hid (show ∀ X, Below W1.heap.size W1 X → Calls Tryz.prog 32 #[.agg #[.string m.name, .int .i64 m.word, .int .i64 m.address, sr, sb, su, .slice (some ⟨b, o, none⟩) n c], .agg #[.string i.name, .int .u64 (i.mask : Nat), .int .u64 (i.mtch : Nat), so, se, .int .i64 i.unit, .int .i64 i.busy, .int .i64 i.lat, .int .i64 i.slots]] X fun e w' => ∃ sv, e = .returned sv ∧ ShpV w' sv s ∧ Below W1.heap.size W1 w' from fun X hX => (shapeOf_any X _ _ m (hMV X hX) i (hIV X hX) (insOk_of hc0 him)).mono fun e w' ⟨sv, h1, h2, h3⟩ => ⟨sv, h1, hs ▸ h2, hX.trans (h3.mono hX.size)⟩)
    have HSO2 := Lib.hid (show ∀ sa X, Below W1.heap.size W1 X → ShpV X sa s → Calls Tryz.prog 32 #[.agg #[.string m.name, .int .i64 m.word, .int .i64 m.address, sr, sb, su, .slice (some ⟨b, o, none⟩) n c], .agg #[.string i2.name, .int .u64 (i2.mask : Nat), .int .u64 (i2.mtch : Nat), so2, se2, .int .i64 i2.unit, .int .i64 i2.busy, .int .i64 i2.lat, .int .i64 i2.slots]] X fun e w' => ∃ sv, e = .returned sv ∧ ShpV w' sv s2 ∧ ShpV w' sa s ∧ Below W1.heap.size W1 w' from fun sa X hX hsa => (shapeOf_any X _ _ m (hMV X hX) i2 (hIV2 X hX) (insOk_of hc0 him2)).mono fun e w' ⟨sv, h1, h2, h3⟩ => ⟨sv, h1, hs2 ▸ h2, hsa.kept h3, hX.trans (h3.mono hX.size)⟩)
    have hsz : s.size = 8 * m.word ∧ s2.size = 8 * m.word := by rw [← hs, ← hs2]; exact ⟨rfl, rfl⟩
    have hor : comW s s2 < 2 ^ (8 * m.word).toNat := by rw [← hs, ← hs2]; exact Nat.or_lt_two_pow hm1 hm2
    have HCC := Lib.hid (show ∀ sa sb X, Below W1.heap.size W1 X → ShpV X sa s → ShpV X sb s2 → Calls Tryz.prog 42 #[sa, sb] X fun e w' => e = .returned (.tuple #[.int .u64 (comR s s2 : Nat), .bool (comB s s2)]) ∧ Below W1.heap.size W1 w' from fun sa sb X hX ha hb => (common_any X sa sb s s2 ha hb (hs ▸ shpOk_of hc0 him) (hs2 ▸ shpOk_of hc0 him2) (by rw [hsz.1]; exact hor) (by rw [hsz.2]; exact hor)).mono fun e w' ⟨h1, h2⟩ => ⟨h1, hX.trans (h2.mono hX.size)⟩)
    obtain ⟨r, hr⟩ : ∃ y, comR s s2 = y := ⟨_, rfl⟩
    obtain ⟨q, hq⟩ : ∃ y, comB s s2 = y := ⟨_, rfl⟩
    rw [hr, hq] at HCC hcom
    rw [hcom, hce]
    have hk0 : (0 : Int) ≤ (k : Int) := by omega
    have hk20 : (0 : Int) ≤ (k2 : Int) := by omega
    clear hR hB hU hI hcs hW1 hW2 hblk1 hblk2 hl1 hs1 hb1 hb2 hw2 hm' hT hef hMV hce hn hc0 hidx hidx2 hi hi2 him him2 hs hs2 hall hcell hcell2 hcl hcl' hE0 hE02 hIV hIV2 hsz hor hr hq e1 e2' hz1 hz2 hm1 hm2 hcom hb'
    go_enter Tryz.func16, Tryz.ntmps16
    go_wp2_with (go_at_call 30; (with_reducible refine HCI.out.mono ?_); rintro e w3 ⟨rfl, hb3⟩; rw [← HW1.out] at hb3)
    have HB4 := Lib.hid hb3
    obtain ⟨s10, s11, s12, s13, s14, s15, s16, s17, s18, s19, s20, s21, s22, s23, s24, s25, s26, s27, s28, s29, s30, s31, s32, s33, s34⟩ := HS.out _ hb3
    (go_region_held3 (fun w' => w'.cell? ⟨w.heap.size, 0, none⟩ = some (.string m.name) ∧ w'.cell? ⟨w.heap.size, 1, none⟩ = some (.int .i64 m.word) ∧ w'.cell? ⟨w.heap.size, 2, none⟩ = some (.int .i64 m.address) ∧ w'.cell? ⟨w.heap.size, 3, none⟩ = some (sr) ∧ w'.cell? ⟨w.heap.size, 4, none⟩ = some (sb) ∧ w'.cell? ⟨w.heap.size, 5, none⟩ = some (su) ∧ w'.cell? ⟨w.heap.size, 6, none⟩ = some (.slice (some ⟨b, o, none⟩) n c) ∧ w'.cell? ⟨b, o + k * 9, none⟩ = some (.string i.name) ∧ w'.cell? ⟨b, o + k * 9 + 1, none⟩ = some (.int .u64 (i.mask : Nat)) ∧ w'.cell? ⟨b, o + k * 9 + 2, none⟩ = some (.int .u64 (i.mtch : Nat)) ∧ w'.cell? ⟨b, o + k * 9 + 3, none⟩ = some (so) ∧ w'.cell? ⟨b, o + k * 9 + 4, none⟩ = some (se) ∧ w'.cell? ⟨b, o + k * 9 + 5, none⟩ = some (.int .i64 i.unit) ∧ w'.cell? ⟨b, o + k * 9 + 6, none⟩ = some (.int .i64 i.busy) ∧ w'.cell? ⟨b, o + k * 9 + 7, none⟩ = some (.int .i64 i.lat) ∧ w'.cell? ⟨b, o + k * 9 + 8, none⟩ = some (.int .i64 i.slots) ∧ w'.cell? ⟨b, o + k2 * 9, none⟩ = some (.string i2.name) ∧ w'.cell? ⟨b, o + k2 * 9 + 1, none⟩ = some (.int .u64 (i2.mask : Nat)) ∧ w'.cell? ⟨b, o + k2 * 9 + 2, none⟩ = some (.int .u64 (i2.mtch : Nat)) ∧ w'.cell? ⟨b, o + k2 * 9 + 3, none⟩ = some (so2) ∧ w'.cell? ⟨b, o + k2 * 9 + 4, none⟩ = some (se2) ∧ w'.cell? ⟨b, o + k2 * 9 + 5, none⟩ = some (.int .i64 i2.unit) ∧ w'.cell? ⟨b, o + k2 * 9 + 6, none⟩ = some (.int .i64 i2.busy) ∧ w'.cell? ⟨b, o + k2 * 9 + 7, none⟩ = some (.int .i64 i2.lat) ∧ w'.cell? ⟨b, o + k2 * 9 + 8, none⟩ = some (.int .i64 i2.slots))
      (first | (refine HS.out _ ?_; (repeat (first | assumption | exact HB4.out | refine Below.drew ?_)); done) | exact ⟨by assumption, by assumption, by assumption, by assumption, by assumption, by assumption, by assumption, by assumption, by assumption, by assumption, by assumption, by assumption, by assumption, by assumption, by assumption, by assumption, by assumption, by assumption, by assumption, by assumption, by assumption, by assumption, by assumption, by assumption, by assumption⟩ | go_keep)
      (first
        | (go_at_call 32; go_loud ((with_reducible refine (HSO.out _ (by (repeat (first | assumption | exact HB4.out | refine Below.drew ?_)))).mono ?_); rintro e w5 ⟨sv, rfl, hsv, hb5⟩))
        | (go_at_call 32; go_loud ((with_reducible refine (HSO2.out _ _ (by (repeat (first | assumption | refine Below.drew ?_))) (by assumption)).mono ?_); rintro e w7 ⟨sv2, rfl, hsv2, hsv1, hb7⟩))
        | (go_at_call 42; go_loud ((with_reducible refine (HCC.out _ _ _ (by (repeat (first | assumption | refine Below.drew ?_))) (by assumption) (by assumption)).mono ?_); rintro e w6 ⟨rfl, hb6⟩))))
    all_goals go_wp2
    all_goals exact bodyPost_ret (v := .tuple #[.int .u64 (r : Nat), .bool q, .int .i64 0]) (by simp [results, Tryz.results16, go_sem]) rfl ⟨rfl, HGR.out _ (by first | assumption | exact Below.drew (by assumption))⟩
  · have hcom : comOf m z1 z2 = (0, false) := by unfold comOf; rw [if_neg (by rw [hce]; exact hk)]
    have g : (ce != 0) = true := by simp [hk]
    rw [hcom, hce]
    clear hR hB hU hI hcs hW1 hW2 hblk1 hblk2 hl1 hs1 hb1 hb2 hw2 hm' hT hef hMV hce hn hcom hz1 hz2 hk
    go_enter Tryz.func16, Tryz.ntmps16
    go_wp2_with (go_at_call 30; (with_reducible refine HCI.out.mono ?_); rintro e w3 ⟨rfl, hb3⟩; rw [← HW1.out] at hb3)
    exact bodyPost_ret (v := .tuple #[.int .u64 0, .bool false, .int .i64 ce]) (by simp [results, Tryz.results16, go_sem]) rfl ⟨rfl, HGR.out _ hb3⟩
end Go.Proofs.YtnjlgllpfbkdoaaGreatDoor
namespace Go.Proofs.YtnjlgllpfbkdoaaGreatDoor
open Go.RowKit
set_option linter.unusedVariables false
set_option linter.unusedSimpArgs false
set_option maxRecDepth 100000

theorem free_bit (j : Nat) : ∀ (l : List MOper) (a : Nat), (l.foldl (fun a o => a ||| maskN 0 o.pieces) a).testBit j = (a.testBit j || l.any fun o => hasL o.pieces j)
  | [], a => by simp
  | o :: l, a => by
    rw [List.foldl_cons, free_bit j l, Nat.testBit_or, maskN_bit, List.any_cons]
    simp [Bool.or_assoc]
theorem getN_zero : ∀ L : List MPiece, getN 0 L = 0
  | [] => rfl
  | x :: L => by simp [getN, getN_zero L]
theorem not_bit {k j : Nat} (hk : k < 18446744073709551616) (hj : j < 64) : (18446744073709551615 - k).testBit j = !k.testBit j := by
  rw [show 18446744073709551615 - k = 2 ^ 64 - (k + 1) by omega, Nat.testBit_two_pow_sub_succ (by omega)]
  simp [hj]
theorem bit_lt64 {x j : Nat} (hx : x < 18446744073709551616) (hb : x.testBit j = true) : j < 64 := by
  rcases Nat.lt_or_ge j 64 with h | h
  · exact h
  · have h1 : x < 2 ^ j := Nat.lt_of_lt_of_le hx (Nat.pow_le_pow_right (n := 2) (i := 64) (by omega) h)
    rw [Nat.testBit_lt_two_pow h1] at hb
    cases hb
theorem ones_low {x : Nat} (hx : x < 4294967296) : ones 8 x ≤ 32 := by
  rw [ones_cnt, show 8 * 8 = 32 + 32 from rfl, cnt_shift]
  have h0 : cnt (fun i => x.testBit (32 + i)) 32 = cnt (fun _ => false) 32 := cnt_same 32 fun i _ => Nat.testBit_lt_two_pow (Nat.lt_of_lt_of_le hx (Nat.pow_le_pow_right (n := 2) (i := 32) (by omega) (by omega)))
  have h1 : cnt (fun _ => false) 32 = 0 := by decide
  have h2 := cnt_le' (fun i => x.testBit i) 32
  rw [h0, h1]
  exact h2
theorem valR_pos {m : Mach} (h : chkR m = 0) {i : MIns} (hi : i ∈ m.instrs) {o : MOper} (ho : o ∈ i.opers) : 0 < valR m o := by
  obtain ⟨_, _, _, _, _, hP, hO⟩ := ins_good h hi
  unfold valR
  split
  · rename_i hk
    obtain ⟨before, hb⟩ := hO o ho
    unfold operOk at hb
    rw [if_pos hk.1] at hb
    by_cases hb0 : 0 ≤ o.bank
    · rw [if_pos hb0] at hb
      cases hq : m.banks[o.bank.toNat]? with
      | none => rw [hq] at hb; cases hb
      | some b =>
        have hbk := (chk_valid h).2.2.2.1
        unfold banksR at hbk
        simp only [Bool.and_eq_true, List.all_eq_true] at hbk
        have h2 := hbk.2 b (List.mem_of_getElem? hq)
        unfold bankOk at h2
        simp only [Bool.and_eq_true, decide_eq_true_eq] at h2
        exact h2.1
    · rw [if_neg hb0] at hb; cases hb
  · have h1 := ones_low (hP o ho).mask_lt
    unfold ocR
    have h2 : 2 ^ ones 8 (maskN 0 o.pieces) < 18446744073709551616 := Nat.lt_of_le_of_lt (Nat.pow_le_pow_right (n := 2) (by omega) h1) (by decide)
    rw [Nat.mod_eq_of_lt h2]
    exact Nat.two_pow_pos _
theorem self_has {w : World} {v : Value} {m : Mach} (hm : MachV w v m) (h : chkR m = 0) {i : MIns} (hi : i ∈ m.instrs) : hasR (shapeR m i) i.mtch = true := by
  obtain ⟨hwd, _, h3, h4, hLay, hP, _⟩ := ins_good h hi
  have hmt := ins_mtch hm h hi
  have hp32 : 2 ^ (8 * m.word).toNat ≤ 4294967296 := pow_le32 (by omega)
  have hmt64 : i.mtch < 18446744073709551616 := by omega
  have hmk64 : i.mask < 18446744073709551616 := by omega
  have hfree : (shapeR m i).free < 18446744073709551616 := by
    have := freeK_lt hP i.opers.length
    unfold freeK at this
    rw [List.take_length] at this
    show freeR i.opers < _
    omega
  have key : ∀ j, i.mtch.testBit j = true → (shapeR m i).free.testBit j = false ∧ ∀ o ∈ i.opers, hasL o.pieces j = false := fun j hj => by
    have hj64 := bit_lt64 hmt64 hj
    have hmk : i.mask.testBit j = true := by
      have h2 := congrArg (fun z => z.testBit j) h4
      simp only [Nat.testBit_and, Nat.zero_testBit, hj, Bool.true_and, not_bit hmk64 hj64] at h2
      simpa using h2
    have hno : ∀ o ∈ i.opers, hasL o.pieces j = false := fun o ho => by
      cases hq : hasL o.pieces j with
      | false => rfl
      | true => rw [(hLay.each o ho).2 j hq] at hmk; cases hmk
    refine ⟨?_, hno⟩
    show (freeR i.opers).testBit j = false
    unfold freeR
    rw [free_bit]
    simp only [Nat.zero_testBit, Bool.false_or]
    rw [List.any_eq_false]
    intro o ho
    rw [hno o ho]
    simp
  unfold hasR
  rw [Bool.and_eq_true]
  constructor
  · rw [decide_eq_true_eq]
    show i.mtch &&& _ = i.mtch
    apply Nat.eq_of_testBit_eq
    intro j
    rw [Nat.testBit_and]
    cases hj : i.mtch.testBit j with
    | false => rfl
    | true => rw [not_bit hfree (bit_lt64 hmt64 hj), (key j hj).1]; rfl
  · rw [List.all_eq_true]
    intro f hf
    obtain ⟨o, ho, rfl⟩ := List.mem_map.1 hf
    rw [decide_eq_true_eq]
    show getN i.mtch o.pieces < valR m o
    have e : getN i.mtch o.pieces = getN 0 o.pieces := getN_same o.pieces fun j hj => by
      rw [Nat.zero_testBit]
      cases hq : i.mtch.testBit j with
      | false => rfl
      | true => rw [(key j hq).2 o ho] at hj; cases hj
    rw [e, getN_zero]
    exact valR_pos h hi ho
theorem comB_swap (a b : Shp) : comB a b = comB b a := by unfold comB comW; rw [Nat.or_comm, Bool.and_comm]
theorem comR_swap (a b : Shp) : comR a b = comR b a := by unfold comR; rw [comB_swap]; unfold comW; rw [Nat.or_comm]
theorem amErr_swap (m : Mach) (a b : Int) : amErr m [a, b] = amErr m [b, a] := by
  unfold amErr
  simp only [List.all_cons, List.all_nil, Bool.and_true]
  rw [Bool.and_comm]
theorem comOf_swap (m : Mach) (a b : Int) : comOf m a b = comOf m b a := by
  unfold comOf
  rw [amErr_swap]
  split
  · cases m.instrs[a.toNat]? <;> cases m.instrs[b.toNat]? <;> simp [comR_swap, comB_swap]
  · rfl
theorem or_ge (a b : Nat) : a ≤ a ||| b := Nat.left_le_or
end Go.Proofs.YtnjlgllpfbkdoaaGreatDoor
