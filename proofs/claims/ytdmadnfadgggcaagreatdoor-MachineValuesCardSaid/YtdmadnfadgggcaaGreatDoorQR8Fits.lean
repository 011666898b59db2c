import Derived.Test.YtdmadnfadgggcaaGreatDoorQR8Defs
import Derived.Test.YtdmadnfadgggcaaGreatDoorQR8TCheck
set_option linter.unusedVariables false
set_option linter.unusedSimpArgs false
set_option warningAsError false
set_option maxHeartbeats 8000000
open Go.Lib (hid)
open Go.Proofs.Tryz (prog)
namespace Go.Proofs.YtdmadnfadgggcaaGreatDoor
open Go.RowKit Go.Instr Go.Sort
set_option maxRecDepth 100000
mutual
theorem zgm : ∀ t : Tm, (∀ u ∈ t.nodes, zp u = true) -> ldT t = true
 | .mk k w b s lo l, h => by
   have h1 := h _ (Tm.nodes_self _);unfold zp at h1;simp only [Bool.and_eq_true, beq_iff_eq] at h1;have h2 : l.length = zm k := h1.2.2.2.1;have h3 := zgl l fun u hu => h u (by rw [Tm.nodes_eq]; exact List.mem_cons_of_mem _ hu);unfold ldT;rw [h3, Bool.and_true];by_cases hk : k = 24
   ·subst hk;rw [h2];rfl
   ·simp [hk]
theorem zgl : ∀ l : List Tm, (∀ u ∈ l.flatMap Tm.nodes, zp u = true) -> ldL l = true
 | [], _ => rfl
 | t :: l, h => by unfold ldL;rw [zgm t fun u hu => h u (by rw [List.flatMap_cons]; exact List.mem_append_left _ hu), zgl l fun u hu => h u (by rw [List.flatMap_cons]; exact List.mem_append_right _ hu)];rfl
end
theorem zdm (w0 : World) (V : ByteArray -> Int -> Bool) (n0 i0 : ByteArray) (m1 ad i1 i2 i5 i6 i7 i8 : Int) (a3 a4 a5 a6 a7 a8 : Option Addr) (b3 c3 b4 c4 b5 c5 b6 c6 b7 c7 b8 c8 : Nat)
 (HV : Hid (∀ (s : ByteArray) (wd : Int) X, Below w0.heap.size w0 X -> Calls prog 169 #[.agg #[.string n0, .int .i64 m1, .int .i64 ad, .slice a3 b3 c3, .slice a4 b4 c4, .slice a5 b5 c5, .slice a6 b6 c6], .agg #[.string i0, .int .u64 i1, .int .u64 i2, .slice a7 b7 c7, .slice a8 b8 c8, .int .i64 i5, .int .i64 i6, .int .i64 i7, .int .i64 i8], .string s, .int .i64 wd] X fun e w' => e = .returned (.bool (V s wd)) /\ Below X.heap.size X w'))
 (t : Tm) (hz : t.sz <= 9000) (hfit : t.fit) (hlong : t.long = false) (sv : Value) (W : World) (hs : SubAt W W.heap.size sv t.sub) (hW0 : Below w0.heap.size w0 W) :
 Calls prog 127 #[.agg #[.string n0, .int .i64 m1, .int .i64 ad, .slice a3 b3 c3, .slice a4 b4 c4, .slice a5 b5 c5, .slice a6 b6 c6], .agg #[.string i0, .int .u64 i1, .int .u64 i2, .slice a7 b7 c7, .slice a8 b8 c8, .int .i64 i5, .int .i64 i6, .int .i64 i7, .int .i64 i8], .agg (Tm.cells t sv).toArray] W fun e w' => e = .returned (.bool (decide (z1r t = 0) && z2s V ad t)) /\ Below W.heap.size W w' := by
 obtain ⟨p, nn, cap, S, rfl, _⟩ := hs.inv;obtain ⟨Wa, hWa⟩ : ∃ z, z = W.alloc (.cells #[.string n0, .int .i64 m1, .int .i64 ad, .slice a3 b3 c3, .slice a4 b4 c4, .slice a5 b5 c5, .slice a6 b6 c6] 27) := ⟨_, rfl⟩;obtain ⟨Wb, hWb⟩ : ∃ z, z = Wa.alloc (.cells #[.string i0, .int .u64 i1, .int .u64 i2, .slice a7 b7 c7, .slice a8 b8 c8, .int .i64 i5, .int .i64 i6, .int .i64 i7, .int .i64 i8] 83) := ⟨_, rfl⟩;obtain ⟨W1, hW1⟩ : ∃ z, z = Wb.alloc (.cells #[.int .u8 t.kind, .int .i64 t.width, .int .u64 t.bits, .string t.name, .int .i64 t.low, .slice p nn cap] 90) := ⟨_, rfl⟩;have sa : Wa.heap.size = W.heap.size + 1 := by rw [hWa]; simp
 have sb : Wb.heap.size = W.heap.size + 2 := by rw [hWb]; simp [sa]
 have hs1 : W1.heap.size = W.heap.size + 3 := by rw [hW1]; simp [sb]
 have ba : Below W.heap.size W Wa := by rw [hWa]; exact (Below.refl _ _).alloc (Nat.le_refl _) _
 have bb : Below Wa.heap.size Wa Wb := by rw [hWb]; exact (Below.refl _ _).alloc (Nat.le_refl _) _
 have bc : Below Wb.heap.size Wb W1 := by rw [hW1]; exact (Below.refl _ _).alloc (Nat.le_refl _) _
 have hb1 : Below W.heap.size W W1 := (ba.trans (bb.mono ba.size)).trans (bc.mono (by omega));have hblk1 : W1.heap[W.heap.size]? = some (.cells #[.string n0, .int .i64 m1, .int .i64 ad, .slice a3 b3 c3, .slice a4 b4 c4, .slice a5 b5 c5, .slice a6 b6 c6] 27) := by rw [bc.block _ (by omega), bb.block _ (by omega), hWa]; exact heap_alloc_new _ _
 have hblk2 : W1.heap[W.heap.size + 1]? = some (.cells #[.string i0, .int .u64 i1, .int .u64 i2, .slice a7 b7 c7, .slice a8 b8 c8, .int .i64 i5, .int .i64 i6, .int .i64 i7, .int .i64 i8] 83) := by rw [bc.block _ (by omega), hWb, <- sa]; exact heap_alloc_new _ _
 have hblk3 : W1.heap[W.heap.size + 2]? = some (.cells #[.int .u8 t.kind, .int .i64 t.width, .int .u64 t.bits, .string t.name, .int .i64 t.low, .slice p nn cap] 90) := by rw [hW1, <- sb]; exact heap_alloc_new _ _
 have HW := hid (show W1 = ((W.alloc (.cells #[.string n0, .int .i64 m1, .int .i64 ad, .slice a3 b3 c3, .slice a4 b4 c4, .slice a5 b5 c5, .slice a6 b6 c6] 27)).alloc (.cells #[.string i0, .int .u64 i1, .int .u64 i2, .slice a7 b7 c7, .slice a8 b8 c8, .int .i64 i5, .int .i64 i6, .int .i64 i7, .int .i64 i8] 83)).alloc (.cells #[.int .u8 t.kind, .int .i64 t.width, .int .u64 t.bits, .string t.name, .int .i64 t.low, .slice p nn cap] 90) by rw [hW1, hWb, hWa])
 have HQ := hid (show ∀ X, Below W1.heap.size W1 X -> (X.cell? ⟨W.heap.size, 0, none⟩ = some (.string n0) /\ X.cell? ⟨W.heap.size, 1, none⟩ = some (.int .i64 m1) /\ X.cell? ⟨W.heap.size, 2, none⟩ = some (.int .i64 ad) /\ X.cell? ⟨W.heap.size, 3, none⟩ = some (.slice a3 b3 c3) /\ X.cell? ⟨W.heap.size, 4, none⟩ = some (.slice a4 b4 c4) /\ X.cell? ⟨W.heap.size, 5, none⟩ = some (.slice a5 b5 c5) /\ X.cell? ⟨W.heap.size, 6, none⟩ = some (.slice a6 b6 c6)) /\
  (X.cell? ⟨W.heap.size + 1, 0, none⟩ = some (.string i0) /\ X.cell? ⟨W.heap.size + 1, 1, none⟩ = some (.int .u64 i1) /\ X.cell? ⟨W.heap.size + 1, 2, none⟩ = some (.int .u64 i2) /\ X.cell? ⟨W.heap.size + 1, 3, none⟩ = some (.slice a7 b7 c7) /\ X.cell? ⟨W.heap.size + 1, 4, none⟩ = some (.slice a8 b8 c8) /\ X.cell? ⟨W.heap.size + 1, 5, none⟩ = some (.int .i64 i5) /\ X.cell? ⟨W.heap.size + 1, 6, none⟩ = some (.int .i64 i6) /\ X.cell? ⟨W.heap.size + 1, 7, none⟩ = some (.int .i64 i7) /\ X.cell? ⟨W.heap.size + 1, 8, none⟩ = some (.int .i64 i8)) /\
  (X.cell? ⟨W.heap.size + 2, 0, none⟩ = some (.int .u8 t.kind) /\ X.cell? ⟨W.heap.size + 2, 1, none⟩ = some (.int .i64 t.width) /\ X.cell? ⟨W.heap.size + 2, 2, none⟩ = some (.int .u64 t.bits) /\ X.cell? ⟨W.heap.size + 2, 3, none⟩ = some (.string t.name) /\ X.cell? ⟨W.heap.size + 2, 4, none⟩ = some (.int .i64 t.low) /\ X.cell? ⟨W.heap.size + 2, 5, none⟩ = some (.slice p nn cap)) from fun X hX => by
  have e1 := (hX.block _ (by omega)).trans hblk1;have e2 := (hX.block _ (by omega)).trans hblk2;have e3 := (hX.block _ (by omega)).trans hblk3;exact ⟨⟨zb e1 rfl, zb e1 rfl, zb e1 rfl, zb e1 rfl, zb e1 rfl, zb e1 rfl, zb e1 rfl⟩, ⟨zb e2 rfl, zb e2 rfl, zb e2 rfl, zb e2 rfl, zb e2 rfl, zb e2 rfl, zb e2 rfl, zb e2 rfl, zb e2 rfl⟩, ⟨zb e3 rfl, zb e3 rfl, zb e3 rfl, zb e3 rfl, zb e3 rfl, zb e3 rfl⟩⟩)
 have HGR := hid (show ∀ X, Below W1.heap.size W1 X -> Below W.heap.size W X from fun X hX => hb1.trans (hX.mono hb1.size));have HF1 := hid (Below.refl W1.heap.size W1);have HC := hid (show ∀ X, Below W1.heap.size W1 X -> Calls prog 154 #[.agg (Tm.cells t (.slice p nn cap)).toArray] X fun e w' => e = .returned (.int .i64 (z1r t : Nat)) /\ Below W1.heap.size W1 w' from fun X hX => (z9l t hz hfit hlong (.slice p nn cap) W.heap.size X (HGR.out X hX).size (hs.kept (HGR.out X hX))).mono fun e w' ⟨h1, h2⟩ => ⟨h1, hX.trans (h2.mono hX.size)⟩);obtain ⟨ck, hck⟩ : ∃ z, z1r t = z := ⟨_, rfl⟩;obtain ⟨y0, y1, y2⟩ := HQ.out W1 HF1.out;rw [HW.out] at y0 y1 y2;obtain ⟨x0, x1, x2, x3, x4, x5, x6⟩ := y0;obtain ⟨j0, j1, j2, j3, j4, j5, j6, j7, j8⟩ := y1;obtain ⟨t0, t1, t2, t3, t4, t5⟩ := y2;by_cases h0 : ck = 0
 ·subst h0;have hld := zgm t ((z2l t).1 hck).2.2.1;have HK := hid (show ∀ X, Below W1.heap.size W1 X -> Calls prog 155 #[.agg #[.string n0, .int .i64 m1, .int .i64 ad, .slice a3 b3 c3, .slice a4 b4 c4, .slice a5 b5 c5, .slice a6 b6 c6], .agg #[.string i0, .int .u64 i1, .int .u64 i2, .slice a7 b7 c7, .slice a8 b8 c8, .int .i64 i5, .int .i64 i6, .int .i64 i7, .int .i64 i8], .agg (Tm.cells t (.slice p nn cap)).toArray] X fun e w' => e = .returned (.bool (z2s V ad t)) /\ Below W1.heap.size W1 w' from fun X hX => (zc2 w0 V n0 i0 m1 ad i1 i2 i5 i6 i7 i8 a3 a4 a5 a6 a7 a8 b3 c3 b4 c4 b5 c5 b6 c6 b7 c7 b8 c8 HV t.sz t (Nat.le_refl _) hz hld (.slice p nn cap) W.heap.size X (HGR.out X hX).size (hs.kept (HGR.out X hX)) (hW0.trans ((HGR.out X hX).mono hW0.size))).mono fun e w' ⟨h1, h2⟩ => ⟨h1, hX.trans (h2.mono hX.size)⟩);obtain ⟨r, hr⟩ : ∃ z, z2s V ad t = z := ⟨_, rfl⟩;rw [hck, decide_eq_true rfl, Bool.true_and, hr];rw [hck] at HC;rw [hr] at HK;simp only [Tm.cells] at HC HK ⊢;clear hr hck hld hs hz hfit hlong hW0 hWa hWb hW1 sa sb hs1 ba bb bc hb1 hblk1 hblk2 hblk3;go_enter Tryz.func127, Tryz.ntmps127
  go_wp2_with (first
   | (go_at_call 154; (with_reducible refine (HC.out _ (by rw [<- HW.out]; exact HF1.out)).mono ?_); rintro e w5 ⟨rfl, hb5⟩; obtain ⟨⟨x0, x1, x2, x3, x4, x5, x6⟩, ⟨j0, j1, j2, j3, j4, j5, j6, j7, j8⟩, t0, t1, t2, t3, t4, t5⟩ := HQ.out _ hb5)
   | (go_at_call 155; (with_reducible refine (HK.out _ hb5).mono ?_); rintro e w6 ⟨rfl, hb6⟩))
  go_ret
  exact ⟨rfl, HGR.out _ hb6⟩
 ·rw [hck, decide_eq_false h0, Bool.false_and];rw [hck] at HC;have g : ((ck : Int) == 0) = false := by simp; omega
  simp only [Tm.cells] at HC ⊢;clear hck h0 hs hz hfit hlong hW0 hWa hWb hW1 sa sb hs1 ba bb bc hb1 hblk1 hblk2 hblk3;go_enter Tryz.func127, Tryz.ntmps127
  go_wp2_with (go_at_call 154; (with_reducible refine (HC.out _ (by rw [<- HW.out]; exact HF1.out)).mono ?_); rintro e w5 ⟨rfl, hb5⟩)
  go_ret
  exact ⟨rfl, HGR.out _ hb5⟩
end Go.Proofs.YtdmadnfadgggcaaGreatDoor
