import Derived.Test.YtdmadnfadgggcaaGreatDoorGm
import Derived.Carry
set_option linter.unusedVariables false
set_option linter.unusedSimpArgs false
set_option warningAsError false
set_option maxHeartbeats 2000000
open Go.Lib (hid)
open Go.Proofs.Tryz (prog)
noncomputable section
namespace Go.Proofs.YtdmadnfadgggcaaGreatDoor
open Go.RowKit Go.Instr Go.Sort
set_option maxRecDepth 100000
def z9p (K : ByteArray -> Int) (l : List MReg) : ByteArray -> Int := l.foldl (fun K r => putK K (rDot r.name) r.width) K
theorem z7q (K : ByteArray -> Int) (l : List MReg) (r : MReg) : z9p K (l ++ [r]) = putK (z9p K l) (rDot r.name) r.width := by unfold z9p;rw [List.foldl_append];rfl
theorem zeo {s t : ByteArray} (h : z1t s = true) : s ≠ rDot t := by
 intro e;have hp : z8l s := by
  by_cases hp : z8l s
  ·exact hp
  ·rw [z2f hp] at h; cases h
 have h1 := hp.2.2 1 46 (by rw [e]; unfold rDot; simp);unfold z1e z28 at h1;revert h1;decide
theorem zbm (m : Mach) {s : ByteArray} (h : z1t s = true) (hp : s ≠ z1a) : z3x m s = 0 := by
 show z9p (putK (fun _ => 0) z1a m.address) m.regs s = 0;refine z57 (P := fun l => z9p (putK (fun _ => 0) z1a m.address) l s = 0) ?_ (fun l r ih => ?_) m.regs
 ·show putK (fun _ => 0) z1a m.address s = 0;unfold putK;rw [if_neg hp]
 ·rw [z7q];unfold putK;rw [if_neg (zeo h)];exact ih
theorem zan (s : ByteArray) : (⟨#[114, 46]⟩ : ByteArray) ++ s = rDot s := by unfold rDot;apply ByteArray.ext;simp [ByteArray.data_append]
theorem zep (s : ByteArray) : (rDot s).size = 2 + s.size := by unfold rDot;show (#[114, 46] ++ s.data).size = _;rw [Array.size_append];rfl
theorem zb8 (s : ByteArray) (h : s.size <= 24) (w : World) : (Op.stringOp .add (⟨#[114, 46]⟩ : ByteArray) s).run prog w = .ok (.string (rDot s)) w := by
 have h1 : ¬ ((((⟨#[114, 46]⟩ : ByteArray).size + s.size : Nat) : Int) > IntKind.i64.max) := by
  have e1 : (⟨#[114, 46]⟩ : ByteArray).size = 2 := rfl;have e2 : IntKind.i64.max = 9223372036854775807 := by decide
  rw [e1, e2];omega
 simp only [Op.stringOp];rw [if_neg h1, zan];rfl
theorem zad : z1o (fun _ => 0) (.map []) := ⟨⟨[], rfl⟩, fun s => rfl⟩
theorem zg8 (W : World) (a0 a1 a2 a3 : Value) : ∀ B, W.heap.size = B -> (W.alloc (.cells #[a0, a1, a2, a3] 96)).heap[B]? = some (.cells #[a0, a1, a2, a3] 96) := by rintro _ rfl;exact heap_alloc_new _ _
theorem zf4 {w : World} {k B : Nat} {m : Mach} {sr sb su si wm : Value} {bad : Bool} (hC : ChkAt w k m sr sb su si wm bad) : ChkAt (w.setCell ⟨k, 7, none⟩ (.map (some B))) k m sr sb su si (.map (some B)) bad := by
 have ho : ∀ j, j ≠ 7 -> (w.setCell ⟨k, 7, none⟩ (.map (some B))).cell? ⟨k, j, none⟩ = w.cell? ⟨k, j, none⟩ := fun j hj => World.cell?_setCell_other _ ⟨k, 7, none⟩ ⟨k, j, none⟩ _ (by first | (simp; done) | (simp; exact fun e => hj e.symm));exact ⟨(ho 0 (by decide)).trans hC.c0, (ho 1 (by decide)).trans hC.c1, (ho 2 (by decide)).trans hC.c2, (ho 3 (by decide)).trans hC.c3, (ho 4 (by decide)).trans hC.c4, (ho 5 (by decide)).trans hC.c5, (ho 6 (by decide)).trans hC.c6, World.cell?_setCell_same' _ _ _ (by rw [hC.c7]; rfl), (ho 8 (by decide)).trans hC.c8, by rw [World.frozen?_setCell]; exact hC.fz, by simp [World.setCell]; exact hC.lt⟩
theorem z67 (W : World) (k : Nat) (m : Mach) (sr sb su si wm : Value) (hC : ChkAt W k m sr sb su si wm false) (hf7 : W.frozen? ⟨k, 7, none⟩ = false) (hadr : m.address = 16 ∨ m.address = 32) (hword : 1 <= m.word /\ m.word <= 4)
 (V : World) (hVk : V.heap.size <= k) (hVW : Below V.heap.size V W) (hT : zs V) (hR : zf 4 regE V sr m.regs) (hL : zf 2 z1m V sb m.banks) (hU : zf 2 z3u V su m.units) (hI : zf 9 insE V si m.instrs)
 (hbk : ∀ x ∈ m.banks, z2i m.regs x = true) (hrn : ∀ x ∈ m.regs, z1t x.name = true) (hlr : m.regs.length <= 1000) (hli : m.instrs.length <= 100) (hlim : ∀ x ∈ m.instrs, x.opers.length <= 1000 /\ x.effs.length <= 1000 /\ (∀ o ∈ x.opers, o.pieces.length <= 1000) /\ ∀ f ∈ x.effs, z3v f) :
 Calls prog 113 #[.pointer (some ⟨k, 0, none⟩)] W fun e w' => e = .returned (.tuple #[]) /\ Below k W w' /\ w'.cell? ⟨k, 8, none⟩ = some (.bool (!(z42 m))) := by
 have hk := hC.lt;have hVs : V.heap.size <= W.heap.size := hVW.size;have HR := hid hR;have HI := hid hI;obtain ⟨A, c, rfl, hn1, hn2, hn3, _⟩ := hI;obtain ⟨Ar, cr, rfl, hr1, hr2, hr3, _⟩ := hR;obtain ⟨n, hn⟩ : ∃ n, m.instrs.length = n := ⟨_, rfl⟩;obtain ⟨nr, hnr⟩ : ∃ n, m.regs.length = n := ⟨_, rfl⟩;have HN := hid hn;have HNR := hid hnr;have hsz : ∀ x, x ∈ m.instrs -> x.name.size <= maxLen := fun x hx => by obtain ⟨i, hi⟩ := List.mem_iff_getElem?.1 hx;obtain ⟨A', c', _, _, _, _, hall⟩ := HI.out;obtain ⟨b, o, cs, _, _, _, _, hE⟩ := hall i x hi;exact (by obtain ⟨_, _, _, h, _⟩ := hE; exact h)
 obtain ⟨q, hq⟩ : ∃ q, zq [] (m.instrs.map fun x => x.name) = q := ⟨_, rfl⟩;have iN : Calls prog 146 #[.slice A n c, .func (.func 147) #[] #[]] W fun e w'' => e = .returned (.bool q) /\ Below W.heap.size W w'' := by rw [<- hq, <- hn];exact ze9 _ m.instrs _ (HI.out.kept (fun cs x hx => insE.kept hx hVW) hVW) (by omega) _ z7x (fun x => x.name) hsz (zc8 _ _)
 rw [hn] at hC;rw [hnr] at hC;have HC := hid hC;obtain ⟨ad, had⟩ : ∃ z, m.address = z := ⟨_, rfl⟩;have HAW := hid (show (Lit.int .i64 ad).wf = true by rw [<- had]; rcases hadr with h | h <;> rw [h] <;> decide);have c6 := hC.c6
 have HM := hid (show ∀ X, Below W.heap.size W X -> Calls prog 135 #[.pointer (some ⟨k, 0, none⟩), .slice (some ⟨X.heap.size, 0, none⟩) 1 1] (X.alloc (.cells #[.bool q] 4)) fun e w' => e = .returned (.tuple #[]) /\ (w'.alloc (.map #[] 0)).cell? ⟨k, 2, none⟩ = some (.int .i64 ad) /\
  ∃ w4 D0, (Instr.mapUpdate 139 (.map (some w'.heap.size)) (.string ⟨#[112, 99]⟩) (.int .i64 ad)).run prog (w'.alloc (.map #[] 0)) = .ok () w4 /\ (∃ v, w4.cell? ⟨k, 7, none⟩ = some v) /\ w4.frozen? ⟨k, 7, none⟩ = false /\
   ∃ W7, W7 = w4.setCell ⟨k, 7, none⟩ (.map (some w'.heap.size)) /\ k < w'.heap.size /\ ChkAt W7 k m (.slice Ar nr cr) sb su (.slice A n c) (.map (some w'.heap.size)) (!q) /\ Below k W W7 /\ W7.ownsMap prog 9 (plainElem prog 3) w'.heap.size 1 D0 /\ z1o (putK (fun _ => 0) z1a m.address) D0 from fun X hX => by
  have hXa : Below X.heap.size X (X.alloc (.cells #[.bool q] 4)) := (Below.refl _ _).alloc (Nat.le_refl _) _;have hlX := HC.out.later hX;have hll := hlX.later hXa;refine (z3o k false _ [q] _ (bools1 X q 4) hll.c8 hll.fz).mono fun e w' ⟨h1, h2⟩ => ?_;have hf7w : w'.frozen? ⟨k, 7, none⟩ = false := by rw [h2, World.frozen?_setCell, hXa.frozen (p := ⟨k, 7, none⟩) hlX.lt, hX.frozen (p := ⟨k, 7, none⟩) hk];exact hf7
  rw [show (false || !([q].all id)) = (false || !q) by simp [List.all_cons]] at h2;have h2 : Then8 k X w' (false || !q) := by rw [h2]; exact Then8.set _ hXa hlX.lt hlX.c8 hlX.fz
  have h8 := (Then8.grown hX hk HC.out.c8 HC.out.fz).trans h2;have hCw := h8.chk HC.out;rw [Bool.false_or] at hCw;obtain ⟨w4, hrun, hown, ht⟩ := World.ownsMap.store (key := .string ⟨#[112, 99]⟩) (val := .int .i64 ad) (World.ownsMap_made (H := Unit) w' prog 9 (plainElem prog 3)) (Maps.string_keyed Tryz.underlying9) Tryz.underlying139 (by unfold maxLen; omega) (Go.WideMaps.keyOf_string_mk (s := z1a) Tryz.underlying9 (by decide)) (plainElem_int Tryz.underlying3 HAW.out);have hba : Below w'.heap.size w' (w'.alloc (.map #[] 0)) := (Below.refl _ _).alloc (Nat.le_refl _) _;have hCa := hCw.later hba;have hkw := hCw.lt;have h7 := Then7.turned (k := k) ht (by omega) hCa.c8 hCa.fz;have hC4 := h7.chk hCa;have hbk4 : ∀ i, i < w'.heap.size -> w4.heap[i]? = w'.heap[i]? := fun i hi => by
   obtain ⟨es, clock, es', clock', e1, rfl⟩ := ht;have : (ChangeMaps.setBlock (w'.alloc (.map #[] 0)) w'.heap.size (.map es' clock')).heap[i]? = (w'.alloc (.map #[] 0)).heap[i]? := by show ((w'.alloc (.map #[] 0)).heap.setIfInBounds w'.heap.size _)[i]? = _;rw [Array.getElem?_setIfInBounds, if_neg (by omega)]
   rw [this];exact hba.block i hi
  have hfz : w4.frozen? ⟨k, 7, none⟩ = false := by rw [z41 (hbk4 k hkw)];exact hf7w
  refine ⟨h1, by rw [<- had]; exact hCa.c2, w4, _, hrun, ⟨_, hC4.c7⟩, hfz, _, rfl, hkw, zf4 hC4, ?_, World.ownsMap.setCell hown (a := ⟨k, 7, none⟩) (by show w'.heap.size ≠ k; omega) _, by rw [had]; exact z5l zad z1a ad⟩;have hb1 : Below k W w' := h8.below (Nat.le_refl _) (Nat.le_of_lt hk);have hb4 : Below k w' w4 := by have h9 := h7.below (n := k) (Nat.le_refl _) (by omega) (by simp; omega);exact (hba.mono (Nat.le_of_lt hkw)).trans h9
  exact ⟨hb4.os.trans hb1.os, hb4.tape.trans hb1.tape, hb4.output.trans hb1.output, by have := hb1.size; have := hb4.size; simp [World.setCell]; omega, fun i hi => (Below.heap_setCell _ _ _ _ (by show i ≠ k; omega)).trans ((hb4.block i hi).trans (hb1.block i hi))⟩)
 have IN := hid iN;obtain ⟨r, hr⟩ : ∃ r, (!(z42 m)) = r := ⟨_, rfl⟩;have HRR := hid hr;rw [hr];have HQ := hid hq;have HRn := hid (show zf 4 regE V (.slice Ar nr cr) m.regs by rw [<- hnr]; exact HR.out);have hn4 : n <= 9223372036854775807 := by omega
 have hnr4 : nr <= 9223372036854775807 := by omega
 clear hC iN hr hq hn hnr had hsz hn3 hr3 hf7;have hmm := @run_makeMap prog;go_enter Tryz.func113, Tryz.ntmps113
 go_wp2_with (first
  | (go_at_call 146; (with_reducible refine IN.out.mono ?_); rintro e X ⟨rfl, hbX⟩)
  | (go_at_call 135; (with_reducible refine (HM.out X hbX).mono ?_); rintro e w5 ⟨rfl, hc2, w4, D0, hup, ⟨v7, hc7⟩, hf7, W7, hW7, h7⟩; have HW7 := hid hW7; have H7 := hid h7; have HC7 := hid (by rw [hW7] at h7; exact h7.2.1.c3 : (w4.setCell ⟨k, 7, none⟩ (.map (some w5.heap.size))).cell? ⟨k, 3, none⟩ = some (.slice Ar nr cr)); have c3w := HC7.out; clear hW7 h7))
 rw [<- HW7.out];obtain ⟨B, hB⟩ : ∃ B, w5.heap.size = B := ⟨_, rfl⟩;rw [hB] at H7;obtain ⟨hkB, hC7, hb7, hown7, hK7⟩ := H7.out;have HC7' := hid hC7;have hV7 : Below V.heap.size V W7 := hVW.trans (hb7.mono hVk);have HV7 := hid hV7;have HB7 := hid hb7;have hBl7 : B < W7.heap.size := hown7.lt;have HBL := hid hBl7;have HVs7 := hid (show V.heap.size <= W7.heap.size from hV7.size);have HS1 := hid (show ∃ D2, Then7 k B W7 W7 (!q) /\ W7.ownsMap prog 9 (plainElem prog 3) B (1 + 0) D2 /\ z1o (z9p (putK (fun _ => 0) z1a m.address) (m.regs.take 0)) D2 from ⟨D0, (Then8.grown (Below.refl _ _) hC7.lt hC7.c8 hC7.fz).to7 B, hown7, by rw [List.take_zero]; exact hK7⟩);clear hup hc7 hf7 hc2 H7 hC7 hb7 hown7 hK7 hV7 hB c3w HC7 HW7 HM IN hbX hBl7;go_loopw [31] (fun v wr => ∃ i : Nat, v = .int .i64 i /\ i <= nr /\ Hid (∃ D2, Then7 k B W7 wr (!q) /\ wr.ownsMap prog 9 (plainElem prog 3) B (1 + i) D2 /\ z1o (z9p (putK (fun _ => 0) z1a m.address) (m.regs.take i)) D2)) (fun v _ => nr - (intOf v).toNat)
 case atStart => exact ⟨0, rfl, Nat.zero_le _, hid HS1.out⟩
 case round =>
  obtain ⟨i, rfl, hi, HJ⟩ := hrel;obtain ⟨D2, hT2, hown2, hK2⟩ := HJ.out;by_cases hlt : i < nr
  ·obtain ⟨y, hy⟩ : ∃ z, m.regs[i]? = some z := ⟨_, List.getElem?_eq_getElem (by rw [HNR.out]; exact hlt)⟩;have hVr : Below V.heap.size V wr := HV7.out.trans (hT2.below hVk (Nat.le_trans hVk (Nat.le_of_lt hkB)) HVs7.out);obtain ⟨A', c', e1, _, _, _, hall⟩ := HR.out;obtain ⟨b, o, cs, e2, hb, hcl, hcell, hE⟩ := hall i y hy;obtain ⟨rfl, rfl⟩ : Ar = A' /\ cr = c' := by cases e1; exact ⟨rfl, rfl⟩
   subst e2;obtain ⟨rfl, hys, hyw, _⟩ := hE;have p0 : wr.cell? ⟨b, o + i * 4, none⟩ = some (.string y.name) := (hVr.cell (p := ⟨b, o + i * 4, none⟩) hb).trans (by simpa using hcell 0 _ rfl);have p1 : wr.cell? ⟨b, o + i * 4 + 1, none⟩ = some (.int .i64 y.width) := (hVr.cell (p := ⟨b, o + i * 4 + 1, none⟩) hb).trans (hcell 1 _ rfl);have p2 : wr.cell? ⟨b, o + i * 4 + 2, none⟩ = some (.int .i64 y.par) := (hVr.cell (p := ⟨b, o + i * 4 + 2, none⟩) hb).trans (hcell 2 _ rfl);have p3 : wr.cell? ⟨b, o + i * 4 + 3, none⟩ = some (.int .i64 y.low) := (hVr.cell (p := ⟨b, o + i * 4 + 3, none⟩) hb).trans (hcell 3 _ rfl);have hCw := hT2.chk HC7'.out;have hkw := hCw.lt;obtain ⟨W1, hW1⟩ : ∃ W1, W1 = wr.alloc (.cells #[.string y.name, .int .i64 y.width, .int .i64 y.par, .int .i64 y.low] 96) := ⟨_, rfl⟩;have HW1 := hid hW1;have hb1 : Below wr.heap.size wr W1 := by rw [hW1]; exact (Below.refl _ _).alloc (Nat.le_refl _) _
   have hblk1 := zg8 wr (.string y.name) (.int .i64 y.width) (.int .i64 y.par) (.int .i64 y.low) _ rfl;rw [<- hW1] at hblk1;have f0 : W1.cell? ⟨wr.heap.size, 0, none⟩ = some (.string y.name) := zb hblk1 rfl;have f1 : W1.cell? ⟨wr.heap.size, 1, none⟩ = some (.int .i64 y.width) := zb hblk1 rfl;have d7 := (hb1.cell (p := ⟨k, 7, none⟩) hkw).trans hCw.c7;have F0 := cell_regrown f0;have F1 := cell_regrown f1;have D7 := cell_regrown d7;have hbX : ∀ X, Below W1.heap.size W1 X -> Below wr.heap.size wr X := fun X hX => hb1.trans (hX.mono hb1.size);have HPOST := hid (show ∀ X, Below W1.heap.size W1 X -> X.ownsMap prog 9 (plainElem prog 3) B (1 + i) D2 /\ ∀ w4, w4.ownsMap prog 9 (plainElem prog 3) B (1 + i + 1) (D2.put (z1b (rDot y.name)) (.lit (.int .i64 y.width))) -> X.mapTurned w4 B -> Then7 k B W7 w4 (!q) /\ w4.ownsMap prog 9 (plainElem prog 3) B (1 + (i + 1)) (D2.put (z1b (rDot y.name)) (.lit (.int .i64 y.width))) /\ z1o (z9p (putK (fun _ => 0) z1a m.address) (m.regs.take (i + 1))) (D2.put (z1b (rDot y.name)) (.lit (.int .i64 y.width))) from fun X hX => by
    have hX1 := hbX X hX;refine ⟨z1u hown2 hX1, fun w4 h4 ht4 => ⟨?_, h4, ?_⟩⟩
    ·have h5 : Then7 k B W7 X (!q) := hT2.trans ((Then8.grown hX1 hkw hCw.c8 hCw.fz).to7 B);exact h5.trans (Then7.turned ht4 (by omega) h5.c8 h5.fz)
    ·have htk2 : m.regs.take (i + 1) = m.regs.take i ++ [y] := (by rw [List.take_add_one, hy]; rfl);rw [htk2, z7q];exact z5l hK2 _ _)
   have hy24 : y.name.size <= 24 := by
    have h9 := hrn y (List.mem_of_getElem? hy);by_cases hp : z8l y.name
    ·exact hp.2.1
    ·rw [z2f hp] at h9; cases h9
   have HRS := hid (show (rDot y.name).size <= maxLen by rw [zep]; unfold maxLen; omega);have HLT := hid hlt;have HNI := hid (show 1 + i < maxLen by have := HNR.out; unfold maxLen; omega);have HYW := hid (show (Lit.int .i64 y.width).wf = true by simp [Lit.wf, IntKind.min, IntKind.max, IntKind.bits, IntKind.signed]; omega);have hin : (i : Int) < (nr : Int) := by omega
   have hap := zb8 y.name hy24;obtain ⟨RD, hRD⟩ : ∃ z, rDot y.name = z := ⟨_, rfl⟩;rw [hRD] at HPOST HRS hap;obtain ⟨YN, hYN⟩ : ∃ z, y.name = z := ⟨_, rfl⟩;obtain ⟨y1, h1⟩ : ∃ z : Int, y.width = z := ⟨_, rfl⟩;obtain ⟨y2, h2⟩ : ∃ z : Int, y.par = z := ⟨_, rfl⟩;obtain ⟨y3, h3⟩ : ∃ z : Int, y.low = z := ⟨_, rfl⟩;rw [hYN] at p0 f0 F0 HW1 hap;rw [h1] at p1 f1 F1 HW1 HPOST HYW;rw [h2] at p2 HW1;rw [h3] at p3 HW1;clear hT2 hown2 hK2 hVr e1 hall hcell hcl hy hW1 hblk1 hbX hYN h1 h2 h3 HJ hb1 hCw hys hy24 hRD hyw;go_wp2_with fail
   rw [<- HW1.out];refine z1q 9 (by kernel_rfl) (by kernel_rfl) ?_;simp only [List.take_succ_cons, List.take_zero, List.drop_succ_cons, List.drop_zero];repeat (first | go_big_quiet_step (fail) | quiet_step (fail))
   refine wpQuiet_nil ?_;intro X hX;have hbX : Below W1.heap.size W1 X := by obtain ⟨p, rfl⟩ := hX; exact below_regrown _ _ _
   have HPX := hid (HPOST.out X hbX);clear hX hbX f0 f1 F0 F1 d7 D7 p0 p1 p2 p3;refine wpList_mapUpdate_in _ rfl _ _ _ 139 rfl 9 3 (Maps.string_keyed Tryz.underlying9) Tryz.underlying139 _ B (1 + i) D2 rfl HPX.out.1 HNI.out _ _ _ rfl rfl (Go.WideMaps.keyOf_string_mk Tryz.underlying9 HRS.out) _ _ (plainElem_int Tryz.underlying3 HYW.out) ?_;intro w4 hown4 ht4;have HP4 := hid (HPX.out.2 w4 hown4 ht4);clear hown4 ht4;go_wp2
   go_roundw
   case rel => exact ⟨i + 1, by first | rfl | go_num | (congr 1), by have := HLT.out; omega, hid ⟨_, HP4.out⟩⟩
   case measure => simp only [intOf]; have := HLT.out; omega
  ·obtain rfl : i = nr := by omega
   rw [List.take_of_length_le (by rw [HNR.out]; exact Nat.le_refl _)] at hK2;have hK2 : z1o (z3x m) D2 := hK2;have c6w := (hT2.chk HC7'.out).c6;have HS2 := hid (show ∃ b D3 n3, Then7 k B W7 wr b /\ (b || !((m.instrs.drop 0).all (insR m (z3x m)))) = r /\ n3 <= 2000 + 1000 * 0 /\ wr.ownsMap prog 9 (plainElem prog 3) B n3 D3 /\ z1o (z3x m) D3 from ⟨!q, D2, 1 + i, hT2, by rw [<- HRR.out, List.drop_zero];unfold z42;rw [HQ.out];cases q <;> simp, by have := HNR.out; omega, hown2, hK2⟩)
   obtain ⟨Z, hZs, hZ⟩ : ∃ Z : Array Value, Z.size = 9 /\ ∀ w, (Instr.alloc 83 true (.tuple #[])).run prog w = .ok (.pointer (some ⟨w.heap.size, 0, none⟩)) (w.alloc (.cells Z 83)) :=
    ⟨#[.string ⟨#[]⟩, .int .u64 0, .int .u64 0, .slice none 0 0, .slice none 0 0, .int .i64 0, .int .i64 0, .int .i64 0, .int .i64 0], rfl, fun w => by kernel_rfl⟩
   have HZ := hid hZ;have HZS := hid hZs;clear hZ hZs hT2 hown2 hK2 HJ hlt hi;go_wp2
   go_loopw [51] (fun v wr => ∃ j : Nat, v = .int .i64 j /\ j <= n /\ Hid (∃ b D3 n3, Then7 k B W7 wr b /\ (b || !((m.instrs.drop j).all (insR m (z3x m)))) = r /\ n3 <= 2000 + 1000 * j /\ wr.ownsMap prog 9 (plainElem prog 3) B n3 D3 /\ z1o (z3x m) D3)) (fun v _ => n - (intOf v).toNat)
   case atStart => exact ⟨0, rfl, Nat.zero_le _, hid HS2.out⟩
   case round =>
    obtain ⟨j, rfl, hj, HJ⟩ := hrel;obtain ⟨bj, D3, n3, hT3, hbj, hn3, hown3, hK3⟩ := HJ.out;by_cases hlt : j < n
    ·obtain ⟨x, hx⟩ : ∃ z, m.instrs[j]? = some z := ⟨_, List.getElem?_eq_getElem (by rw [HN.out]; exact hlt)⟩;have hxm := List.mem_of_getElem? hx;have hVr : Below V.heap.size V wr := HV7.out.trans (hT3.below hVk (Nat.le_trans hVk (Nat.le_of_lt hkB)) HVs7.out);obtain ⟨A', c', e1, _, _, _, hall⟩ := HI.out;obtain ⟨b, o, cs, e2, hb, hcl, hcell, hE⟩ := hall j x hx;obtain ⟨rfl, rfl⟩ : A = A' /\ c = c' := by cases e1; exact ⟨rfl, rfl⟩
     subst e2;have hEx := hE;obtain ⟨so, se, rfl, _, _, _, hso, hse, _⟩ := hE;obtain ⟨S1, z1, rfl, _⟩ := hso;obtain ⟨S2, z2, rfl, _⟩ := hse;obtain ⟨CX, hCX⟩ : ∃ CX : Array Value, CX = ([.string x.name, .int .u64 (x.mask : Nat), .int .u64 (x.mtch : Nat), .slice S1 x.opers.length z1, .slice S2 x.effs.length z2, .int .i64 x.unit, .int .i64 x.busy, .int .i64 x.lat, .int .i64 x.slots] : List Value).toArray := ⟨_, rfl⟩;have hCl : CX.size = 9 := (by rw [hCX]; rfl);have HI57 := hid (show (prog.info? 83).map (·.size) = some CX.size by rw [hCl]; kernel_rfl);have HZ2 := hid (show Z.size = CX.size by rw [hCl]; exact HZS.out);have HONE := hid (show CX.all (·.oneCell') = true by rw [hCX]; simp [Value.oneCell']);have HCC := hid (show ∀ q v, CX[q]? = some v -> wr.cell? ⟨b, o + j * 9 + q, none⟩ = some v from fun q v hq => (hVr.cell (p := ⟨b, o + j * 9 + q, none⟩) hb).trans (hcell q v (by rw [hCX] at hq; simpa using hq)));have hb1 : Below wr.heap.size wr (wr.alloc (.cells CX 83)) := (Below.refl _ _).alloc (Nat.le_refl _) _;have HNEW := hid (show ∀ q v, CX[q]? = some v -> (wr.alloc (.cells CX 83)).cell? ⟨wr.heap.size, 0 + q, none⟩ = some v from fun q v hq => by rw [Nat.zero_add];exact zl rfl hq)
     have hCw := hT3.chk HC7'.out;have hkw := hCw.lt;obtain ⟨hx1, hx2, hx3, hx4⟩ := hlim x hxm;have HCI := hid (show Calls prog 148 #[.pointer (some ⟨k, 0, none⟩), .agg CX] (wr.alloc (.cells CX 83)) fun e w' => e = .returned (.tuple #[]) /\ Then7 k B W7 w' (bj || !(insR m (z3x m) x)) /\ ∃ D' n', n' <= 2000 + 1000 * (j + 1) /\ w'.ownsMap prog 9 (plainElem prog 3) B n' D' /\ z1o (z3x m) D' from by have hV1 := hVr.trans (hb1.mono hVr.size);have h := z72 (wr.alloc (.cells CX 83)) k m _ sb _ _ B n3 D3 (z3x m) bj (hCw.later hb1) hkB (z1u hown3 hb1) (by have := HN.out; omega) hK3 hadr hword V hVk hV1 hT HRn.out hL hU hbk x _ hEx hx1 hx2 hx3 hx4 (fun s h1 h2 => zbm m h1 h2);rw [<- hCX] at h;refine h.mono fun e w' ⟨h1, h2, D', n', h3, h4⟩ => ⟨h1, hT3.trans (((Then8.grown hb1 hkw hCw.c8 hCw.fz).to7 B).trans h2), D', n', by omega, h4⟩)
     have hdj : m.instrs.drop j = x :: m.instrs.drop (j + 1) := by
      rw [List.drop_eq_getElem_cons (by rw [HN.out]; exact hlt)]
      congr 1
      exact Option.some.inj ((List.getElem?_eq_getElem _).symm.trans hx)
     rw [hdj, List.all_cons] at hbj;have HBJ := hid hbj;have HLT := hid hlt;have HB79 := hid (show ∀ (w9 : World) (b9 : Bool), Then7 k B W7 w9 b9 -> Below k W w9 from fun w9 b9 h => HB7.out.trans (h.below (Nat.le_refl _) (Nat.le_of_lt hkB) (by have := HBL.out; omega)));have hjn : (j : Int) < (n : Int) := (by omega);clear hcell hcl hall hx e1 hVr HJ hCX hCl hT3 hb1 hCw hkw hbj hown3 hEx hdj hK3 hxm hx1 hx2 hx3 hx4
     go_wp2_with (first
      | (refine z1k rfl 83 _ rfl b (o + j * 9) rfl CX _ Tryz.underlying83 rfl HI57.out HCC.out ?_)
      | (refine z3d rfl 83 rfl Z HZ.out ?_)
      | (refine z3e rfl 83 _ _ rfl Z CX rfl rfl HI57.out HZ2.out HONE.out ?_)
      | (refine z1k rfl 83 _ rfl wr.heap.size 0 rfl CX _ Tryz.underlying83 rfl HI57.out HNEW.out ?_)
      | (go_at_call 148; (with_reducible refine HCI.out.mono ?_); rintro e w9 ⟨rfl, hT9, hrest⟩; have ⟨b9, hb9, hT8⟩ : ∃ b9, _ = b9 /\ Then7 k B W7 w9 b9 := ⟨_, rfl, hT9⟩; have HB9 := hid hb9; have HR9 := hid hrest; clear hb9 hT9 hrest; have hc8 := hT8.c8; cases b9))
     ·go_roundw
      case rel => exact ⟨j + 1, by first | rfl | go_num | (congr 1), by have := HLT.out; omega, hid (by obtain ⟨D9, n9, h9, h10, h11⟩ := HR9.out;refine ⟨false, D9, n9, hT8, ?_, h9, h10, h11⟩;have h1 := HB9.out;rw [<- HBJ.out];revert h1;cases bj <;> cases insR m (z3x m) x <;> simp)⟩
      case measure => simp only [intOf]; have := HLT.out; omega
     ·have hr1 : r = true := by
       have h1 := HB9.out;rw [<- HBJ.out];revert h1;cases bj <;> cases insR m (z3x m) x <;> simp
      exact bodyPost_ret (v := .tuple #[]) (by simp [results, Tryz.results113, go_sem]) rfl ⟨rfl, HB79.out _ _ hT8, by rw [hr1]; exact hc8⟩
    ·obtain rfl : j = n := by omega
     rw [List.drop_eq_nil_of_le (by rw [HN.out]; exact Nat.le_refl _)] at hbj;obtain rfl : bj = r := by simpa using hbj
     have hfin : Below k W wr /\ wr.cell? ⟨k, 8, none⟩ = some (.bool bj) := ⟨HB7.out.trans (hT3.below (Nat.le_refl _) (Nat.le_of_lt hkB) (by have := HBL.out; omega)), hT3.c8⟩;have HFIN := hid hfin;clear hfin hT3 hown3 hK3 HJ;go_wp2
     exact bodyPost_end (v := .tuple #[]) (by simp [results, Tryz.results113, go_sem]) rfl ⟨rfl, HFIN.out⟩
theorem za8 {m : Mach} (h : z31 m = true) : (1 <= m.word /\ m.word <= 4) /\ (m.address = 16 ∨ m.address = 32) := by unfold z31 at h;simp only [Bool.and_eq_true, decide_eq_true_eq] at h;exact h.2
theorem z7k {m : Mach} (h : limM m = true) : m.regs.length <= 64 /\ m.units.length <= 8 /\ m.banks.length <= 16 /\ (∀ b ∈ m.banks, b.regs.length <= 64) /\ m.instrs.length <= 64 /\ ∀ i ∈ m.instrs, i.effs.length <= 4 /\ i.opers.length <= 4 /\ ∀ o ∈ i.opers, o.pieces.length <= 4 := by unfold limM at h;simp only [Bool.and_eq_true, decide_eq_true_eq, List.all_eq_true] at h;obtain ⟨⟨⟨h1, h2⟩, h3, h4⟩, h5, h6⟩ := h;refine ⟨h1, h2, h3, fun b hb => by have := h4 b hb; unfold limB at this; simpa using this, h5, fun i hi => ?_⟩;have := h6 i hi;unfold limI at this;simp only [Bool.and_eq_true, decide_eq_true_eq, List.all_eq_true] at this;exact ⟨this.1, this.2.1, fun o ho => by have h9 := this.2.2 o ho; unfold limO at h9; simpa using h9⟩
theorem zbo (W : World) (k : Nat) (m : Mach) (sr sb su si wm : Value) (hC : ChkAt W k m sr sb su si wm false) (hf7 : W.frozen? ⟨k, 7, none⟩ = false)
 (V : World) (hVk : V.heap.size <= k) (hVW : Below V.heap.size V W) (hT : zs V) (hR : zf 4 regE V sr m.regs) (hL : zf 2 z1m V sb m.banks) (hU : zf 2 z3u V su m.units) (hI : zf 9 insE V si m.instrs)
 (hlim : limM m = true) (hef : ∀ x ∈ m.instrs, ∀ f ∈ x.effs, z3v f) :
 Calls prog 83 #[.pointer (some ⟨k, 0, none⟩)] W fun e w' => e = .returned (.tuple #[]) /\ Below k W w' /\ w'.cell? ⟨k, 8, none⟩ = some (.bool (!(z26 m))) := by
 have hk := hC.lt;obtain ⟨l1, l2, l3, l4, l5, l6⟩ := z7k hlim;obtain ⟨W1, hW1⟩ : ∃ W1, W1 = W.alloc (.cells #[.func (.func 109) #[.pointer (some ⟨k, 0, none⟩)] #[], .func (.func 110) #[.pointer (some ⟨k, 0, none⟩)] #[], .func (.func 111) #[.pointer (some ⟨k, 0, none⟩)] #[], .func (.func 112) #[.pointer (some ⟨k, 0, none⟩)] #[], .func (.func 113) #[.pointer (some ⟨k, 0, none⟩)] #[]] 1) := ⟨_, rfl⟩;have hb1 : Below W.heap.size W W1 := by rw [hW1]; exact (Below.refl _ _).alloc (Nat.le_refl _) _
 have hblk : W1.heap[W.heap.size]? = some (.cells #[.func (.func 109) #[.pointer (some ⟨k, 0, none⟩)] #[], .func (.func 110) #[.pointer (some ⟨k, 0, none⟩)] #[], .func (.func 111) #[.pointer (some ⟨k, 0, none⟩)] #[], .func (.func 112) #[.pointer (some ⟨k, 0, none⟩)] #[], .func (.func 113) #[.pointer (some ⟨k, 0, none⟩)] #[]] 1) := by rw [hW1]; exact heap_alloc_new _ _
 have hl1 : W.heap.size < W1.heap.size := by rw [hW1]; simp
 have hC1 := hC.later hb1;have hk1 := hC1.lt;have HW1 := hid hW1;have HBK := hid (show Below k W W1 from hb1.mono (Nat.le_of_lt hk));have HCB := hid (show ∀ X b, Then8 k W1 X b -> X.heap[W.heap.size]? = some (.cells #[.func (.func 109) #[.pointer (some ⟨k, 0, none⟩)] #[], .func (.func 110) #[.pointer (some ⟨k, 0, none⟩)] #[], .func (.func 111) #[.pointer (some ⟨k, 0, none⟩)] #[], .func (.func 112) #[.pointer (some ⟨k, 0, none⟩)] #[], .func (.func 113) #[.pointer (some ⟨k, 0, none⟩)] #[]] 1) from fun X b h => by rw [h.block _ hl1 (by omega)]; exact hblk);have hV1 : Below V.heap.size V W1 := hVW.trans (hb1.mono hVW.size);have HV := hid (show ∀ X b, Then8 k W1 X b -> Below V.heap.size V X from fun X b h => hV1.trans (h.below hVk (Nat.le_trans hVk (Nat.le_of_lt hk1))));have HVX := hid (show ∀ X b, Then8 k W1 X b -> ∀ Y, Below k X Y -> Below V.heap.size V Y from fun X b h Y hY => (HV.out X b h).trans (hY.mono hVk));have HC1 := hid hC1;have HS0 := hid (Then8.grown (Below.refl W1.heap.size W1) hk1 hC1.c8 hC1.fz);have HF7 := hid (show W1.frozen? ⟨k, 7, none⟩ = false by rw [hb1.frozen (p := ⟨k, 7, none⟩) hk]; exact hf7);have en0 : ∀ (args : Array Value) (w : World), Sem.run prog (callFunc 109 args) w = .ok (.enter 109 args) w := fun _ _ => by kernel_rfl
 have en1 : ∀ (args : Array Value) (w : World), Sem.run prog (callFunc 110 args) w = .ok (.enter 110 args) w := fun _ _ => by kernel_rfl
 have en2 : ∀ (args : Array Value) (w : World), Sem.run prog (callFunc 111 args) w = .ok (.enter 111 args) w := fun _ _ => by kernel_rfl
 have en3 : ∀ (args : Array Value) (w : World), Sem.run prog (callFunc 112 args) w = .ok (.enter 112 args) w := fun _ _ => by kernel_rfl
 have en4 : ∀ (args : Array Value) (w : World), Sem.run prog (callFunc 113 args) w = .ok (.enter 113 args) w := fun _ _ => by kernel_rfl
 have HP0 := hid (show ∀ X, Then8 k W1 X false -> Calls prog 109 #[.pointer (some ⟨k, 0, none⟩)] X fun e w' => e = .returned (.tuple #[]) /\ Then8 k W1 w' (!(z31 m)) from fun X hX => by have hCX := hX.chk HC1.out;refine (zfm X k m sr sb su si wm hCX).mono fun e w' ⟨h1, w1, h2, h3⟩ => ⟨h1, ?_⟩;rw [h3];exact hX.trans (Then8.set _ h2 hCX.lt hCX.c8 hCX.fz))
 have HP1 := hid (show ∀ X, Then8 k W1 X false -> Calls prog 110 #[.pointer (some ⟨k, 0, none⟩)] X fun e w' => e = .returned (.tuple #[]) /\ Then8 k W1 w' (!(z2h m.regs)) from fun X hX =>
  (z7w X k m sr sb su si wm false (hX.chk HC1.out) (fun Y hY => hR.kept (fun cs x hx => regE.kept hx (HVX.out X _ hX Y hY)) (HVX.out X _ hX Y hY)) (by omega)).mono fun e w' ⟨h1, h2⟩ => ⟨h1, by rw [Bool.false_or] at h2; exact hX.trans h2⟩)
 have HP2 := hid (show ∀ X, Then8 k W1 X false -> Calls prog 111 #[.pointer (some ⟨k, 0, none⟩)] X fun e w' => e = .returned (.tuple #[]) /\ Then8 k W1 w' (!(z22 m.regs m.banks)) from fun X hX =>
  (z71 X k m sr sb su si wm false m.regs (hX.chk HC1.out) (fun Y hY => hR.kept (fun cs x hx => regE.kept hx (HVX.out X _ hX Y hY)) (HVX.out X _ hX Y hY)) l1 (fun Y hY => hL.kept (fun cs x hx => z1m.kept hx (HVX.out X _ hX Y hY)) (HVX.out X _ hX Y hY)) (by omega)).mono fun e w' ⟨h1, h2⟩ => ⟨h1, by rw [Bool.false_or] at h2; exact hX.trans h2⟩)
 have HP3 := hid (show ∀ X, Then8 k W1 X false -> Calls prog 112 #[.pointer (some ⟨k, 0, none⟩)] X fun e w' => e = .returned (.tuple #[]) /\ Then8 k W1 w' (!(z35 m.units)) from fun X hX =>
  (z73 X k m sr sb su si wm false (hX.chk HC1.out) (fun Y hY => hU.kept (fun cs x hx => z3u.kept hx (HVX.out X _ hX Y hY)) (HVX.out X _ hX Y hY)) (by omega)).mono fun e w' ⟨h1, h2⟩ => ⟨h1, by rw [Bool.false_or] at h2; exact hX.trans h2⟩)
 have HP4 := hid (show ∀ X, Then8 k W1 X false -> z31 m = true -> z2h m.regs = true -> z22 m.regs m.banks = true -> Calls prog 113 #[.pointer (some ⟨k, 0, none⟩)] X fun e w' => e = .returned (.tuple #[]) /\ Below k W1 w' /\ w'.cell? ⟨k, 8, none⟩ = some (.bool (!(z42 m))) from fun X hX q1 q2 q3 => by obtain ⟨hw, ha⟩ := za8 q1;unfold z2h at q2;unfold z22 at q3;simp only [Bool.and_eq_true, List.all_eq_true] at q2 q3;refine (z67 X k m sr sb su si wm (hX.chk HC1.out) (by rw [hX.fr 7]; exact HF7.out) ha hw V hVk (HV.out X _ hX) hT hR hL hU hI q3.2 (fun x hx => z5o _ _ q2.1.2 _ (List.mem_map_of_mem hx)) (by omega) (by omega) (fun x hx => ?_)).mono fun e w' ⟨h1, h2, h3⟩ => ⟨h1, (hX.below (Nat.le_refl _) (Nat.le_of_lt hk1)).trans h2, h3⟩;obtain ⟨a1, a2, a3⟩ := l6 x hx;exact ⟨by omega, by omega, fun o ho => by have := a3 o ho; omega, hef x hx⟩)
 have HBK1 := hid (show ∀ X b, Then8 k W1 X b -> Below k W X from fun X b h => HBK.out.trans (h.below (Nat.le_refl _) (Nat.le_of_lt hk1)));have HST := hid (show ∀ X, Then8 k W1 X false -> ∀ i : Nat, i < 5 -> (1 <= i -> z31 m = true) -> (2 <= i -> z2h m.regs = true) -> (3 <= i -> z22 m.regs m.banks = true) -> (4 <= i -> z35 m.units = true) -> (i < 5 /\ Then8 k W1 X false /\ (1 <= i -> z31 m = true) /\ (2 <= i -> z2h m.regs = true) /\ (3 <= i -> z22 m.regs m.banks = true) /\ (4 <= i -> z35 m.units = true)) ∨ (i = 5 /\ Below k W1 X /\ X.cell? ⟨k, 8, none⟩ = some (.bool false) /\ z26 m = true) from fun X h i h0 h1 h2 h3 h4 => Or.inl ⟨h0, h, h1, h2, h3, h4⟩);clear hC hf7 hVW hT hR hL hU hI hlim hef l1 l2 l3 l4 l5 l6 hW1 hb1 hblk hl1 hC1 hV1;go_enter Tryz.func83, Tryz.ntmps83
 go_wp2
 rw [<- HW1.out];go_loopw [16] (fun v wr => ∃ i : Nat, v = .int .i64 i /\ i <= 5 /\ Hid ((i < 5 /\ Then8 k W1 wr false /\ (1 <= i -> z31 m = true) /\ (2 <= i -> z2h m.regs = true) /\ (3 <= i -> z22 m.regs m.banks = true) /\ (4 <= i -> z35 m.units = true)) ∨ (i = 5 /\ Below k W1 wr /\ wr.cell? ⟨k, 8, none⟩ = some (.bool false) /\ z26 m = true))) (fun v _ => 5 - (intOf v).toNat)
 case atStart => exact ⟨0, rfl, by omega, hid (HST.out _ HS0.out 0 (by omega) (by omega) (by omega) (by omega) (by omega))⟩
 case round =>
  obtain ⟨i, rfl, hi, HI⟩ := hrel;rcases HI.out with ⟨h5, hT, q1, q2, q3, q4⟩ | ⟨rfl, hB, hc8, hv⟩
  ·have h9 := HCB.out _ _ hT;have k0 : wr.cell? ⟨W.heap.size, 0, none⟩ = some (.func (.func 109) #[.pointer (some ⟨k, 0, none⟩)] #[]) := zb h9 rfl;have k1 : wr.cell? ⟨W.heap.size, 1, none⟩ = some (.func (.func 110) #[.pointer (some ⟨k, 0, none⟩)] #[]) := zb h9 rfl;have k2 : wr.cell? ⟨W.heap.size, 2, none⟩ = some (.func (.func 111) #[.pointer (some ⟨k, 0, none⟩)] #[]) := zb h9 rfl;have k3 : wr.cell? ⟨W.heap.size, 3, none⟩ = some (.func (.func 112) #[.pointer (some ⟨k, 0, none⟩)] #[]) := zb h9 rfl;have k4 : wr.cell? ⟨W.heap.size, 4, none⟩ = some (.func (.func 113) #[.pointer (some ⟨k, 0, none⟩)] #[]) := zb h9 rfl;have HT := hid hT;have Q1 := hid q1;have Q2 := hid q2;have Q3 := hid q3;have Q4 := hid q4;have hcases : i = 0 ∨ i = 1 ∨ i = 2 ∨ i = 3 ∨ i = 4 := by omega
   clear hT q1 q2 q3 q4 HI h9 hi h5;rcases hcases with rfl | rfl | rfl | rfl | rfl
   ·obtain ⟨bq, hq⟩ : ∃ b, z31 m = b := ⟨_, rfl⟩
    cases bq with
    | false =>
      have HQ := hid hq;clear hq;go_wp2_with ((with_reducible refine (HP0.out _ HT.out).mono ?_); rintro e w9 ⟨rfl, hT9⟩; rw [HQ.out] at hT9; have HT9 := hid hT9; have hc8 := hT9.c8; clear hT9)
      exact bodyPost_ret (v := .tuple #[]) (by simp [results, Tryz.results83, go_sem]) rfl ⟨rfl, HBK1.out _ _ HT9.out, by rw [show (!(z26 m)) = true from (by unfold z26; simp [HQ.out])]; exact hc8⟩
    | true =>
      have HQ := hid hq;clear hq;go_wp2_with ((with_reducible refine (HP0.out _ HT.out).mono ?_); rintro e w9 ⟨rfl, hT9⟩; rw [HQ.out] at hT9; have HT9 := hid hT9; have hc8 := hT9.c8; clear hT9)
      go_roundw
      case rel => exact ⟨1, by first | rfl | go_num | (congr 1), by omega, hid (HST.out _ HT9.out 1 (by omega) (fun _ => HQ.out) (fun h => absurd h (by omega)) (fun h => absurd h (by omega)) (fun h => absurd h (by omega)))⟩
      case measure => simp only [intOf]; omega
   ·obtain ⟨bq, hq⟩ : ∃ b, z2h m.regs = b := ⟨_, rfl⟩
    cases bq with
    | false =>
      have HQ := hid hq;clear hq;go_wp2_with ((with_reducible refine (HP1.out _ HT.out).mono ?_); rintro e w9 ⟨rfl, hT9⟩; rw [HQ.out] at hT9; have HT9 := hid hT9; have hc8 := hT9.c8; clear hT9)
      exact bodyPost_ret (v := .tuple #[]) (by simp [results, Tryz.results83, go_sem]) rfl ⟨rfl, HBK1.out _ _ HT9.out, by rw [show (!(z26 m)) = true from (by unfold z26; simp [HQ.out])]; exact hc8⟩
    | true =>
      have HQ := hid hq;clear hq;go_wp2_with ((with_reducible refine (HP1.out _ HT.out).mono ?_); rintro e w9 ⟨rfl, hT9⟩; rw [HQ.out] at hT9; have HT9 := hid hT9; have hc8 := hT9.c8; clear hT9)
      go_roundw
      case rel => exact ⟨2, by first | rfl | go_num | (congr 1), by omega, hid (HST.out _ HT9.out 2 (by omega) (fun _ => Q1.out (by omega)) (fun _ => HQ.out) (fun h => absurd h (by omega)) (fun h => absurd h (by omega)))⟩
      case measure => simp only [intOf]; omega
   ·obtain ⟨bq, hq⟩ : ∃ b, z22 m.regs m.banks = b := ⟨_, rfl⟩
    cases bq with
    | false =>
      have HQ := hid hq;clear hq;go_wp2_with ((with_reducible refine (HP2.out _ HT.out).mono ?_); rintro e w9 ⟨rfl, hT9⟩; rw [HQ.out] at hT9; have HT9 := hid hT9; have hc8 := hT9.c8; clear hT9)
      exact bodyPost_ret (v := .tuple #[]) (by simp [results, Tryz.results83, go_sem]) rfl ⟨rfl, HBK1.out _ _ HT9.out, by rw [show (!(z26 m)) = true from (by unfold z26; simp [HQ.out])]; exact hc8⟩
    | true =>
      have HQ := hid hq;clear hq;go_wp2_with ((with_reducible refine (HP2.out _ HT.out).mono ?_); rintro e w9 ⟨rfl, hT9⟩; rw [HQ.out] at hT9; have HT9 := hid hT9; have hc8 := hT9.c8; clear hT9)
      go_roundw
      case rel => exact ⟨3, by first | rfl | go_num | (congr 1), by omega, hid (HST.out _ HT9.out 3 (by omega) (fun _ => Q1.out (by omega)) (fun _ => Q2.out (by omega)) (fun _ => HQ.out) (fun h => absurd h (by omega)))⟩
      case measure => simp only [intOf]; omega
   ·obtain ⟨bq, hq⟩ : ∃ b, z35 m.units = b := ⟨_, rfl⟩
    cases bq with
    | false =>
      have HQ := hid hq;clear hq;go_wp2_with ((with_reducible refine (HP3.out _ HT.out).mono ?_); rintro e w9 ⟨rfl, hT9⟩; rw [HQ.out] at hT9; have HT9 := hid hT9; have hc8 := hT9.c8; clear hT9)
      exact bodyPost_ret (v := .tuple #[]) (by simp [results, Tryz.results83, go_sem]) rfl ⟨rfl, HBK1.out _ _ HT9.out, by rw [show (!(z26 m)) = true from (by unfold z26; simp [HQ.out])]; exact hc8⟩
    | true =>
      have HQ := hid hq;clear hq;go_wp2_with ((with_reducible refine (HP3.out _ HT.out).mono ?_); rintro e w9 ⟨rfl, hT9⟩; rw [HQ.out] at hT9; have HT9 := hid hT9; have hc8 := hT9.c8; clear hT9)
      go_roundw
      case rel => exact ⟨4, by first | rfl | go_num | (congr 1), by omega, hid (HST.out _ HT9.out 4 (by omega) (fun _ => Q1.out (by omega)) (fun _ => Q2.out (by omega)) (fun _ => Q3.out (by omega)) (fun _ => HQ.out))⟩
      case measure => simp only [intOf]; omega
   ·obtain ⟨bq, hq⟩ : ∃ b, z42 m = b := ⟨_, rfl⟩
    cases bq with
    | false =>
      have HQ := hid hq;clear hq;go_wp2_with ((with_reducible refine (HP4.out _ HT.out (Q1.out (by omega)) (Q2.out (by omega)) (Q3.out (by omega))).mono ?_); rintro e w9 ⟨rfl, hB9, hc8⟩; rw [HQ.out] at hc8; have HB9 := hid hB9; clear hB9)
      exact bodyPost_ret (v := .tuple #[]) (by simp [results, Tryz.results83, go_sem]) rfl ⟨rfl, HBK.out.trans HB9.out, by rw [show (!(z26 m)) = true from (by unfold z26; simp [HQ.out])]; exact hc8⟩
    | true =>
      have HQ := hid hq;clear hq;go_wp2_with ((with_reducible refine (HP4.out _ HT.out (Q1.out (by omega)) (Q2.out (by omega)) (Q3.out (by omega))).mono ?_); rintro e w9 ⟨rfl, hB9, hc8⟩; rw [HQ.out] at hc8; have HB9 := hid hB9; clear hB9)
      go_roundw
      case rel => exact ⟨5, by first | rfl | go_num | (congr 1), by omega, hid (Or.inr ⟨rfl, HB9.out, hc8, by unfold z26; rw [Q1.out (by omega), Q2.out (by omega), Q3.out (by omega), Q4.out (by omega), HQ.out]; rfl⟩)⟩
      case measure => simp only [intOf]; omega
  ·have HFIN := hid (show Below k W wr /\ wr.cell? ⟨k, 8, none⟩ = some (.bool (!(z26 m))) from ⟨HBK.out.trans hB, by rw [hv]; exact hc8⟩);clear hB hv HI;go_wp2
   exact bodyPost_end (v := .tuple #[]) (by simp [results, Tryz.results83, go_sem]) rfl ⟨rfl, HFIN.out⟩
theorem z4e (w : World) (v : Value) (m : Mach) (hm : zz w v m) (hT : zs w) (hef : ∀ x ∈ m.instrs, ∀ f ∈ x.effs, z3v f) :
 Calls prog 41 #[v] w fun e w' => e = .returned (.int .i64 (chkR m)) /\ Below w.heap.size w w' := by
 have HLIM := hid (fun X (hX : Below w.heap.size w X) => z80 X v m (hm.kept hX));obtain ⟨cs0, rfl, sr, sb, su, si, hcs, h1, h2, h3, hR, hB, hU, hI⟩ := hm;obtain rfl : cs0 = #[.string m.name, .int .i64 m.word, .int .i64 m.address, sr, sb, su, si] := by cases cs0; simp_all
 obtain ⟨Ar, cr, rfl, _⟩ := id hR;obtain ⟨Ab, cb, rfl, _⟩ := id hB;obtain ⟨Au, cu, rfl, _⟩ := id hU;obtain ⟨Ai, ci, rfl, _⟩ := id hI;obtain ⟨nr, hnr⟩ : ∃ z, m.regs.length = z := ⟨_, rfl⟩;obtain ⟨nb, hnb⟩ : ∃ z, m.banks.length = z := ⟨_, rfl⟩;obtain ⟨nu, hnu⟩ : ∃ z, m.units.length = z := ⟨_, rfl⟩;obtain ⟨ni, hni⟩ : ∃ z, m.instrs.length = z := ⟨_, rfl⟩;rw [hnr] at hR;rw [hnb] at hB;rw [hnu] at hU;rw [hni] at hI;rw [hnr, hnb, hnu, hni] at HLIM ⊢;have hb1 : Below w.heap.size w (w.alloc (.cells #[.string m.name, .int .i64 m.word, .int .i64 m.address, .slice Ar nr cr, .slice Ab nb cb, .slice Au nu cu, .slice Ai ni ci] 27)) := (Below.refl _ _).alloc (Nat.le_refl _) _;have HL := hid ((HLIM.out _ hb1).mono (R' := fun e w' => e = .returned (.bool (limM m)) /\ Below w.heap.size w w' /\ w.heap.size < w'.heap.size /\ w'.heap[w.heap.size]? = some (.cells #[.string m.name, .int .i64 m.word, .int .i64 m.address, .slice Ar nr cr, .slice Ab nb cb, .slice Au nu cu, .slice Ai ni ci] 27)) fun e w' ⟨h1, h2⟩ => ⟨h1, hb1.trans (h2.mono hb1.size), by have := h2.size; simp at this; omega, (h2.block _ (by simp)).trans (heap_alloc_new _ _)⟩)
 cases hlim : limM m with
 | false =>
   rw [hlim] at HL;rw [show chkR m = 4 by unfold chkR; rw [hlim]; rfl];clear hlim hb1 HLIM;go_enter Tryz.func41, Tryz.ntmps41
   go_wp2_with (go_at_call 82; (with_reducible refine HL.out.mono ?_); rintro e w1 ⟨rfl, hb2, _, _⟩)
   go_ret
   exact ⟨rfl, hb2⟩
 | true =>
   rw [hlim] at HL;obtain ⟨r, hr⟩ : ∃ r, (if z26 m then (0 : Int) else 8) = r := ⟨_, rfl⟩;rw [show chkR m = r by unfold chkR; rw [hlim]; exact hr];obtain ⟨bv, hbv⟩ : ∃ b, (!(z26 m)) = b := ⟨_, rfl⟩;have hrv : r = if bv then 8 else 0 := by rw [<- hr, <- hbv]; cases z26 m <;> rfl
   have HRV := hid hrv;clear hrv;have HCH := hid (show ∀ X, Below w.heap.size w X -> Calls prog 83 #[.pointer (some ⟨X.heap.size, 0, none⟩)] (X.alloc (.cells #[.string m.name, .int .i64 m.word, .int .i64 m.address, .slice Ar nr cr, .slice Ab nb cb, .slice Au nu cu, .slice Ai ni ci, .map none, .bool false] 141)) fun e w' => e = .returned (.tuple #[]) /\ Below w.heap.size w w' /\ w'.cell? ⟨X.heap.size, 8, none⟩ = some (.bool bv) from fun X hX => by
    have hXa := hX.alloc hX.size (.cells #[.string m.name, .int .i64 m.word, .int .i64 m.address, .slice Ar nr cr, .slice Ab nb cb, .slice Au nu cu, .slice Ai ni ci, .map none, .bool false] 141);have hfz : ∀ j, (X.alloc (.cells #[.string m.name, .int .i64 m.word, .int .i64 m.address, .slice Ar nr cr, .slice Ab nb cb, .slice Au nu cu, .slice Ai ni ci, .map none, .bool false] 141)).frozen? ⟨X.heap.size, j, none⟩ = false := fun j => by simp only [World.frozen?];rw [heap_alloc_new];simp
    have h := zbo _ X.heap.size m (.slice Ar nr cr) (.slice Ab nb cb) (.slice Au nu cu) (.slice Ai ni ci) (.map none) ⟨zl rfl rfl, zl rfl rfl, zl rfl rfl, zl rfl rfl, zl rfl rfl, zl rfl rfl, zl rfl rfl, zl rfl rfl, zl rfl rfl, hfz 8, by simp⟩ (hfz 7) w hX.size hXa hT hR hB hU hI hlim hef;refine h.mono fun e w' ⟨h1, h2, h3⟩ => ⟨h1, hXa.trans (h2.mono hX.size), by rw [<- hbv]; exact h3⟩)
   clear hlim hb1 HLIM hT hef hR hB hU hI hr hbv hnr hnb hnu hni;go_enter Tryz.func41, Tryz.ntmps41
   go_wp2_with (first
    | (go_at_call 82; (with_reducible refine HL.out.mono ?_); rintro e w1 ⟨rfl, hb2, hl2, hblk⟩; have q0 := zb hblk (i := 0) (v := .string m.name) rfl; have q1 := zb hblk (i := 1) (v := .int .i64 m.word) rfl; have q2 := zb hblk (i := 2) (v := .int .i64 m.address) rfl; have q3 := zb hblk (i := 3) (v := .slice Ar nr cr) rfl; have q4 := zb hblk (i := 4) (v := .slice Ab nb cb) rfl; have q5 := zb hblk (i := 5) (v := .slice Au nu cu) rfl; have q6 := zb hblk (i := 6) (v := .slice Ai ni ci) rfl; have HB2 := hid hb2; clear hb2)
    | (go_at_call 83; (with_reducible refine (HCH.out w1 HB2.out).mono ?_); rintro e w2 ⟨rfl, hb3, hc8⟩; have HB3 := hid hb3; clear hb3; cases bv))
   ·go_ret
    exact ⟨by rw [HRV.out]; rfl, HB3.out⟩
   ·go_ret
    exact ⟨by rw [HRV.out]; rfl, HB3.out⟩
end Go.Proofs.YtdmadnfadgggcaaGreatDoor
