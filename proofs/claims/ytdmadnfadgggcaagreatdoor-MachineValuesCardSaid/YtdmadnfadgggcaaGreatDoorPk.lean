import Derived.Test.YtdmadnfadgggcaaGreatDoorQR8Base
import Derived.Test.YtdmadnfadgggcaaGreatDoorPe
set_option linter.unusedVariables false
set_option linter.unusedSimpArgs false
set_option warningAsError false
set_option maxHeartbeats 4000000
open Go.Lib (hid)
open Go.Proofs.Tryz (prog)
namespace Go.Proofs.YtdmadnfadgggcaaGreatDoor
open Go.RowKit Go.Instr Go.Sort
set_option maxRecDepth 100000
theorem zb5 {R : List MReg} (h : z2h R = true) : ∀ y ∈ R, (y.par == -1) = z2v y := fun y hy => by
 unfold z2h at h;simp only [Bool.and_eq_true, List.all_eq_true] at h;have h1 := h.2 y hy;unfold z46 at h1;simp only [Bool.and_eq_true, Bool.or_eq_true] at h1;unfold z2v;by_cases hp : y.par = -1
 ·rcases h1.2 with h2 | h2
  ·unfold z2v at h2;simp only [Bool.and_eq_true, decide_eq_true_eq] at h2;simp [hp, h2.2]
  ·unfold z53 at h2;rw [if_neg (by omega)] at h2;cases h2
 ·simp [hp]
theorem z5a (w : World) (v : Value) (m : Mach) (hm : zz w v m) (hlen : m.regs.length <= 1000) (hreg : z2h m.regs = true) :
 Calls prog 43 #[v] w fun e w' => ∃ sv, e = .returned sv /\ zf 1 intE w' sv ((z29 m.regs).map fun (z : Nat) => (z : Int)) /\ Below w.heap.size w w' := by
 obtain ⟨cs0, rfl, sr, sb, su, si, hcs, h1, h2, h3, hR, hB, hU, hI⟩ := hm;obtain rfl : cs0 = #[.string m.name, .int .i64 m.word, .int .i64 m.address, sr, sb, su, si] := by cases cs0; simp_all
 have HR := hid hR;obtain ⟨A, c, rfl, hr1, _⟩ := id hR;obtain ⟨n, hn⟩ : ∃ z, m.regs.length = z := ⟨_, rfl⟩;have HN := hid hn;have HPR := hid (zb5 hreg);rw [hn] at HR hr1 hlen;rw [hn];have hn4 : n <= 9223372036854775807 := by omega
 obtain ⟨W1, hW1⟩ : ∃ W1, W1 = w.alloc (.cells #[.string m.name, .int .i64 m.word, .int .i64 m.address, .slice A n c, sb, su, si] 27) := ⟨_, rfl⟩;have HW1 := hid hW1;have hb1 : Below w.heap.size w W1 := by rw [hW1]; exact (Below.refl _ _).alloc (Nat.le_refl _) _
 have hl1 : w.heap.size < W1.heap.size := by rw [hW1]; simp
 have hblk1 : W1.heap[w.heap.size]? = some (.cells #[.string m.name, .int .i64 m.word, .int .i64 m.address, .slice A n c, sb, su, si] 27) := by rw [hW1]; exact heap_alloc_new _ _
 have HQ3 := hid (show ∀ X, Below W1.heap.size W1 X -> X.cell? ⟨w.heap.size, 3, none⟩ = some (.slice A n c) from fun X hX => zb ((hX.block _ hl1).trans hblk1) rfl);have HB1 := hid hb1;have HRF := hid (Below.refl W1.heap.size W1);obtain ⟨i0, hi0, hz0, hz1, hz2⟩ := info_parts zb0;have HI0 := hid hi0;have HZ0 := hid hz0;have HZ1 := hid hz1;have HZ2 := hid hz2;have HFIN := hid (show ∀ (X : World) (sv : Value), Below W1.heap.size W1 X -> X.ownsRow W1.heap.size 3 1 sv (z1w m.regs n).length (z3h (z1w m.regs n)) -> zf 1 intE X sv ((z29 m.regs).map fun (z : Nat) => (z : Int)) /\ Below w.heap.size w X from fun X sv hX ho => by refine ⟨?_, hb1.trans (hX.mono hb1.size)⟩;have h9 := z34 m.regs n;unfold z29;rw [hn];exact z6u ho (by unfold maxLen; omega) (fun x hx => by have := z9r _ _ x hx; omega))
 clear hR hB hU hI hn hb1 hW1 hcs hi0 hz0 hz1 hz2 hl1 hblk1 hreg;go_enter Tryz.func43, Tryz.ntmps43
 go_wp2
 rw [<- HW1.out];go_loopw [3, 4] (fun vv vi wr => ∃ i : Nat, vi = .int .i64 i /\ i <= n /\ Hid (Below W1.heap.size W1 wr /\ wr.ownsRow W1.heap.size 3 1 vv (z1w m.regs i).length (z3h (z1w m.regs i)))) (fun _ vi _ => n - (intOf vi).toNat)
 case atStart => exact ⟨0, rfl, Nat.zero_le _, hid ⟨HRF.out, World.ownsRow_nil _ _ _ _⟩⟩
 case round =>
  obtain ⟨i, rfl, hi, HJ⟩ := hrel;have c3 := HQ3.out _ HJ.out.1;by_cases hlt : i < n
  ·obtain ⟨y, hy⟩ : ∃ z, m.regs[i]? = some z := ⟨_, List.getElem?_eq_getElem (by rw [HN.out]; exact hlt)⟩;have hbw := HB1.out.trans (HJ.out.1.mono HB1.out.size);obtain ⟨A', c', e1, _, _, _, hall⟩ := HR.out.kept (fun cs x hx => regE.kept hx hbw) hbw;obtain ⟨b, o, cs, e2, hb, hcl, hcell, hE⟩ := hall i y hy;obtain ⟨rfl, rfl⟩ : A = A' /\ c = c' := by cases e1; exact ⟨rfl, rfl⟩
   subst e2;obtain ⟨rfl, _⟩ := hE;have p2 : wr.cell? ⟨b, o + i * 4 + 2, none⟩ = some (.int .i64 y.par) := hcell 2 _ rfl;have HSU := hid (z6s m.regs i);have HLT := hid hlt;have HLE := hid (z34 m.regs i);have hat : z39 m.regs i = (y.par == -1) := by unfold z39; rw [hy]; exact (HPR.out y (List.mem_of_getElem? hy)).symm
   rw [hat] at HSU;have hin : (i : Int) < (n : Int) := by omega
   have HOWN := hid HJ.out.2;have HBJ := hid HJ.out.1;obtain ⟨y2, h2'⟩ : ∃ z : Int, y.par = z := ⟨_, rfl⟩;rw [h2'] at p2 HSU;obtain ⟨q, hq⟩ : ∃ q, (y2 == -1) = q := ⟨_, rfl⟩;rw [hq] at HSU;clear hall hcell hy e1 hbw hcl hat h2' HJ
   cases q with
   | false =>
     go_wp2
     refine ⟨⟨i + 1, by first | rfl | go_num | (congr 1), by have := HLT.out; omega, hid ⟨HBJ.out, by rw [HSU.out]; simp only [Bool.false_eq_true, if_false, List.append_nil]; exact HOWN.out⟩⟩, by simp only [intOf]; have := HLT.out; omega⟩
   | true =>
     go_wp2_with (at_builtin; refine Hid.out ?_)
     refine hid ?_;refine wpList_append_own _ rfl _ _ 34 rfl W1.heap.size 3 i0 (.int .i64 0) 1 8 Tryz.underlying34 HI0.out HZ0.out HZ1.out HZ2.out rfl (by decide) _ (z1w m.regs i).length (z3h (z1w m.regs i)) rfl (HOWN.out.alloc _) ⟨_, 0, none⟩ 1 1 [.int .i64 i] rfl rfl (z9e _ _ _ _ rfl) (by intro u hu; simp at hu; subst hu; rfl) (by have := HLE.out; unfold maxLen; omega) (by have := HLE.out; omega) (by have := HBJ.out.size; simp; omega) ?_;intro v' w6 hown' hgrow _;have hb6 : Below W1.heap.size W1 w6 := by
      have h1 := HBJ.out.alloc HBJ.out.size (.cells #[.int .i64 (i : Int)] 3);exact h1.grown hgrow (by have := HBJ.out.size; simp; omega) (fun r hr => by have := HOWN.out.lt r hr;omega)
     have HO6 := hid (show w6.ownsRow W1.heap.size 3 1 v' (z1w m.regs (i + 1)).length (z3h (z1w m.regs (i + 1))) by rw [HSU.out];simp only [if_true];rw [z6i, List.length_append];exact hown')
     have HB6 := hid hb6;clear hown' hgrow hb6;go_wp2
     refine ⟨⟨i + 1, by first | rfl | go_num | (congr 1), by have := HLT.out; omega, hid ⟨HB6.out, HO6.out⟩⟩, by simp only [intOf]; have := HLT.out; omega⟩
  ·obtain rfl : i = n := by omega
   obtain ⟨h8, h9⟩ := HFIN.out _ _ HJ.out.1 HJ.out.2;have H8 := hid h8;have H9 := hid h9;clear h8 h9 HJ;go_wp2
   go_ret
   exact ⟨_, rfl, H8.out, H9.out⟩
theorem z3i (w : World) (v : Value) (m : Mach) (hm : zz w v m) (h0 : chkR m = 0) (r : Nat) (y : MReg) (hy : m.regs[r]? = some y) :
 Calls prog 47 #[v, .int .i64 (r : Nat)] w fun e w' => e = .returned (.tuple #[.int .i64 (z1l m.regs r y), .int .i64 y.low, .int .i64 y.width]) /\ Below w.heap.size w w' := by
 have hlr := z3m h0;have hreg := (z3f h0).2.2.1;have hm' := hm;obtain ⟨cs0, rfl, sr, sb, su, si, hcs, h1, h2, h3, hR, hB, hU, hI⟩ := hm;obtain rfl : cs0 = #[.string m.name, .int .i64 m.word, .int .i64 m.address, sr, sb, su, si] := by cases cs0; simp_all
 have HR := hid hR;obtain ⟨A, c, rfl, _⟩ := id hR;obtain ⟨n, hn⟩ : ∃ z, m.regs.length = z := ⟨_, rfl⟩;have HN := hid hn;rw [hn] at HR hm';rw [hn];obtain ⟨W1, hW1⟩ : ∃ W1, W1 = w.alloc (.cells #[.string m.name, .int .i64 m.word, .int .i64 m.address, .slice A n c, sb, su, si] 27) := ⟨_, rfl⟩;have HW1 := hid hW1;have hb1 : Below w.heap.size w W1 := by rw [hW1]; exact (Below.refl _ _).alloc (Nat.le_refl _) _
 have hl1 : w.heap.size < W1.heap.size := by rw [hW1]; simp
 have hblk1 : W1.heap[w.heap.size]? = some (.cells #[.string m.name, .int .i64 m.word, .int .i64 m.address, .slice A n c, sb, su, si] 27) := by rw [hW1]; exact heap_alloc_new _ _
 have HQ := hid (show ∀ X, Below W1.heap.size W1 X -> X.cell? ⟨w.heap.size, 0, none⟩ = some (.string m.name) /\ X.cell? ⟨w.heap.size, 1, none⟩ = some (.int .i64 m.word) /\ X.cell? ⟨w.heap.size, 2, none⟩ = some (.int .i64 m.address) /\ X.cell? ⟨w.heap.size, 3, none⟩ = some (.slice A n c) /\ X.cell? ⟨w.heap.size, 4, none⟩ = some sb /\ X.cell? ⟨w.heap.size, 5, none⟩ = some su /\ X.cell? ⟨w.heap.size, 6, none⟩ = some si from fun X hX => by have e1 := (hX.block _ hl1).trans hblk1;exact ⟨zb e1 rfl, zb e1 rfl, zb e1 rfl, zb e1 rfl, zb e1 rfl, zb e1 rfl, zb e1 rfl⟩)
 have HGR := hid (show ∀ X, Below W1.heap.size W1 X -> Below w.heap.size w X from fun X hX => hb1.trans (hX.mono hb1.size));have HF1 := hid (Below.refl W1.heap.size W1);have hn4 : n <= 9223372036854775807 := by omega
 have hrn : r < n := by rw [<- hn]; exact (List.getElem?_eq_some_iff.1 hy).1
 have HTP := hid (show ∀ X, Below W1.heap.size W1 X -> Calls prog 43 #[.agg #[.string m.name, .int .i64 m.word, .int .i64 m.address, .slice A n c, sb, su, si]] X fun e w' => ∃ sv, e = .returned sv /\ zf 1 intE w' sv (z23 m) /\ Below W1.heap.size W1 w' from fun X hX => (z5a X _ m (hm'.kept (HGR.out X hX)) (by omega) hreg).mono fun e w' ⟨sv, g1, g2, g3⟩ => ⟨sv, g1, g2, hX.trans (g3.mono hX.size)⟩);have hpl := z2t h0 hy;have hpr := zb5 hreg y (List.mem_of_getElem? hy);have hpd : z1l m.regs r y = ixF (fun z : Int => decide (z = ofR r y)) (z23 m) := rfl;obtain ⟨Z, hZ⟩ : ∃ z, z23 m = z := ⟨_, rfl⟩;have hzl : Z.length <= 1000 := by rw [<- hZ]; unfold z23; rw [List.length_map]; have := z34 m.regs m.regs.length; unfold z29; omega
 rw [hZ] at HTP hpl hpd;obtain ⟨P, hP⟩ : ∃ z, z1l m.regs r y = z := ⟨_, rfl⟩;rw [hP] at hpl hpd;rw [hP];obtain ⟨A', c', e1, _, _, _, hall⟩ := HR.out;obtain ⟨b, o, cs, e2, hb, hcl, hcell, hE⟩ := hall r y hy;obtain ⟨rfl, rfl⟩ : A = A' /\ c = c' := by cases e1; exact ⟨rfl, rfl⟩
 subst e2;obtain ⟨rfl, _, _, hpb, _⟩ := hE;obtain ⟨y0, hy0⟩ : ∃ z, y.name = z := ⟨_, rfl⟩;obtain ⟨y1, hy1⟩ : ∃ z, y.width = z := ⟨_, rfl⟩;obtain ⟨y2, hy2⟩ : ∃ z, y.par = z := ⟨_, rfl⟩;obtain ⟨y3, hy3⟩ : ∃ z, y.low = z := ⟨_, rfl⟩;obtain ⟨q, hq⟩ : ∃ z, z2v y = z := ⟨_, rfl⟩;have hof : ofR r y = if q = true then (r : Int) else y2 := by unfold ofR; rw [hq, hy2]
 rw [hof] at hpd;rw [hy2, hq] at hpr;have z0 : W1.cell? ⟨b, o + r * 4, none⟩ = some (.string y0) := by rw [hb1.cell hb, <- hy0]; simpa using hcell 0 _ rfl
 have z1 : W1.cell? ⟨b, o + r * 4 + 1, none⟩ = some (.int .i64 y1) := by rw [hb1.cell hb, <- hy1]; exact hcell 1 _ rfl
 have z2 : W1.cell? ⟨b, o + r * 4 + 2, none⟩ = some (.int .i64 y2) := by rw [hb1.cell hb, <- hy2]; exact hcell 2 _ rfl
 have z3 : W1.cell? ⟨b, o + r * 4 + 3, none⟩ = some (.int .i64 y3) := by rw [hb1.cell hb, <- hy3]; exact hcell 3 _ rfl
 rw [hy1, hy3];obtain ⟨W2, hW2⟩ : ∃ z, z = W1.alloc (.cells #[.string y0, .int .i64 y1, .int .i64 y2, .int .i64 y3] 96) := ⟨_, rfl⟩;have hs1 : W1.heap.size = w.heap.size + 1 := by rw [hW1]; simp
 have hb2 : Below W1.heap.size W1 W2 := by rw [hW2]; exact (Below.refl _ _).alloc (Nat.le_refl _) _
 have hl2 : W1.heap.size < W2.heap.size := by rw [hW2]; simp
 have hblk2 : W2.heap[W1.heap.size]? = some (.cells #[.string y0, .int .i64 y1, .int .i64 y2, .int .i64 y3] 96) := by rw [hW2]; exact heap_alloc_new _ _
 have HB2 := hid (show ∀ X, Below W2.heap.size W2 X -> Below W1.heap.size W1 X from fun X hX => hb2.trans (hX.mono hb2.size));have HC2 := hid (show ∀ X, Below W2.heap.size W2 X -> X.cell? ⟨w.heap.size + 1, 1, none⟩ = some (.int .i64 y1) /\ X.cell? ⟨w.heap.size + 1, 2, none⟩ = some (.int .i64 y2) /\ X.cell? ⟨w.heap.size + 1, 3, none⟩ = some (.int .i64 y3) from fun X hX => by have e1 := (hX.block _ hl2).trans hblk2;rw [hs1] at e1;exact ⟨zb e1 rfl, zb e1 rfl, zb e1 rfl⟩)
 have HF2 := hid (Below.refl W2.heap.size W2);have hW2' := hW2;rw [hW1] at hW2';have HW2 := hid hW2';obtain ⟨k1, k2, k3⟩ := HC2.out W2 HF2.out;obtain ⟨x0, x1, x2, x3, x4, x5, x6⟩ := HQ.out W2 (HB2.out _ HF2.out);obtain ⟨t0, t1, t2, t3, t4, t5, t6⟩ := HQ.out W1 HF1.out;rw [hW1] at t3 z0 z1 z2 z3;rw [hW2'] at k1 k2 k3 x0 x1 x2 x3 x4 x5 x6;have hr0 : (0 : Int) <= (r : Int) := Int.natCast_nonneg _;have hr1 : (r : Int) < (n : Int) := by omega
 have HZL := hid hzl;have HPL := hid hpl;have HTP2 := hid (show ∀ X, Below W2.heap.size W2 X -> Calls prog 43 #[.agg #[.string m.name, .int .i64 m.word, .int .i64 m.address, .slice (some ⟨b, o, none⟩) n c, sb, su, si]] X fun e w' => ∃ sv, e = .returned sv /\ zf 1 intE w' sv Z /\ Below W2.heap.size W2 w' from fun X hX => (z5a X _ m (hm'.kept (HGR.out X (HB2.out X hX))) (by omega) hreg).mono fun e w' ⟨sv, g1, g2, g3⟩ => ⟨sv, g1, by rw [<- hZ]; exact g2, hX.trans (g3.mono hX.size)⟩);clear HTP hcs h1 h2 h3 hR hB hU hI hm' hW1 hb1 hl1 hblk1 hn hlr hreg h0 hy hall hcell hcl e1 hb hy0 hy1 hy2 hy3 hq hof hP hZ hW2 hW2' hs1 hb2 hl2 hblk2 hzl hpl t0 t1 t2 t4 t5 t6 hrn hpb
 cases q with
 | false =>
   have HD := hid (show P = ixF (fun z : Int => decide (z = y2)) Z by rw [hpd]; rfl);clear hpd;go_enter Tryz.func47, Tryz.ntmps47
   go_wp2_with (go_at_call 43; rw [<- HW2.out]; (with_reducible refine (HTP2.out _ HF2.out).mono ?_); rintro e w5 ⟨sv, rfl, hrow, hb5⟩)
   have HB5 := hid hb5;have HROW := hid hrow;obtain ⟨As, cs, rfl, _⟩ := hrow;obtain ⟨zn, hzn⟩ : ∃ z, Z.length = z := ⟨_, rfl⟩;have HZN := hid hzn;rw [hzn] at HROW;rw [hzn];have hz4 : zn <= 9223372036854775807 := by have := HZL.out; omega
   clear x0 x1 x2 x3 x4 x5 x6 k1 k2 k3 z0 z1 z2 z3 t3 hb5 hzn hpr;go_loopw [10] (fun vi wr => ∃ i : Nat, vi = .int .i64 i /\ i <= zn /\ Hid (Below w5.heap.size w5 wr /\ ∀ j z, j < i -> Z[j]? = some z -> decide (z = y2) = false)) (fun vi _ => zn - (intOf vi).toNat)
   case atStart => exact ⟨0, rfl, Nat.zero_le _, hid ⟨Below.refl _ _, fun j z hj => absurd hj (Nat.not_lt_zero _)⟩⟩
   case round =>
    obtain ⟨i, rfl, hi, HJ⟩ := hrel;obtain ⟨hbx, hmet⟩ := HJ.out;have HBX := hid (HB5.out.trans (hbx.mono HB5.out.size));obtain ⟨k1, k2, k3⟩ := HC2.out _ HBX.out;by_cases hlt : i < zn
    ·obtain ⟨z, hz⟩ : ∃ z, Z[i]? = some z := ⟨_, List.getElem?_eq_getElem (by rw [HZN.out]; exact hlt)⟩;obtain ⟨A', c', e1, _, _, _, hall⟩ := HROW.out;obtain ⟨bs, os, cz, e2, hbs, _, hcell, hE⟩ := hall i z hz;obtain ⟨rfl, rfl⟩ : As = A' /\ cs = c' := by cases e1; exact ⟨rfl, rfl⟩
     subst e2;obtain ⟨rfl, _⟩ := hE;have p0 : wr.cell? ⟨bs, os + i, none⟩ = some (.int .i64 z) := (by rw [hbx.cell hbs]; simpa using hcell 0 _ rfl);have hin : (i : Int) < (zn : Int) := (by omega);have hi0 : (0 : Int) <= (i : Int) := Int.natCast_nonneg _;have HLT := hid hlt;have HBW := hid hbx;obtain ⟨qq, hqq⟩ : ∃ q, (z == y2) = q := ⟨_, rfl⟩;have hdq : decide (z = y2) = qq := by rw [<- hqq]; exact (Bool.beq_eq_decide_eq ..).symm
     cases qq with
     | true =>
       obtain rfl : P = (i : Int) := by rw [HD.out]; exact z32 hz hdq hmet
       clear hmet HJ hbx hall hcell hz e1 hdq hlt;go_wp2_with fail
       have K1 := cell_regrown k1;have K3 := cell_regrown k3;clear k1 k2 k3 p0;refine wp_region_quiet_below (by kernel_rfl) (by kernel_rfl) ?_;repeat (first | go_big_quiet_step (fail) | quiet_step (fail))
       refine wpQuiet_nil ?_;intro G hG;have hbG : Below W2.heap.size W2 G := (by obtain ⟨p, rfl⟩ := hG; exact HBX.out.trans ((below_regrown wr _ _).mono HBX.out.size));clear hG K1 K3;go_wp2
       exact bodyPost_ret (v := .tuple #[.int .i64 (i : Nat), .int .i64 y3, .int .i64 y1]) (by simp [results, Tryz.results47, go_sem]) rfl ⟨rfl, HGR.out _ (HB2.out _ hbG)⟩
     | false =>
       have HM := hid (show ∀ j u, j < i + 1 -> Z[j]? = some u -> decide (u = y2) = false from fun j u hj hu => by
        rcases Nat.lt_or_ge j i with h | h
        ·exact hmet j u h hu
        ·obtain rfl : j = i := by omega
         rw [hz] at hu;obtain rfl := Option.some.inj hu;exact hdq)
       clear hmet HJ hbx hall hcell hz e1 hdq hlt;go_wp2
       refine ⟨⟨i + 1, by first | rfl | go_num | (congr 1), by have := HLT.out; omega, hid ⟨HBW.out, HM.out⟩⟩, by simp only [intOf]; have := HLT.out; omega⟩
    ·obtain rfl : i = zn := by omega
     exfalso;have h9 := z2d (p := fun z : Int => decide (z = y2)) (L := Z) fun j u hj hu => hmet j u (by rw [<- HZN.out]; exact hj) hu;have h8 := HPL.out.1;rw [HD.out, h9] at h8
     omega
 | true =>
   have HD := hid (show P = ixF (fun z : Int => decide (z = (r : Int))) Z by rw [hpd]; rfl);clear hpd;go_enter Tryz.func47, Tryz.ntmps47
   go_wp2_with (go_at_call 43; rw [<- HW2.out]; (with_reducible refine (HTP2.out _ HF2.out).mono ?_); rintro e w5 ⟨sv, rfl, hrow, hb5⟩)
   have HB5 := hid hb5;have HROW := hid hrow;obtain ⟨As, cs, rfl, _⟩ := hrow;obtain ⟨zn, hzn⟩ : ∃ z, Z.length = z := ⟨_, rfl⟩;have HZN := hid hzn;rw [hzn] at HROW;rw [hzn];have hz4 : zn <= 9223372036854775807 := by have := HZL.out; omega
   clear x0 x1 x2 x3 x4 x5 x6 k1 k2 k3 z0 z1 z2 z3 t3 hb5 hzn hpr;go_loopw [10] (fun vi wr => ∃ i : Nat, vi = .int .i64 i /\ i <= zn /\ Hid (Below w5.heap.size w5 wr /\ ∀ j z, j < i -> Z[j]? = some z -> decide (z = (r : Int)) = false)) (fun vi _ => zn - (intOf vi).toNat)
   case atStart => exact ⟨0, rfl, Nat.zero_le _, hid ⟨Below.refl _ _, fun j z hj => absurd hj (Nat.not_lt_zero _)⟩⟩
   case round =>
    obtain ⟨i, rfl, hi, HJ⟩ := hrel;obtain ⟨hbx, hmet⟩ := HJ.out;have HBX := hid (HB5.out.trans (hbx.mono HB5.out.size));obtain ⟨k1, k2, k3⟩ := HC2.out _ HBX.out;by_cases hlt : i < zn
    ·obtain ⟨z, hz⟩ : ∃ z, Z[i]? = some z := ⟨_, List.getElem?_eq_getElem (by rw [HZN.out]; exact hlt)⟩;obtain ⟨A', c', e1, _, _, _, hall⟩ := HROW.out;obtain ⟨bs, os, cz, e2, hbs, _, hcell, hE⟩ := hall i z hz;obtain ⟨rfl, rfl⟩ : As = A' /\ cs = c' := by cases e1; exact ⟨rfl, rfl⟩
     subst e2;obtain ⟨rfl, _⟩ := hE;have p0 : wr.cell? ⟨bs, os + i, none⟩ = some (.int .i64 z) := (by rw [hbx.cell hbs]; simpa using hcell 0 _ rfl);have hin : (i : Int) < (zn : Int) := (by omega);have hi0 : (0 : Int) <= (i : Int) := Int.natCast_nonneg _;have HLT := hid hlt;have HBW := hid hbx;obtain ⟨qq, hqq⟩ : ∃ q, (z == (r : Int)) = q := ⟨_, rfl⟩;have hdq : decide (z = (r : Int)) = qq := by rw [<- hqq]; exact (Bool.beq_eq_decide_eq ..).symm
     cases qq with
     | true =>
       obtain rfl : P = (i : Int) := by rw [HD.out]; exact z32 hz hdq hmet
       clear hmet HJ hbx hall hcell hz e1 hdq hlt;go_wp2_with fail
       have K1 := cell_regrown k1;have K3 := cell_regrown k3;clear k1 k2 k3 p0;refine wp_region_quiet_below (by kernel_rfl) (by kernel_rfl) ?_;repeat (first | go_big_quiet_step (fail) | quiet_step (fail))
       refine wpQuiet_nil ?_;intro G hG;have hbG : Below W2.heap.size W2 G := (by obtain ⟨p, rfl⟩ := hG; exact HBX.out.trans ((below_regrown wr _ _).mono HBX.out.size));clear hG K1 K3;go_wp2
       exact bodyPost_ret (v := .tuple #[.int .i64 (i : Nat), .int .i64 y3, .int .i64 y1]) (by simp [results, Tryz.results47, go_sem]) rfl ⟨rfl, HGR.out _ (HB2.out _ hbG)⟩
     | false =>
       have HM := hid (show ∀ j u, j < i + 1 -> Z[j]? = some u -> decide (u = (r : Int)) = false from fun j u hj hu => by
        rcases Nat.lt_or_ge j i with h | h
        ·exact hmet j u h hu
        ·obtain rfl : j = i := by omega
         rw [hz] at hu;obtain rfl := Option.some.inj hu;exact hdq)
       clear hmet HJ hbx hall hcell hz e1 hdq hlt;go_wp2
       refine ⟨⟨i + 1, by first | rfl | go_num | (congr 1), by have := HLT.out; omega, hid ⟨HBW.out, HM.out⟩⟩, by simp only [intOf]; have := HLT.out; omega⟩
    ·obtain rfl : i = zn := by omega
     exfalso;have h9 := z2d (p := fun z : Int => decide (z = (r : Int))) (L := Z) fun j u hj hu => hmet j u (by rw [<- HZN.out]; exact hj) hu;have h8 := HPL.out.1;rw [HD.out, h9] at h8;omega
end Go.Proofs.YtdmadnfadgggcaaGreatDoor
