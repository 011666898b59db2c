import Derived.Test.YtdmadnfadgggcaaGreatDoorPk
import Derived.Test.YtdmadnfadgggcaaGreatDoorQR8Check
import Derived.Test.YtdmadnfadgggcaaGreatDoorPh
set_option linter.unusedVariables false
set_option linter.unusedSimpArgs false
set_option warningAsError false
set_option maxHeartbeats 4000000
open Go.Lib (hid)
open Go.Proofs.Tryz (prog)
namespace Go.Proofs.YtdmadnfadgggcaaGreatDoor
open Go.RowKit Go.Instr Go.Sort
set_option maxRecDepth 100000
theorem zfb {p : Int -> Nat -> Bool} {L : List Int} {V : List Nat} (h1 : L.length = V.length) (h2 : ∀ (k : Nat) z x, L[k]? = some z -> V[k]? = some x -> p z x = true) : eqF p L V = true := zdh.2 ⟨h1, h2⟩
theorem z6w (w : World) (v : Value) (m : Mach) (hm : zz w v m) (hs : MachSmall m) (u : Value) (V : List Nat) (hV : zf 1 u64E w u V) (hVl : V.length <= 1000) (a : Int) :
 Calls prog 50 #[v, u, .int .i64 a] w fun e w' => e = .returned (.int .i64 (z25 m V a)) /\ Below w.heap.size w w' := by
 have hm' := hm;obtain ⟨cs0, rfl, sr, sb, su, si, hcs, h1, h2, h3, hR, hB, hU, hI⟩ := hm;obtain rfl : cs0 = #[.string m.name, .int .i64 m.word, .int .i64 m.address, sr, sb, su, si] := by cases cs0; simp_all
 obtain ⟨A3, c3, rfl, _⟩ := id hR;obtain ⟨A6, c6, rfl, _⟩ := id hI;obtain ⟨n, hn⟩ : ∃ z, m.regs.length = z := ⟨_, rfl⟩;obtain ⟨k, hk⟩ : ∃ z, m.instrs.length = z := ⟨_, rfl⟩;have HN := hid hn;have HK := hid hk;rw [hn] at hm';rw [hk] at hm';rw [hn, hk];have hn4 : n <= 9223372036854775807 := by have := hs.regs; omega
 have hk4 : k <= 9223372036854775807 := by have := hs.instrs; omega
 have hn100 : n <= 100 := by have := hs.regs; omega
 obtain ⟨W1, hW1⟩ : ∃ W1, W1 = w.alloc (.cells #[.string m.name, .int .i64 m.word, .int .i64 m.address, .slice A3 n c3, sb, su, .slice A6 k c6] 27) := ⟨_, rfl⟩;have hb1 : Below w.heap.size w W1 := by rw [hW1]; exact (Below.refl _ _).alloc (Nat.le_refl _) _
 have hl1 : w.heap.size < W1.heap.size := by rw [hW1]; simp
 have hblk1 : W1.heap[w.heap.size]? = some (.cells #[.string m.name, .int .i64 m.word, .int .i64 m.address, .slice A3 n c3, sb, su, .slice A6 k c6] 27) := by rw [hW1]; exact heap_alloc_new _ _
 have HQ := hid (show ∀ X, Below W1.heap.size W1 X -> X.cell? ⟨w.heap.size, 0, none⟩ = some (.string m.name) /\ X.cell? ⟨w.heap.size, 1, none⟩ = some (.int .i64 m.word) /\ X.cell? ⟨w.heap.size, 2, none⟩ = some (.int .i64 m.address) /\ X.cell? ⟨w.heap.size, 3, none⟩ = some (.slice A3 n c3) /\ X.cell? ⟨w.heap.size, 4, none⟩ = some sb /\ X.cell? ⟨w.heap.size, 5, none⟩ = some su /\ X.cell? ⟨w.heap.size, 6, none⟩ = some (.slice A6 k c6) from fun X hX => by have e1 := (hX.block _ hl1).trans hblk1;exact ⟨zb e1 rfl, zb e1 rfl, zb e1 rfl, zb e1 rfl, zb e1 rfl, zb e1 rfl, zb e1 rfl⟩)
 have HGR := hid (show ∀ X, Below W1.heap.size W1 X -> Below w.heap.size w X from fun X hX => hb1.trans (hX.mono hb1.size));have HMV := hid (show ∀ X, Below W1.heap.size W1 X -> zz X (.agg #[.string m.name, .int .i64 m.word, .int .i64 m.address, .slice A3 n c3, sb, su, .slice A6 k c6]) m from fun X hX => hm'.kept (HGR.out X hX));obtain ⟨ce, hce⟩ : ∃ z, chkR m = z := ⟨_, rfl⟩;have HCK := hid ((z2a W1 (.agg #[.string m.name, .int .i64 m.word, .int .i64 m.address, .slice A3 n c3, sb, su, .slice A6 k c6]) m (hm'.kept hb1) hs).mono (R' := fun e w' => e = .returned (.int .i64 ce) /\ Below W1.heap.size W1 w') fun e w' ⟨h1, h2⟩ => ⟨by rw [h1, hce], h2⟩);rw [hW1] at HCK;have HW1 := hid hW1;have HCE := hid hce;obtain ⟨Au, cu, rfl, _⟩ := id hV;obtain ⟨nu, hnu⟩ : ∃ z, V.length = z := ⟨_, rfl⟩;have HNU := hid hnu;have HVR := hid hV;rw [hnu] at HVR hVl;rw [hnu];have hnu4 : nu <= 9223372036854775807 := by omega
 have hw1 : wrap64 ((n : Nat) - 1) = (n : Nat) - 1 := zd _ (by omega) (by omega);have HIN := hid (fun X => z1d X a 0 ((n : Nat) - 1));obtain ⟨er, her⟩ : ∃ z, z25 m V a = z := ⟨_, rfl⟩;rw [her];have HER := hid her;have hq : ce = 0 ∨ ce ≠ 0 := by omega
 rcases hq with rfl | hne
 ·by_cases hin : 0 <= a /\ a <= (n : Nat) - 1
  ·have e0 : zy m [a] = 0 := by
    unfold zy;rw [if_pos hce, if_pos];simp only [List.all_cons, List.all_nil, Bool.and_true];unfold idxM;exact decide_eq_true (by omega)
   have her2 : (if eqF (okV m) (z23 m) V = true then (0 : Int) else 14) = er := by rw [<- her];unfold z25;rw [if_pos e0]
   have HER2 := hid her2;rw [decide_eq_true hin] at HIN;have hreg := (z3f hce).2.2.1;have hzl : (z23 m).length <= 1000 := by unfold z23 z29; rw [List.length_map]; have := z34 m.regs m.regs.length; omega
   obtain ⟨Z, hZ⟩ : ∃ z, z23 m = z := ⟨_, rfl⟩;have HTP := hid (show ∀ X, Below W1.heap.size W1 X -> Calls prog 43 #[.agg #[.string m.name, .int .i64 m.word, .int .i64 m.address, .slice A3 n c3, sb, su, .slice A6 k c6]] X fun e w' => ∃ sv, e = .returned sv /\ zf 1 intE w' sv Z /\ Below W1.heap.size W1 w' from fun X hX => (z5a X _ m (HMV.out X hX) (by omega) hreg).mono fun e w' ⟨sv, g1, g2, g3⟩ => ⟨sv, g1, by rw [<- hZ]; exact g2, hX.trans (g3.mono hX.size)⟩);have HZR := hid (show ∀ z ∈ Z, ∃ i : Nat, z = (i : Int) /\ i < n from fun z hz => by rw [<- hZ] at hz; obtain ⟨i, h1, h2⟩ := z9s hz; exact ⟨i, h1, by omega⟩);have HRW := hid (show ∀ (i : Nat) (y : MReg), m.regs[i]? = some y -> ∃ b o, A3 = some ⟨b, o, none⟩ /\ ∀ X, Below W1.heap.size W1 X -> X.cell? ⟨b, o + i * 4 + 1, none⟩ = some (.int .i64 y.width) from fun i y hy => by obtain ⟨A', c', e1, _, _, _, hall⟩ := hR;obtain ⟨b, o, cs, e2, hb, _, hcell, hE⟩ := hall i y hy;cases e1;obtain ⟨rfl, _⟩ := hE;exact ⟨b, o, e2, fun X hX => ((HGR.out X hX).cell hb).trans (hcell 1 _ rfl)⟩)
   have HBD := hid (fun y hy => z21 hce y hy);have HUW := hid (show ∀ (i : Nat) (x : Nat), V[i]? = some x -> x < 18446744073709551616 /\ ∃ b o, Au = some ⟨b, o, none⟩ /\ ∀ X, Below W1.heap.size W1 X -> X.cell? ⟨b, o + i, none⟩ = some (.int .u64 (x : Nat)) from fun i x hx => by obtain ⟨A', c', e1, _, _, _, hall⟩ := HVR.out;obtain ⟨b, o, cs, e2, hb, _, hcell, hE⟩ := hall i x hx;cases e1;obtain ⟨rfl, hlt⟩ := hE;exact ⟨hlt, b, o, e2, fun X hX => ((HGR.out X hX).cell hb).trans (by simpa using hcell 0 _ rfl)⟩)
   rw [hZ] at HER2 hzl;have HZL := hid hzl;clear hR hB hU hI hcs hW1 hblk1 hl1 hb1 hm' hn hk hs hce hV hnu hVl her e0 her2 hZ hzl hreg;have HI := hid hin;clear hin;go_enter Tryz.func50, Tryz.ntmps50
   go_wp2_with (first
    | (go_at_call 38; (with_reducible refine HCK.out.mono ?_); rintro e w3 ⟨rfl, hb3⟩; rw [<- HW1.out] at hb3; obtain ⟨x0, x1, x2, x3, x4, x5, x6⟩ := HQ.out _ hb3)
    | (go_at_call 46; (with_reducible refine (HIN.out _).mono ?_); rintro e w4 ⟨rfl, rfl⟩)
    | (go_at_call 43; (with_reducible refine (HTP.out _ hb3).mono ?_); rintro e w5 ⟨sv, rfl, hr5, hb5⟩; have HR5 := hid hr5; obtain ⟨As, cs, rfl, _⟩ := hr5; (try clear x0 x1 x2 x3 x4 x5 x6); (have HB5 := hid hb5); obtain ⟨rn, hrn⟩ : ∃ z, Z.length = z := ⟨_, rfl⟩; have HRN := hid hrn; rw [hrn] at HR5 ⊢; clear hrn hb5 hb3))
   ·rename_i hne;have hne2 : rn ≠ nu := fun h => by subst h; simp at hne
    have : er = 14 := by
     have h9 := HER2.out;rw [if_neg] at h9
     ·exact h9.symm
     ·intro hq;have := z5g hq;rw [HRN.out, HNU.out] at this;exact hne2 this
    subst this;exact bodyPost_ret (v := .int .i64 14) (by simp [results, Tryz.results50, go_sem]) rfl ⟨rfl, HGR.out _ HB5.out⟩
   have hrn2 : rn = nu := by
    by_cases h : rn = nu
    ·exact h
    ·exfalso;have hb : ((rn : Int) != (nu : Int)) = true := bne_iff_ne.2 (by omega)
     simp_all
   have HRE := hid hrn2;have hr4 : rn <= 9223372036854775807 := by omega
   clear hrn2;go_loopw [9] (fun vi wr => ∃ i : Nat, vi = .int .i64 i /\ i <= rn /\ Hid (Below w5.heap.size w5 wr /\ ∀ (j : Nat) z x, j < i -> Z[j]? = some z -> V[j]? = some x -> okV m z x = true)) (fun vi _ => rn - (intOf vi).toNat)
   case atStart => exact ⟨0, rfl, Nat.zero_le _, hid ⟨Below.refl _ _, fun j z x hj => absurd hj (Nat.not_lt_zero _)⟩⟩
   case round =>
    obtain ⟨i, rfl, hi, HJ⟩ := hrel;obtain ⟨hbx, hmet⟩ := HJ.out;have HBX := hid (HB5.out.trans (hbx.mono HB5.out.size));by_cases hlt : i < rn
    ·obtain ⟨z, hz⟩ : ∃ z, Z[i]? = some z := ⟨_, List.getElem?_eq_getElem (by rw [HRN.out]; exact hlt)⟩;obtain ⟨x, hx⟩ : ∃ x, V[i]? = some x := ⟨_, List.getElem?_eq_getElem (by rw [HNU.out]; have := HRE.out; omega)⟩;obtain ⟨A', c', e1, _, _, _, hall⟩ := HR5.out;obtain ⟨b, o, cz, e2, hb, _, hcell, hE⟩ := hall i z hz;obtain ⟨rfl, rfl⟩ : As = A' /\ cs = c' := by cases e1; exact ⟨rfl, rfl⟩
     subst e2;obtain ⟨rfl, _⟩ := hE;have q1 : wr.cell? ⟨b, o + i, none⟩ = some (.int .i64 z) := (by rw [hbx.cell hb]; simpa using hcell 0 _ rfl);obtain ⟨hxl, b2, o2, e4, hcu⟩ := HUW.out i x hx;subst e4;have q0 := hcu _ HBX.out;obtain ⟨iz, rfl, hiz⟩ := HZR.out z (List.mem_of_getElem? hz);obtain ⟨y, hy⟩ : ∃ y, m.regs[iz]? = some y := ⟨_, List.getElem?_eq_getElem (by rw [HN.out]; exact hiz)⟩;obtain ⟨b3, o3, e5, hcr⟩ := HRW.out iz y hy;subst e5;have q2 := hcr _ HBX.out;obtain ⟨by1, by2, _, _⟩ := HBD.out y (List.mem_of_getElem? hy);obtain ⟨yw, hyw⟩ : ∃ k : Nat, y.width = (k : Int) := ⟨y.width.toNat, by omega⟩;rw [hyw] at q2 by1 by2;obtain ⟨_, _, _, x3, _, _, _⟩ := HQ.out _ HBX.out;obtain ⟨q, hq⟩ : ∃ q, decide (x < 2 ^ yw) = q := ⟨_, rfl⟩;have hok : okV m (iz : Int) x = q := by unfold okV;rw [Int.toNat_natCast, hy];simp only;rw [hyw, Int.toNat_natCast];exact hq
     have IB := hid (show ∀ d os, Calls prog 54 #[.int .u64 (x : Nat), .int .i64 (yw : Nat)] (grow (redrawn wr d) os) fun e w'' => e = .returned (.bool q) /\ ∃ p : Regrown, w'' = grow (redrawn wr p.d) p.os from fun d os => Calls.regrown_of (w := wr) (d := d) (os := os) (by rw [<- hq]; exact z5e _ x yw hxl (by omega)));have hin : (i : Int) < (rn : Int) := (by omega);have hin2 : (i : Int) < (nu : Int) := (by have := HRE.out; omega);have hi0 : (0 : Int) <= (i : Int) := Int.natCast_nonneg _;have hz0 : (0 : Int) <= (iz : Int) := Int.natCast_nonneg _;have hz1 : (iz : Int) < (n : Int) := (by omega);have HLT := hid hlt;have HBW := hid hbx;have HOK := hid hok;have HZ1 := hid hz;have HX1 := hid hx;have HMT := hid hmet;have K0 := cell_regrown q0;have K1 := cell_regrown q1;have K2 := cell_regrown q2;have K3 := cell_regrown x3;clear hall hcell e1 hcu hcr hy hyw hq hok hz hx hmet HJ hbx hlt hxl by1 by2 hiz;go_wp2_with fail
     clear q0 q1 q2 x3;refine wp_region_quiet_below (by kernel_rfl) (by kernel_rfl) ?_;repeat (first | go_big_quiet_step (with_reducible exact IB.out _ _) | quiet_step (with_reducible exact IB.out _ _))
     refine wpQuiet_nil ?_;intro G hG;have HBG := hid (show Below w5.heap.size w5 G by obtain ⟨p, rfl⟩ := hG; exact HBW.out.trans ((below_regrown wr _ _).mono HBW.out.size));clear hG K0 K1 K2 K3
     cases q with
     | false =>
       obtain rfl : 14 = er := by
        have h9 := HER2.out;rw [if_neg] at h9
        ·exact h9
        ·intro hq;have := (zdh.1 hq).2 i _ _ HZ1.out HX1.out;rw [HOK.out] at this;cases this
       go_wp2
       exact bodyPost_ret (v := .int .i64 14) (by simp [results, Tryz.results50, go_sem]) rfl ⟨rfl, HGR.out _ (HB5.out.trans (HBG.out.mono HB5.out.size))⟩
     | true =>
       go_wp2
       refine ⟨⟨i + 1, by first | rfl | go_num | (congr 1), by have := HLT.out; omega, hid ⟨HBG.out, fun j z' x' hj h1 h2 => ?_⟩⟩, by simp only [intOf]; have := HLT.out; omega⟩;rcases Nat.lt_or_ge j i with h | h
       ·exact HMT.out j z' x' h h1 h2
       ·obtain rfl : j = i := by omega
        rw [HZ1.out] at h1;rw [HX1.out] at h2;obtain rfl := Option.some.inj h1;obtain rfl := Option.some.inj h2;exact HOK.out
    ·obtain rfl : i = rn := by omega
     obtain rfl : 0 = er := by
      have h9 := HER2.out;rw [if_pos] at h9
      ·exact h9
      ·exact zfb (by rw [HRN.out, HNU.out]; exact HRE.out) fun j z x h1 h2 => hmet j z x (by have := (List.getElem?_eq_some_iff.1 h1).1; rw [HRN.out] at this; exact this) h1 h2
     clear hmet HJ hbx;go_wp2
     exact bodyPost_ret (v := .int .i64 0) (by simp [results, Tryz.results50, go_sem]) rfl ⟨rfl, HGR.out _ HBX.out⟩
  ·have e0 : er = 2 := by
    rw [<- her];unfold z25;have e1 : zy m [a] = 2 := by unfold zy;rw [if_pos hce, if_neg];simp only [List.all_cons, List.all_nil, Bool.and_true];unfold idxM;simp only [decide_eq_true_eq];omega
    rw [if_neg (by rw [e1]; decide), e1]
   subst e0;rw [decide_eq_false hin] at HIN;clear hR hB hU hI hcs hW1 hblk1 hl1 hb1 hm' hn hk hs hce hV hnu hVl her hin;go_enter Tryz.func50, Tryz.ntmps50
   go_wp2_with (first
    | (go_at_call 38; (with_reducible refine HCK.out.mono ?_); rintro e w3 ⟨rfl, hb3⟩; rw [<- HW1.out] at hb3; obtain ⟨x0, x1, x2, x3, x4, x5, x6⟩ := HQ.out _ hb3)
    | (go_at_call 46; (with_reducible refine (HIN.out _).mono ?_); rintro e w4 ⟨rfl, rfl⟩))
   exact bodyPost_ret (v := .int .i64 2) (by simp [results, Tryz.results50, go_sem]) rfl ⟨rfl, HGR.out _ hb3⟩
 ·have g : (ce != 0) = true := by simp [hne]
  have g' : (ce == 0) = false := by simp [hne]
  have e0 : zy m [a] = ce := by unfold zy;rw [if_neg (by rw [hce]; exact hne), hce]
  obtain rfl : ce = er := by rw [<- her];unfold z25;rw [if_neg (by rw [e0]; exact hne), e0]
  clear hR hB hU hI hcs hW1 hblk1 hl1 hb1 hm' hn hk hs hce hV hnu hVl her hne e0;go_enter Tryz.func50, Tryz.ntmps50
  go_wp2_with (go_at_call 38; (with_reducible refine HCK.out.mono ?_); rintro e w3 ⟨rfl, hb3⟩; rw [<- HW1.out] at hb3; obtain ⟨x0, x1, x2, x3, x4, x5, x6⟩ := HQ.out _ hb3)
  exact bodyPost_ret (v := .int .i64 ce) (by simp [results, Tryz.results50, go_sem]) rfl ⟨rfl, HGR.out _ hb3⟩
end Go.Proofs.YtdmadnfadgggcaaGreatDoor
