import Derived.Test.YtdmadnfadgggcaaGreatDoorQR8Defs
set_option linter.unusedVariables false
set_option linter.unusedSimpArgs false
set_option warningAsError false
set_option maxHeartbeats 8000000
open Go.Lib (hid)
open Go.Proofs.Tryz (prog)
namespace Go.Proofs.YtdmadnfadgggcaaGreatDoor
open Go.RowKit Go.Instr Go.Sort
set_option maxRecDepth 100000
theorem z7b (w : World) (v : Value) (m : Mach) (hm : zz w v m) (hw : 1 <= m.word /\ m.word <= 4) (hbl : m.banks.length <= 1000) (hbr : ∀ b ∈ m.banks, b.regs.length <= 1000) (x : MIns) (cs : List Value) (hE : insE w cs x) (hol : x.opers.length <= 1000) (hpl : ∀ o ∈ x.opers, o.pieces.length <= 1000) (i : Nat) (o : MOper) (ho : x.opers[i]? = some o) :
 Calls prog 100 #[v, .agg cs.toArray, .int .i64 (i : Nat)] w fun e w' => e = .returned (.bool (z3b m.word m.address m.banks x.opers i o)) /\ Below w.heap.size w w' := by
 obtain ⟨cs0, rfl, sr, sb, su, si, hcs, h1, h2, h3, hR, hB, hU, hI⟩ := hm;obtain rfl : cs0 = #[.string m.name, .int .i64 m.word, .int .i64 m.address, sr, sb, su, si] := by cases cs0; simp_all
 obtain ⟨so, se, rfl, _, _, _, hO, hEf, _⟩ := hE;have HO := hid hO;have HBB := hid hB;obtain ⟨A, c, rfl, _⟩ := id hO;obtain ⟨Ab, cb, rfl, _⟩ := id hB;obtain ⟨L, hL⟩ : ∃ z, x.opers = z := ⟨_, rfl⟩;rw [hL] at HO hol hpl ho ⊢;obtain ⟨n, hn⟩ : ∃ z, L.length = z := ⟨_, rfl⟩;obtain ⟨BL, hBL⟩ : ∃ z, m.banks = z := ⟨_, rfl⟩;rw [hBL] at HBB hbl hbr ⊢;obtain ⟨nb, hnb⟩ : ∃ z, BL.length = z := ⟨_, rfl⟩;have HN := hid hn;have HNB := hid hnb;rw [hn] at HO hol;rw [hnb] at HBB hbl;rw [hn, hnb];have hn4 : n <= 9223372036854775807 := by omega
 have hnb4 : nb <= 9223372036854775807 := by omega
 have hin : i < n := by rw [<- hn]; exact (List.getElem?_eq_some_iff.1 ho).1
 obtain ⟨wd, hwd⟩ : ∃ z, m.word = z := ⟨_, rfl⟩;obtain ⟨ad, had⟩ : ∃ z, m.address = z := ⟨_, rfl⟩;rw [hwd] at hw ⊢;rw [had];rw [had] at h3;have HCO := hid (show ∀ (k : Nat) (y : MOper), L[k]? = some y -> ∃ b o A3 c3, A = some ⟨b, o, none⟩ /\ y.pieces.length <= 1000 /\ ((-9223372036854775808 <= y.bank /\ y.bank <= 9223372036854775807) /\ y.kind < 256) /\ z1g w [.string y.name, .int .u8 (y.kind : Nat), .int .i64 y.bank, .int .i64 y.scale, .slice A3 y.pieces.length c3, .int .i64 y.tied] y /\ (∀ X, Below w.heap.size w X -> X.cell? ⟨b, o + k * 6, none⟩ = some (.string y.name) /\ X.cell? ⟨b, o + k * 6 + 1, none⟩ = some (.int .u8 (y.kind : Nat)) /\ X.cell? ⟨b, o + k * 6 + 2, none⟩ = some (.int .i64 y.bank) /\ X.cell? ⟨b, o + k * 6 + 3, none⟩ = some (.int .i64 y.scale) /\ X.cell? ⟨b, o + k * 6 + 4, none⟩ = some (.slice A3 y.pieces.length c3) /\ X.cell? ⟨b, o + k * 6 + 5, none⟩ = some (.int .i64 y.tied)) from fun k y hy => by
  obtain ⟨A', c', e1, _, _, _, hall⟩ := HO.out;obtain ⟨b, o, cs, e2, hb, hcl, hcell, hE'⟩ := hall k y hy;obtain ⟨rfl, rfl⟩ : A = A' /\ c = c' := by cases e1; exact ⟨rfl, rfl⟩
  have hE2 := hE';obtain ⟨sv, rfl, _, hkd, hbk, _, hP, _⟩ := hE';obtain ⟨A3, c3, rfl, _⟩ := id hP;refine ⟨b, o, A3, c3, e2, hpl y (List.mem_of_getElem? hy), ⟨hbk, hkd⟩, hE2, fun X hX => ?_⟩;exact ⟨by rw [hX.cell hb]; simpa using hcell 0 _ rfl, by rw [hX.cell hb]; exact hcell 1 _ rfl, by rw [hX.cell hb]; exact hcell 2 _ rfl, by rw [hX.cell hb]; exact hcell 3 _ rfl, by rw [hX.cell hb]; exact hcell 4 _ rfl, by rw [hX.cell hb]; exact hcell 5 _ rfl⟩)
 obtain ⟨b, oo, A3, c3, eA, hpn, ⟨hbk, hkd⟩, hoe, hoc⟩ := HCO.out i o ho;subst eA;obtain ⟨pn, hpne⟩ : ∃ z, o.pieces.length = z := ⟨_, rfl⟩;have hoe2 := hoe;rw [hpne] at hoe hoc hpn;obtain ⟨Wa, hWa⟩ : ∃ z, z = w.alloc (.cells #[.string m.name, .int .i64 wd, .int .i64 ad, sr, .slice Ab nb cb, su, si] 27) := ⟨_, rfl⟩;obtain ⟨Wb, hWb⟩ : ∃ z, z = Wa.alloc (.cells #[.string x.name, .int .u64 (x.mask : Nat), .int .u64 (x.mtch : Nat), .slice (some ⟨b, oo, none⟩) n c, se, .int .i64 x.unit, .int .i64 x.busy, .int .i64 x.lat, .int .i64 x.slots] 83) := ⟨_, rfl⟩;obtain ⟨W1, hW1⟩ : ∃ z, z = Wb.alloc (.cells #[.string o.name, .int .u8 (o.kind : Nat), .int .i64 o.bank, .int .i64 o.scale, .slice A3 pn c3, .int .i64 o.tied] 86) := ⟨_, rfl⟩;have sa : Wa.heap.size = w.heap.size + 1 := by rw [hWa]; simp
 have sb : Wb.heap.size = w.heap.size + 2 := by rw [hWb]; simp [sa]
 have hs1 : W1.heap.size = w.heap.size + 3 := by rw [hW1]; simp [sb]
 have ba : Below w.heap.size w Wa := by rw [hWa]; exact (Below.refl _ _).alloc (Nat.le_refl _) _
 have bb : Below Wa.heap.size Wa Wb := by rw [hWb]; exact (Below.refl _ _).alloc (Nat.le_refl _) _
 have bc : Below Wb.heap.size Wb W1 := by rw [hW1]; exact (Below.refl _ _).alloc (Nat.le_refl _) _
 have hbw : Below w.heap.size w Wb := ba.trans (bb.mono ba.size);have hb1 : Below w.heap.size w W1 := hbw.trans (bc.mono (by omega));have hblk1 : W1.heap[w.heap.size]? = some (.cells #[.string m.name, .int .i64 wd, .int .i64 ad, sr, .slice Ab nb cb, su, si] 27) := by rw [bc.block _ (by omega), bb.block _ (by omega), hWa]; exact heap_alloc_new _ _
 have hblk2 : W1.heap[w.heap.size + 1]? = some (.cells #[.string x.name, .int .u64 (x.mask : Nat), .int .u64 (x.mtch : Nat), .slice (some ⟨b, oo, none⟩) n c, se, .int .i64 x.unit, .int .i64 x.busy, .int .i64 x.lat, .int .i64 x.slots] 83) := by rw [bc.block _ (by omega), hWb, <- sa]; exact heap_alloc_new _ _
 have hblk3 : W1.heap[w.heap.size + 2]? = some (.cells #[.string o.name, .int .u8 (o.kind : Nat), .int .i64 o.bank, .int .i64 o.scale, .slice A3 pn c3, .int .i64 o.tied] 86) := by rw [hW1, <- sb]; exact heap_alloc_new _ _
 obtain ⟨s0, s1, s2, s3, s4, s5⟩ := hoc Wb hbw;have s9 : Wb.cell? ⟨w.heap.size + 1, 3, none⟩ = some (.slice (some ⟨b, oo, none⟩) n c) := zb (show Wb.heap[w.heap.size + 1]? = _ by rw [hWb, <- sa]; exact heap_alloc_new _ _) rfl;have HWB := hid (show Wb = (w.alloc (.cells #[.string m.name, .int .i64 wd, .int .i64 ad, sr, .slice Ab nb cb, su, si] 27)).alloc (.cells #[.string x.name, .int .u64 (x.mask : Nat), .int .u64 (x.mtch : Nat), .slice (some ⟨b, oo, none⟩) n c, se, .int .i64 x.unit, .int .i64 x.busy, .int .i64 x.lat, .int .i64 x.slots] 83) by rw [hWb, hWa]);have HW := hid (show W1 = ((w.alloc (.cells #[.string m.name, .int .i64 wd, .int .i64 ad, sr, .slice Ab nb cb, su, si] 27)).alloc (.cells #[.string x.name, .int .u64 (x.mask : Nat), .int .u64 (x.mtch : Nat), .slice (some ⟨b, oo, none⟩) n c, se, .int .i64 x.unit, .int .i64 x.busy, .int .i64 x.lat, .int .i64 x.slots] 83)).alloc (.cells #[.string o.name, .int .u8 (o.kind : Nat), .int .i64 o.bank, .int .i64 o.scale, .slice A3 pn c3, .int .i64 o.tied] 86) by rw [hW1, hWb, hWa]);have HQ := hid (show ∀ X, Below W1.heap.size W1 X -> X.cell? ⟨w.heap.size, 1, none⟩ = some (.int .i64 wd) /\ X.cell? ⟨w.heap.size, 2, none⟩ = some (.int .i64 ad) /\ X.cell? ⟨w.heap.size, 4, none⟩ = some (.slice Ab nb cb) /\ X.cell? ⟨w.heap.size + 1, 3, none⟩ = some (.slice (some ⟨b, oo, none⟩) n c) /\ X.cell? ⟨w.heap.size + 2, 0, none⟩ = some (.string o.name) /\ X.cell? ⟨w.heap.size + 2, 1, none⟩ = some (.int .u8 (o.kind : Nat)) /\ X.cell? ⟨w.heap.size + 2, 2, none⟩ = some (.int .i64 o.bank) /\ X.cell? ⟨w.heap.size + 2, 3, none⟩ = some (.int .i64 o.scale) /\ X.cell? ⟨w.heap.size + 2, 4, none⟩ = some (.slice A3 pn c3) /\ X.cell? ⟨w.heap.size + 2, 5, none⟩ = some (.int .i64 o.tied) from fun X hX => by have e1 := (hX.block _ (by omega)).trans hblk1;have e2 := (hX.block _ (by omega)).trans hblk2;have e3 := (hX.block _ (by omega)).trans hblk3;exact ⟨zb e1 rfl, zb e1 rfl, zb e1 rfl, zb e2 rfl, zb e3 rfl, zb e3 rfl, zb e3 rfl, zb e3 rfl, zb e3 rfl, zb e3 rfl⟩)
 have HGR := hid (show ∀ X, Below W1.heap.size W1 X -> Below w.heap.size w X from fun X hX => hb1.trans (hX.mono hb1.size));have HF1 := hid (Below.refl W1.heap.size W1);obtain ⟨r, hr⟩ : ∃ r, z3b wd ad BL L i o = r := ⟨_, rfl⟩;have HR0 := hid (show (z1t o.name && (!(o.name.toList == z1a.toList) && (o.pieces.all (zv wd) && (!(decide (o.name ∈ (L.map fun x => x.name).take i)) && z6l ad BL L i o)))) = r from hr);rw [hr];have HNM := hid (show ∀ X, Below W1.heap.size W1 X -> Calls prog 76 #[.string o.name] X fun e w' => e = .returned (.bool (z1t o.name)) /\ Below W1.heap.size W1 w' from fun X hX => (z33 o.name X).mono fun e w' ⟨g1, g2⟩ => ⟨g1, hX.trans (g2.mono hX.size)⟩);have HPC := hid (show ∀ X, Below W1.heap.size W1 X -> Calls prog 125 #[.agg #[.string o.name, .int .u8 (o.kind : Nat), .int .i64 o.bank, .int .i64 o.scale, .slice A3 pn c3, .int .i64 o.tied], .int .i64 wd] X fun e w' => e = .returned (.bool (o.pieces.all (zv wd))) /\ Below W1.heap.size W1 w' from fun X hX => (z88 X o _ (z1g.kept hoe (HGR.out X hX)) (by omega) wd hw).mono fun e w' ⟨g1, g2⟩ => ⟨g1, hX.trans (g2.mono hX.size)⟩);have HFD := hid (show ∀ X, Below W1.heap.size W1 X -> Calls prog 116 #[.agg #[.string o.name, .int .u8 (o.kind : Nat), .int .i64 o.bank, .int .i64 o.scale, .slice A3 pn c3, .int .i64 o.tied]] X fun e w' => e = .returned (.int .i64 (fwR 0 o.pieces)) /\ Below X.heap.size X w' from fun X hX => zbt X o _ (z1g.kept hoe (HGR.out X hX)) (by omega));have HOP := hid (show ∀ (k : Nat) (y : MOper), L[k]? = some y -> ∀ X, Below W1.heap.size W1 X -> X.cell? ⟨b, oo + k * 6, none⟩ = some (.string y.name) /\ X.cell? ⟨b, oo + k * 6 + 1, none⟩ = some (.int .u8 (y.kind : Nat)) /\ X.cell? ⟨b, oo + k * 6 + 2, none⟩ = some (.int .i64 y.bank) /\ X.cell? ⟨b, oo + k * 6 + 3, none⟩ = some (.int .i64 y.scale) /\ (∃ A c, X.cell? ⟨b, oo + k * 6 + 4, none⟩ = some (.slice A y.pieces.length c)) /\ X.cell? ⟨b, oo + k * 6 + 5, none⟩ = some (.int .i64 y.tied) from fun k y hy X hX => by
  obtain ⟨b', o', A9, c9, e2, _, _, _, hc⟩ := HCO.out k y hy;obtain ⟨rfl, rfl⟩ : b = b' /\ oo = o' := by cases e2; exact ⟨rfl, rfl⟩
  obtain ⟨g0, g1, g2, g3, g4, g5⟩ := hc X (HGR.out X hX);exact ⟨g0, g1, g2, g3, ⟨A9, c9, g4⟩, g5⟩)
 obtain ⟨N, hNN⟩ : ∃ N, L.map (fun x => x.name) = N := ⟨_, rfl⟩;have HNA := hid (show ∀ (i : Nat) (x : MOper), L[i]? = some x -> N[i]? = some x.name from fun i x h => by rw [<- hNN, List.getElem?_map, h]; rfl);rw [hNN] at HR0;obtain ⟨y1, _, _, _, y0, _, _, _, _, _⟩ := HQ.out W1 HF1.out;rw [HW.out] at y0 y1;rw [HWB.out] at s0 s1 s2 s3 s4 s5 s9;obtain ⟨nm, hnm⟩ : ∃ z, o.name = z := ⟨_, rfl⟩;obtain ⟨qn, hqn⟩ : ∃ z, z1t nm = z := ⟨_, rfl⟩;obtain ⟨qp, hqp⟩ : ∃ z, (nm.toList == z1a.toList) = z := ⟨_, rfl⟩;obtain ⟨qo, hqo⟩ : ∃ z, o.pieces.all (zv wd) = z := ⟨_, rfl⟩;have HPO := hid hqo;have hqp2 : (nm.toList == [112, 99]) = qp := by rw [<- hqp, show z1a.toList = [112, 99] by rw [ByteArray.toList_eq]; rfl]
 rw [hqo] at HR0 HPC;rw [hnm] at HR0 HNM HW HQ HPC HFD y0 s0;rw [hqn] at HR0 HNM;rw [hqp] at HR0;have hi0 : (0 : Int) <= (i : Int) := Int.natCast_nonneg _;have hi1 : (i : Int) < (n : Int) := by omega
 have HBR := hid hbr;have HHO := hid ho;have HI := hid hin;have HPL := hid (show pn <= 1000 /\ o.pieces.length = pn /\ ((-9223372036854775808 <= o.bank /\ o.bank <= 9223372036854775807) /\ o.kind < 256) /\ nb <= 1000 /\ (1 <= wd /\ wd <= 4) /\ i <= 1000 from ⟨hpn, hpne, ⟨hbk, hkd⟩, hbl, hw, by omega⟩);have hpn4 : pn <= 9223372036854775807 := by omega
 have hn9 := hn4;clear hcs h1 h2 h3 hR hB hU hI hO hEf hWa hWb hW1 sa sb hs1 ba bb bc hbw hb1 hblk1 hblk2 hblk3 hr hoe hoe2 hoc HCO hqn hqp hqo hNN hn hnb hL hBL hwd had hbr hpl ho hin hnm hpne hbk hkd hpn hw hol hbl
 cases qn with
 | false =>
   obtain rfl : false = r := by have := HR0.out; simpa using this
   go_enter Tryz.func100, Tryz.ntmps100
   go_wp2_with (first
    | (go_at_call 76; (with_reducible refine (HNM.out _ (by rw [<- HW.out]; exact HF1.out)).mono ?_); rintro e w5 ⟨rfl, hb5⟩; obtain ⟨a0, a1, a2, a3, a4, a5, a6, a7, a8, a9⟩ := HQ.out _ hb5)
    | (go_at_call 125; (with_reducible refine (HPC.out _ (by assumption)).mono ?_); rintro e w6 ⟨rfl, hb6⟩))
   go_ret
   exact ⟨rfl, HGR.out _ hb5⟩
 | true =>
   cases qp with
   | true =>
     obtain rfl : false = r := by have := HR0.out; simpa using this
     go_enter Tryz.func100, Tryz.ntmps100
     go_wp2_with (first
      | (go_at_call 76; (with_reducible refine (HNM.out _ (by rw [<- HW.out]; exact HF1.out)).mono ?_); rintro e w5 ⟨rfl, hb5⟩; obtain ⟨a0, a1, a2, a3, a4, a5, a6, a7, a8, a9⟩ := HQ.out _ hb5)
      | (go_at_call 125; (with_reducible refine (HPC.out _ (by assumption)).mono ?_); rintro e w6 ⟨rfl, hb6⟩))
     go_ret
     exact ⟨rfl, HGR.out _ hb5⟩
   | false =>
     cases qo with
     | false =>
       obtain rfl : false = r := by have := HR0.out; simpa using this
       go_enter Tryz.func100, Tryz.ntmps100
       go_wp2_with (first
        | (go_at_call 76; (with_reducible refine (HNM.out _ (by rw [<- HW.out]; exact HF1.out)).mono ?_); rintro e w5 ⟨rfl, hb5⟩; obtain ⟨a0, a1, a2, a3, a4, a5, a6, a7, a8, a9⟩ := HQ.out _ hb5)
        | (go_at_call 125; (with_reducible refine (HPC.out _ (by assumption)).mono ?_); rintro e w6 ⟨rfl, hb6⟩))
       go_ret
       exact ⟨rfl, HGR.out _ hb6⟩
     | true =>
       have HR1 := hid (show (!(decide (nm ∈ N.take i)) && z6l ad BL L i o) = r by have := HR0.out; simpa using this);go_enter Tryz.func100, Tryz.ntmps100
       go_wp2_with (first
        | (go_at_call 76; (with_reducible refine (HNM.out _ (by rw [<- HW.out]; exact HF1.out)).mono ?_); rintro e w5 ⟨rfl, hb5⟩; obtain ⟨a0, a1, a2, a3, a4, a5, a6, a7, a8, a9⟩ := HQ.out _ hb5)
        | (go_at_call 125; (with_reducible refine (HPC.out _ (by assumption)).mono ?_); rintro e w6 ⟨rfl, hb6⟩))
       have HB6 := hid hb6;clear a0 a1 a2 a3 a4 a5 a6 a7 a8 a9 hb5 hb6 y0 y1 s0 s1 s2 s3 s4 s5 s9;go_loopw [8] (fun vk wq => ∃ (k : Nat), vk = .int .i64 k /\ k <= i /\ Hid (Below W1.heap.size W1 wq /\ ∀ j t, j < k -> N[j]? = some t -> (t.toList == nm.toList) = false)) (fun vk _ => i - (intOf vk).toNat)
       case atStart => exact ⟨0, rfl, Nat.zero_le _, hid ⟨HB6.out, fun j t hj => absurd hj (Nat.not_lt_zero _)⟩⟩
       case round =>
        obtain ⟨k, rfl, hki, HK⟩ := hrel;obtain ⟨hbq, hkk⟩ := HK.out;obtain ⟨a0, a1, a2, a3, a4, a5, a6, a7, a8, a9⟩ := HQ.out _ hbq;by_cases hlk : k < i
        ·obtain ⟨y, hy⟩ : ∃ p, L[k]? = some p := ⟨_, List.getElem?_eq_getElem (by rw [HN.out]; have := HI.out; omega)⟩;obtain ⟨p0, _⟩ := HOP.out k y hy _ hbq;have hNk := HNA.out k y hy;obtain ⟨yn, hyn⟩ : ∃ z, y.name = z := ⟨_, rfl⟩;rw [hyn] at p0 hNk;have K0 := cell_regrown a3;have K1 := cell_regrown a4;have K3 := cell_regrown p0;have hin2 : (k : Int) < (n : Int) := (by omega);have hin3 : (k : Int) < (i : Int) := (by omega);have hk0 : (0 : Int) <= (k : Int) := Int.natCast_nonneg _;have HLK := hid hlk;have HKK := hid hkk;have HNK := hid hNk;have HBQ := hid hbq;obtain ⟨q, hq⟩ : ∃ q, (yn.toList == nm.toList) = q := ⟨_, rfl⟩;have HQQ := hid hq;clear hkk hNk hy hyn HK hbq;go_wp2_with fail
         clear a0 a1 a2 a3 a4 a5 a6 a7 a8 a9 p0;refine wp_region_quiet_below (by kernel_rfl) (by kernel_rfl) ?_;repeat (first | go_big_quiet_step (fail) | quiet_step (fail))
         refine wpQuiet_nil ?_;intro G hG;have hbG : Below W1.heap.size W1 G := (by obtain ⟨p, rfl⟩ := hG; exact HBQ.out.trans ((below_regrown wr _ _).mono HBQ.out.size));clear hG K0 K1 K3;have HBG := hid hbG;clear hbG
         cases q with
         | true =>
           obtain rfl : false = r := by have := HR1.out; rw [z6g HLK.out HNK.out HQQ.out] at this; simpa using this
           go_wp2
           go_ret
           exact ⟨rfl, HGR.out _ HBG.out⟩
         | false =>
           go_wp2
           go_roundw
           case rel =>
            refine ⟨k + 1, by first | rfl | go_num | (congr 1), by have := HLK.out; omega, hid ⟨HBG.out, fun j t hj ht => ?_⟩⟩;by_cases e : j = k
            ·subst e; rw [HNK.out] at ht; obtain rfl := Option.some.inj ht; exact HQQ.out
            ·exact HKK.out j t (by omega) ht
           case measure => simp only [intOf]; have := HLK.out; omega
        ·obtain rfl : k = i := by omega
         have HBQ := hid hbq;have HR2 := hid (show z6l ad BL L k o = r by have := HR1.out; rw [z99 hkk] at this; simpa using this);clear hkk HK hbq HR0 HR1;obtain ⟨f, hf, hf2⟩ := zgk HPL.out.2.2.2.2.1.2 o.pieces 0 HPO.out (by rw [HPL.out.2.1]; have := HPL.out.1; omega);have hfb : f <= 32000 := (by rw [HPL.out.2.1] at hf2; have := HPL.out.1; omega);rw [show ((0 : Nat) : Int) = 0 from rfl] at hf;have hr := HR2.out;unfold z6l at hr;rw [hf, HNB.out, HPL.out.2.1, Int.toNat_natCast] at hr;rw [hf] at HFD;obtain ⟨_, _, ⟨hbkb, hkdb⟩, hnb1, hwdb, hk1000⟩ := HPL.out;obtain ⟨kd, hkd⟩ : ∃ z, o.kind = z := ⟨_, rfl⟩;obtain ⟨bk, hbk⟩ : ∃ z, o.bank = z := ⟨_, rfl⟩;obtain ⟨sc, hsc⟩ : ∃ z, o.scale = z := ⟨_, rfl⟩;obtain ⟨td, htd⟩ : ∃ z, o.tied = z := ⟨_, rfl⟩;rw [hkd, hbk, hsc, htd] at hr HQ HFD;rw [hkd] at a5;rw [hbk] at a6;rw [hsc] at a7;rw [htd] at a9;rw [hbk] at hbkb;rw [hkd] at hkdb;have HKE := hid (And.intro hkd (And.intro hbk (And.intro hsc htd)));clear HPC HNM HPL HR2 hf hf2 hkd hbk hsc htd HPO;have hbR := HBQ.out;have hw9 : wrap64 ((nb : Int) - 1) = (nb : Int) - 1 := zd _ (by omega) (by omega);have HI1 := hid (fun X => z1d X bk 0 ((nb : Int) - 1));by_cases hk1 : kd = 1
         ·have g1 : ((kd : Int) == 1) = true := (by simp [hk1]);rw [if_pos hk1] at hr;by_cases hbb : 0 <= bk /\ bk <= (nb : Int) - 1
          ·rw [if_pos hbb] at hr;rw [decide_eq_true hbb] at HI1;by_cases hs0 : sc = 0
           ·subst hs0;rw [if_pos rfl] at hr;by_cases htm : td = -1
            ·subst htm;rw [if_pos rfl] at hr;obtain ⟨kz, rfl⟩ : ∃ kz : Nat, bk = (kz : Int) := ⟨bk.toNat, by omega⟩;obtain ⟨B, hB⟩ : ∃ B, BL[kz]? = some B := ⟨_, List.getElem?_eq_getElem (by rw [HNB.out]; omega)⟩;obtain ⟨A', c', e1, _, _, _, hall⟩ := HBB.out;obtain ⟨bb, ob, cb2, e2, hbb2, _, hcell, hEB⟩ := hall kz B hB;obtain ⟨rfl, rfl⟩ : Ab = A' /\ cb = c' := by cases e1; exact ⟨rfl, rfl⟩
             subst e2;obtain ⟨sr2, rfl, _, hRR⟩ := hEB;obtain ⟨A9, c9, rfl, _⟩ := hRR;have hBn := HBR.out B (List.mem_of_getElem? hB);rw [Int.toNat_natCast, hB] at hr;have hr2 : (decide (0 < (f : Int)) && (decide (6 < (f : Int)) || decide (B.regs.length <= 2 ^ f))) = r := hr;clear hr;obtain ⟨rn, hrn⟩ : ∃ z, B.regs.length = z := ⟨_, rfl⟩;rw [hrn] at hr2 hBn hcell;have HBC := hid (show ∀ X, Below W1.heap.size W1 X -> X.cell? ⟨bb, ob + kz * 2 + 1, none⟩ = some (.slice A9 rn c9) from fun X hX => ((HGR.out X hX).cell hbb2).trans (hcell 1 _ rfl));have hz0 : (0 : Int) <= (kz : Int) := Int.natCast_nonneg _;have hz1 : (kz : Int) < (nb : Int) := (by omega);have HFF := hid hfb;have HRN := hid hBn;obtain ⟨u1, hu1⟩ : ∃ z, decide (0 < f) = z := ⟨_, rfl⟩;obtain ⟨u2, hu2⟩ : ∃ z, decide (6 < f) = z := ⟨_, rfl⟩;have v1 : decide ((0 : Int) < (f : Int)) = u1 := (by rw [<- hu1]; exact decide_eq_decide.2 (by omega));have v2 : decide ((6 : Int) < (f : Int)) = u2 := (by rw [<- hu2]; exact decide_eq_decide.2 (by omega));rw [v1, v2] at hr2;have HHR := hid hr2;have hway : u1 = false ∨ (u1 = true /\ (u2 = true ∨ (u2 = false /\ f <= 6))) := by rw [<- hu1, <- hu2];by_cases h1 : 0 < f <;> by_cases h2 : 6 < f <;> simp [h1, h2] <;> omega
             clear hall hcell e1 hB hBn hrn hr2 hbb hk1
             go_wp2_with (first
              | (go_at_call 46; (with_reducible refine (HI1.out _).mono ?_); rintro e w6 ⟨rfl, rfl⟩)
              | (go_at_call 116; (with_reducible refine (HFD.out _ HBQ.out).mono ?_); rintro e w8 ⟨rfl, hb8⟩))
             have hb9 := HBQ.out.trans (hb8.mono HBQ.out.size);have HB9 := hid hb9;clear a0 a1 a2 a3 a4 a5 a6 a7 a8 a9 hb8;obtain ⟨a0, a1, a2, a3, a4, a5, a6, a7, a8, a9⟩ := HQ.out _ hb9;have bc := HBC.out _ hb9;have K2 := cell_regrown a2;have K6 := cell_regrown a6;have KB := cell_regrown bc;clear a0 a1 a2 a3 a4 a5 a6 a7 a8 a9 bc hb9;rcases hway with rfl | ⟨rfl, rfl | ⟨rfl, h6⟩⟩
             ·obtain rfl : false = r := by have := HHR.out; simpa using this
              refine wp_region_quiet_below (by kernel_rfl) (by kernel_rfl) ?_;repeat (first | go_big_quiet_step (fail) | quiet_step (fail))
              refine wpQuiet_nil ?_;intro G hG;have hbG : Below W1.heap.size W1 G := (by obtain ⟨p, rfl⟩ := hG; exact HB9.out.trans ((below_regrown w8 _ _).mono HB9.out.size));clear hG K2 K6 KB;go_wp2
              go_ret
              exact ⟨rfl, HGR.out _ hbG⟩
             ·obtain rfl : true = r := by have := HHR.out; simpa using this
              refine wp_region_quiet_below (by kernel_rfl) (by kernel_rfl) ?_;repeat (first | go_big_quiet_step (fail) | quiet_step (fail))
              refine wpQuiet_nil ?_;intro G hG;have hbG : Below W1.heap.size W1 G := (by obtain ⟨p, rfl⟩ := hG; exact HB9.out.trans ((below_regrown w8 _ _).mono HB9.out.size));clear hG K2 K6 KB;go_wp2
              go_ret
              exact ⟨rfl, HGR.out _ hbG⟩
             ·have HPW := hid (show ∀ d os, Calls prog 90 #[.int .i64 (f : Nat)] (grow (redrawn w8 d) os) fun e w'' => e = .returned (.int .i64 (2 ^ f : Nat)) /\ ∃ p : Regrown, w'' = grow (redrawn w8 p.d) p.os from fun d os => Calls.regrown_of (zci _ f (by omega)));obtain ⟨pw, hpw⟩ : ∃ z, 2 ^ f = z := ⟨_, rfl⟩;rw [hpw] at HHR HPW;obtain ⟨u, hu⟩ : ∃ z, decide (rn <= pw) = z := ⟨_, rfl⟩;have hu2 : decide ((rn : Int) <= (pw : Int)) = u := (by rw [<- hu]; exact decide_eq_decide.2 (by omega));obtain rfl : u = r := by have := HHR.out; rw [hu] at this; simpa using this
              clear hpw;refine wp_region_quiet_below (by kernel_rfl) (by kernel_rfl) ?_;repeat (first | go_big_quiet_step (with_reducible exact HPW.out _ _) | quiet_step (with_reducible exact HPW.out _ _))
              refine wpQuiet_nil ?_;intro G hG;have hbG : Below W1.heap.size W1 G := (by obtain ⟨p, rfl⟩ := hG; exact HB9.out.trans ((below_regrown w8 _ _).mono HB9.out.size));clear hG K2 K6 KB;go_wp2
              go_ret
              refine ⟨?_, HGR.out _ hbG⟩;first | rfl | (rw [hu2]) | (rw [hu])
            ·have g2 : (td == -1) = false := (by simp [htm]);rw [if_neg htm] at hr;have hw8 : wrap64 ((k : Int) - 1) = (k : Int) - 1 := zd _ (by omega) (by omega);have HI2 := hid (fun X => z1d X td 0 ((k : Int) - 1));by_cases htr : 0 <= td /\ td <= (k : Int) - 1
             ·rw [decide_eq_true htr] at HI2;rw [if_pos htr] at hr;by_cases hp0 : pn = 0
              ·subst hp0;rw [if_pos rfl] at hr;obtain ⟨tk, rfl⟩ : ∃ tk : Nat, td = (tk : Int) := ⟨td.toNat, by omega⟩;rw [Int.toNat_natCast] at hr;obtain ⟨y, hy⟩ : ∃ p, L[tk]? = some p := ⟨_, List.getElem?_eq_getElem (by rw [HN.out]; have := HI.out; omega)⟩;rw [hy] at hr;have hr2 : (decide (y.kind = 1) && (decide (y.bank = bk) && decide (y.tied = -1))) = r := hr;obtain ⟨u0, u1, u2, u3, ⟨A5, c5, u4⟩, u5⟩ := HOP.out tk y hy _ hbR;obtain ⟨yn, hyn⟩ : ∃ z, y.name = z := ⟨_, rfl⟩;obtain ⟨yk, hyk⟩ : ∃ z, y.kind = z := ⟨_, rfl⟩;obtain ⟨yb, hyb⟩ : ∃ z, y.bank = z := ⟨_, rfl⟩;obtain ⟨ys, hys⟩ : ∃ z, y.scale = z := ⟨_, rfl⟩;obtain ⟨yt, hyt⟩ : ∃ z, y.tied = z := ⟨_, rfl⟩;obtain ⟨yp, hyp⟩ : ∃ z, y.pieces.length = z := ⟨_, rfl⟩;rw [hyn] at u0;rw [hyk] at u1 hr2;rw [hyb] at u2 hr2;rw [hys] at u3;rw [hyp] at u4;rw [hyt] at u5 hr2;obtain ⟨W3, hW3⟩ : ∃ z, z = wr.alloc (.cells #[.string yn, .int .u8 (yk : Nat), .int .i64 yb, .int .i64 ys, .slice A5 yp c5, .int .i64 yt] 86) := ⟨_, rfl⟩;have hb3 : Below W1.heap.size W1 W3 := (by rw [hW3]; exact hbR.alloc hbR.size _);have hblk3 : W3.heap[wr.heap.size]? = some (.cells #[.string yn, .int .u8 (yk : Nat), .int .i64 yb, .int .i64 ys, .slice A5 yp c5, .int .i64 yt] 86) := (by rw [hW3]; exact heap_alloc_new _ _);obtain ⟨_, _, _, _, _, _, x6, _, _, _⟩ := HQ.out W3 hb3;have v1 := zb (i := 1) hblk3 rfl;have v2 := zb (i := 2) hblk3 rfl;have v5 := zb (i := 5) hblk3 rfl;have HB3 := hid hb3;rw [hW3] at x6 v1 v2 v5 HB3;have x6' : (wr.alloc (.cells #[.string yn, .int .u8 (yk : Nat), .int .i64 yb, .int .i64 ys, .slice A5 yp c5, .int .i64 yt] 86)).cell? ⟨w.heap.size + 1 + 1, 2, none⟩ = some (.int .i64 bk) := x6;have ht0 : (0 : Int) <= (tk : Int) := Int.natCast_nonneg _;have ht1 : (tk : Int) < (n : Int) := (by have := HI.out; omega);clear hr hy hyn hyk hyb hys hyt hyp hW3 hb3 hblk3 hk1 hbb hbR;by_cases c1 : yk = 1
               ·subst c1;rw [show (((1 : Nat) : Nat) : Int) = 1 from rfl] at x6 x6' v1 v2 v5 HB3 u1;by_cases c2 : yb = bk
                ·have hr3 : r = (yt == -1) := (by rw [<- hr2, decide_eq_true rfl, decide_eq_true c2]; by_cases h : yt = -1 <;> simp [h]);subst hr3;clear hr2;rw [c2] at x6 x6' v1 v2 v5 HB3 u2;clear c2
                 go_wp2_with (first
                  | (go_at_call 46; (with_reducible refine (HI1.out _).mono ?_); rintro e w6 ⟨rfl, rfl⟩)
                  | (go_at_call 46; (with_reducible refine (HI2.out _).mono ?_); rintro e w7 ⟨rfl, rfl⟩))
                 go_ret
                 exact ⟨rfl, HGR.out _ HB3.out⟩
                ·have e2 : (yb == bk) = false := (by simp [c2]);obtain rfl : false = r := by rw [<- hr2, decide_eq_false c2]; simp
                 clear hr2 c2
                 go_wp2_with (first
                  | (go_at_call 46; (with_reducible refine (HI1.out _).mono ?_); rintro e w6 ⟨rfl, rfl⟩)
                  | (go_at_call 46; (with_reducible refine (HI2.out _).mono ?_); rintro e w7 ⟨rfl, rfl⟩))
                 go_ret
                 exact ⟨rfl, HGR.out _ HB3.out⟩
               ·have e1 : ((yk : Int) == 1) = false := (by simp; omega);obtain rfl : false = r := by rw [<- hr2, decide_eq_false c1]; simp
                go_wp2_with (first
                 | (go_at_call 46; (with_reducible refine (HI1.out _).mono ?_); rintro e w6 ⟨rfl, rfl⟩)
                 | (go_at_call 46; (with_reducible refine (HI2.out _).mono ?_); rintro e w7 ⟨rfl, rfl⟩))
                go_ret
                exact ⟨rfl, HGR.out _ HB3.out⟩
              ·rw [if_neg hp0] at hr;obtain rfl : false = r := hr;have e1 : (0 : Int) < (pn : Int) := (by omega);have e2 : 0 < pn := (by omega);clear hk1 hbb
               go_wp2_with (first
                | (go_at_call 46; (with_reducible refine (HI1.out _).mono ?_); rintro e w6 ⟨rfl, rfl⟩)
                | (go_at_call 46; (with_reducible refine (HI2.out _).mono ?_); rintro e w7 ⟨rfl, rfl⟩))
               go_ret
               exact ⟨rfl, HGR.out _ HBQ.out⟩
             ·rw [decide_eq_false htr] at HI2;rw [if_neg htr] at hr;obtain rfl : false = r := hr;clear hk1 hbb
              go_wp2_with (first
               | (go_at_call 46; (with_reducible refine (HI1.out _).mono ?_); rintro e w6 ⟨rfl, rfl⟩)
               | (go_at_call 46; (with_reducible refine (HI2.out _).mono ?_); rintro e w7 ⟨rfl, rfl⟩))
              go_ret
              exact ⟨rfl, HGR.out _ HBQ.out⟩
           ·rw [if_neg hs0] at hr;obtain rfl : false = r := hr;have e1 : (sc != 0) = true := (by simp [hs0]);clear hk1 hbb;go_wp2_with (go_at_call 46; (with_reducible refine (HI1.out _).mono ?_); rintro e w6 ⟨rfl, rfl⟩)
            go_ret
            exact ⟨rfl, HGR.out _ HBQ.out⟩
          ·rw [if_neg hbb] at hr;obtain rfl : false = r := hr;rw [decide_eq_false hbb] at HI1;clear hk1 hbb;go_wp2_with (go_at_call 46; (with_reducible refine (HI1.out _).mono ?_); rintro e w6 ⟨rfl, rfl⟩)
           go_ret
           exact ⟨rfl, HGR.out _ HBQ.out⟩
         ·have g1 : ((kd : Int) == 1) = false := (by simp; omega);rw [if_neg hk1] at hr;by_cases h234 : kd = 2 ∨ kd = 3 ∨ kd = 4
          ·rw [if_pos h234] at hr;clear hk1 g1 HI1;obtain ⟨z1, hz1⟩ : ∃ z, (bk == 0) = z := ⟨_, rfl⟩;obtain ⟨z2, hz2⟩ : ∃ z, (td == -1) = z := ⟨_, rfl⟩;obtain ⟨q3, hq3⟩ : ∃ z, decide (0 <= sc /\ sc <= 3) = z := ⟨_, rfl⟩;obtain ⟨u4, hu4⟩ : ∃ z, decide (0 < (f : Int)) = z := ⟨_, rfl⟩;obtain ⟨u5, hu5⟩ : ∃ z, decide ((f : Int) + sc <= ad) = z := ⟨_, rfl⟩;have v4 : decide (0 < f) = u4 := (by rw [<- hu4]; exact decide_eq_decide.2 (by omega));rw [show decide (bk = 0) = z1 by rw [<- hz1]; exact (Bool.beq_eq_decide_eq ..).symm, show decide (td = -1) = z2 by rw [<- hz2]; exact (Bool.beq_eq_decide_eq ..).symm, hq3, hu4, hu5] at hr;have HHR := hid hr;have hsw : q3 = true -> wrap64 ((f : Int) + sc) = (f : Int) + sc := fun h => by
            rw [h] at hq3;have := of_decide_eq_true hq3;exact zd _ (by omega) (by omega)
           have IIN := hid (show ∀ d os, Calls prog 46 #[.int .i64 sc, .int .i64 0, .int .i64 3] (grow (redrawn wr d) os) fun e w'' => e = .returned (.bool q3) /\ ∃ p : Regrown, w'' = grow (redrawn wr p.d) p.os from fun d os => zh ((z1d (grow (redrawn wr d) os) sc 0 3).mono fun e w' ⟨h1, h2⟩ => ⟨by rw [h1, hq3], h2.symm⟩));have hway : z1 = false ∨ (z1 = true /\ (z2 = false ∨ (z2 = true /\ (q3 = false ∨ (q3 = true /\ (u4 = false ∨ u4 = true)))))) := by cases z1 <;> cases z2 <;> cases q3 <;> cases u4 <;> simp
           clear hr hq3;have K1 := cell_regrown a1;have K4 := cell_regrown a4;have K6 := cell_regrown a6;have K7 := cell_regrown a7;have K8 := cell_regrown a8;have K9 := cell_regrown a9;have HKS := hid (And.intro K1 (And.intro K4 (And.intro K6 (And.intro K7 (And.intro K8 K9)))));clear K1 K4 K6 K7 K8 K9;rcases h234 with rfl | rfl | rfl
           all_goals
            have K5 := cell_regrown a5;simp only [Int.cast_ofNat_Int] at a5 K5 HFD;have IFD := hid (fun (d : Nat) (os : Array Obj) => Calls.regrown_of (HFD.out (grow (redrawn wr d) os) (hbR.trans ((below_regrown wr d os).mono hbR.size))));go_wp2_with fail
            clear a0 a1 a2 a3 a4 a5 a6 a7 a8 a9 hbR;obtain ⟨K1, K4, K6, K7, K8, K9⟩ := HKS.out;rcases hway with rfl | ⟨rfl, rfl | ⟨rfl, rfl | ⟨rfl, rfl | rfl⟩⟩⟩
            all_goals
             try have hsw2 := hsw rfl
             refine wp_region_quiet_below (by kernel_rfl) (by kernel_rfl) ?_;repeat (first | go_big_quiet_step (first | (with_reducible exact IIN.out _ _) | (with_reducible exact IFD.out _ _)) | quiet_step (first | (with_reducible exact IIN.out _ _) | (with_reducible exact IFD.out _ _)))
             refine wpQuiet_nil ?_;intro G hG;have hbG : Below W1.heap.size W1 G := (by obtain ⟨p, rfl⟩ := hG; exact HBQ.out.trans ((below_regrown wr _ _).mono HBQ.out.size));clear hG K1 K4 K5 K6 K7 K8 K9;go_wp2
             go_ret
             refine ⟨?_, HGR.out _ hbG⟩;have := HHR.out
             simp_all
          ·rw [if_neg h234] at hr;obtain rfl : false = r := hr;have g2 : ((kd : Int) == 2) = false := (by simp; omega);have g3 : ((kd : Int) == 3) = false := (by simp; omega);have g4 : ((kd : Int) == 4) = false := (by simp; omega);clear hk1 h234 hbR;go_wp2
           go_ret
           exact ⟨rfl, HGR.out _ HBQ.out⟩
end Go.Proofs.YtdmadnfadgggcaaGreatDoor
