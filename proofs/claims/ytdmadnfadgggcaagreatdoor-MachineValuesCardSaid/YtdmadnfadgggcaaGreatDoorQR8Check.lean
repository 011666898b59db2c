import Derived.Test.YtdmadnfadgggcaaGreatDoorQR8InsAny
set_option linter.unusedVariables false
set_option linter.unusedSimpArgs false
set_option warningAsError false
set_option maxHeartbeats 8000000
open Go.Lib (hid)
open Go.Proofs.Tryz (prog)
namespace Go.Proofs.YtdmadnfadgggcaaGreatDoor
open Go.RowKit Go.Instr Go.Sort
set_option maxRecDepth 100000
theorem za1 (w : World) (v : Value) (m : Mach) (hm : zz w v m) (hs : MachSmall m) :
 Calls prog 38 #[v] w fun e w' => e = .returned (.int .i64 (chk8 m)) /\ Below w.heap.size w w' := by
 have hm' := hm;obtain ⟨cs0, rfl, sr, sb, su, si, hcs, h1, h2, h3, hR, hB, hU, hI⟩ := hm;obtain rfl : cs0 = #[.string m.name, .int .i64 m.word, .int .i64 m.address, sr, sb, su, si] := by cases cs0; simp_all
 have HII := hid hI;obtain ⟨A3, c3, rfl, _⟩ := hR;obtain ⟨A4, c4, rfl, _⟩ := hB;obtain ⟨A5, c5, rfl, _⟩ := hU;obtain ⟨A6, c6, rfl, _⟩ := hI;obtain ⟨b3, hb3⟩ : ∃ z, m.regs.length = z := ⟨_, rfl⟩;obtain ⟨b4, hb4⟩ : ∃ z, m.banks.length = z := ⟨_, rfl⟩;obtain ⟨b5, hb5⟩ : ∃ z, m.units.length = z := ⟨_, rfl⟩;obtain ⟨n, hn⟩ : ∃ z, m.instrs.length = z := ⟨_, rfl⟩;obtain ⟨L, hL⟩ : ∃ z, m.instrs = z := ⟨_, rfl⟩;obtain ⟨wd, hwd⟩ : ∃ z, m.word = z := ⟨_, rfl⟩;obtain ⟨ad, had⟩ : ∃ z, m.address = z := ⟨_, rfl⟩;obtain ⟨nm, hnm⟩ : ∃ z, m.name = z := ⟨_, rfl⟩;have hn74 := hs.instrs;rw [hn] at HII hn74;rw [hL] at HII hn;obtain ⟨W1, hW1⟩ : ∃ W1, W1 = w.alloc (.cells #[.string nm, .int .i64 wd, .int .i64 ad, .slice A3 b3 c3, .slice A4 b4 c4, .slice A5 b5 c5, .slice A6 n c6] 27) := ⟨_, rfl⟩;have hb1 : Below w.heap.size w W1 := by rw [hW1]; exact (Below.refl _ _).alloc (Nat.le_refl _) _
 have hlt1 : w.heap.size < W1.heap.size := by rw [hW1]; simp
 have hblk1 : W1.heap[w.heap.size]? = some (.cells #[.string nm, .int .i64 wd, .int .i64 ad, .slice A3 b3 c3, .slice A4 b4 c4, .slice A5 b5 c5, .slice A6 n c6] 27) := by rw [hW1]; exact heap_alloc_new _ _
 have HW := hid hW1;have HQ := hid (show ∀ X, Below W1.heap.size W1 X -> X.cell? ⟨w.heap.size, 0, none⟩ = some (.string nm) /\ X.cell? ⟨w.heap.size, 1, none⟩ = some (.int .i64 wd) /\ X.cell? ⟨w.heap.size, 2, none⟩ = some (.int .i64 ad) /\ X.cell? ⟨w.heap.size, 3, none⟩ = some (.slice A3 b3 c3) /\ X.cell? ⟨w.heap.size, 4, none⟩ = some (.slice A4 b4 c4) /\ X.cell? ⟨w.heap.size, 5, none⟩ = some (.slice A5 b5 c5) /\ X.cell? ⟨w.heap.size, 6, none⟩ = some (.slice A6 n c6) from fun X hX => by have e1 := (hX.block _ hlt1).trans hblk1;exact ⟨zb e1 rfl, zb e1 rfl, zb e1 rfl, zb e1 rfl, zb e1 rfl, zb e1 rfl, zb e1 rfl⟩)
 have HGR := hid (show ∀ X, Below W1.heap.size W1 X -> Below w.heap.size w X from fun X hX => hb1.trans (hX.mono hb1.size));have HF1 := hid (Below.refl W1.heap.size W1);rw [hb3, hb4, hb5, hL, hn, hwd, had, hnm] at hm';rw [hb3, hb4, hb5, hL, hn, hwd, had, hnm];obtain ⟨ql, hql⟩ : ∃ z, limM m = z := ⟨_, rfl⟩;obtain ⟨qh, hqh⟩ : ∃ z, z31 m = z := ⟨_, rfl⟩;obtain ⟨qr, hqr⟩ : ∃ z, z2h m.regs = z := ⟨_, rfl⟩;obtain ⟨qb, hqb⟩ : ∃ z, z22 m.regs m.banks = z := ⟨_, rfl⟩;obtain ⟨qu, hqu⟩ : ∃ z, z35 m.units = z := ⟨_, rfl⟩;have hsr := hs.regs;have hsb := hs.banks;have hsu := hs.units;have HLI := hid (show ∀ X, Below W1.heap.size W1 X -> Calls prog 75 #[.agg #[.string nm, .int .i64 wd, .int .i64 ad, .slice A3 b3 c3, .slice A4 b4 c4, .slice A5 b5 c5, .slice A6 n c6]] X fun e w' => e = .returned (.bool ql) /\ Below W1.heap.size W1 w' from fun X hX => (zaw X _ m (hm'.kept (HGR.out X hX))).mono fun e w' ⟨g1, g2⟩ => ⟨by rw [g1, hql], hX.trans (g2.mono hX.size)⟩);have HRE := hid (show ∀ X, Below W1.heap.size W1 X -> Calls prog 77 #[.agg #[.string nm, .int .i64 wd, .int .i64 ad, .slice A3 b3 c3, .slice A4 b4 c4, .slice A5 b5 c5, .slice A6 n c6]] X fun e w' => e = .returned (.bool qr) /\ Below W1.heap.size W1 w' from fun X hX => (zal X _ m (hm'.kept (HGR.out X hX)) (by omega)).mono fun e w' ⟨g1, g2⟩ => ⟨by rw [g1, hqr], hX.trans (g2.mono hX.size)⟩);have HBA := hid (show ∀ X, Below W1.heap.size W1 X -> Calls prog 78 #[.agg #[.string nm, .int .i64 wd, .int .i64 ad, .slice A3 b3 c3, .slice A4 b4 c4, .slice A5 b5 c5, .slice A6 n c6]] X fun e w' => e = .returned (.bool qb) /\ Below W1.heap.size W1 w' from fun X hX => (z9b X _ m (hm'.kept (HGR.out X hX)) (by omega) (by omega) (fun b hb => by have := hs.bank b hb; omega)).mono fun e w' ⟨g1, g2⟩ => ⟨by rw [g1, hqb], hX.trans (g2.mono hX.size)⟩);have HUN := hid (show ∀ X, Below W1.heap.size W1 X -> Calls prog 79 #[.agg #[.string nm, .int .i64 wd, .int .i64 ad, .slice A3 b3 c3, .slice A4 b4 c4, .slice A5 b5 c5, .slice A6 n c6]] X fun e w' => e = .returned (.bool qu) /\ Below W1.heap.size W1 w' from fun X hX => (z9d X _ m (hm'.kept (HGR.out X hX)) (by omega)).mono fun e w' ⟨g1, g2⟩ => ⟨by rw [g1, hqu], hX.trans (g2.mono hX.size)⟩);have HNM := hid (show ∀ (s : ByteArray) X, Below W1.heap.size W1 X -> Calls prog 76 #[.string s] X fun e w' => e = .returned (.bool (z1t s)) /\ Below W1.heap.size W1 w' from fun s X hX => (z33 s X).mono fun e w' ⟨g1, g2⟩ => ⟨g1, hX.trans (g2.mono hX.size)⟩);have HIN := hid (show ql = true -> qh = true -> qr = true -> qb = true -> ∀ X, Below W1.heap.size W1 X -> ∀ x ∈ L, ∀ cs, insE w cs x -> Calls prog 80 #[.agg #[.string nm, .int .i64 wd, .int .i64 ad, .slice A3 b3 c3, .slice A4 b4 c4, .slice A5 b5 c5, .slice A6 n c6], .agg cs.toArray] X fun e w' => e = .returned (.bool (z51 m x)) /\ Below X.heap.size X w' from fun e1 e2 e3 e4 X hX x hx cs hE => (z9c X _ m (hm'.kept (HGR.out X hX)) hs (hql.trans e1) (hqh.trans e2) (hqr.trans e3) (hqb.trans e4) x (by rw [hL]; exact hx) cs (insE.kept hE (HGR.out X hX))));obtain ⟨ok, hok⟩ : ∃ z, z51 m = z := ⟨_, rfl⟩;obtain ⟨R, hR⟩ : ∃ z, chk8 m = z := ⟨_, rfl⟩;have hqh2 : (z1t nm && (decide (1 <= wd /\ wd <= 4) && decide (ad = 16 ∨ ad = 32))) = qh := by rw [<- hqh]; unfold z31; rw [hnm, hwd, had]
 obtain ⟨N, hNN⟩ : ∃ N, L.map (fun x => x.name) = N := ⟨_, rfl⟩;have HR := hid (show (if ql = true then (if (qh && (qr && (qb && (qu && (zq [] N && L.all ok))))) = true then (0 : Int) else 8) else 4) = R by rw [<- hR]; unfold chk8; rw [hql, hqh, hqr, hqb, hqu, hL, hNN, hok]);rw [hR];rw [hok] at HIN;have HN := hid hn;have HNL := hid (show N.length = n by rw [<- hNN, List.length_map, hn]);have HNA := hid (show ∀ (i : Nat) (x : MIns), L[i]? = some x -> N[i]? = some x.name from fun i x h => by rw [<- hNN, List.getElem?_map, h]; rfl);have hn4 : n <= 9223372036854775807 := by omega
 obtain ⟨x0, x1, x2, x3, x4, x5, x6⟩ := HQ.out W1 HF1.out;rw [HW.out] at x0 x1 x2 x3 x4 x5 x6;clear hcs h1 h2 h3 hm' hW1 hb1 hlt1 hblk1 hs hsr hsb hsu hql hqh hqr hqb hqu hok hR hNN hn hL hwd had hnm hb3 hb4 hb5
 cases ql with
 | false =>
   obtain rfl : 4 = R := by have := HR.out; simpa using this
   go_enter Tryz.func38, Tryz.ntmps38
   go_wp2_with (go_at_call 75; (with_reducible refine (HLI.out _ (by rw [<- HW.out]; exact HF1.out)).mono ?_); rintro e w5 ⟨rfl, hb5⟩)
   go_ret
   exact ⟨rfl, HGR.out _ hb5⟩
 | true =>
   rw [if_pos rfl] at HR;obtain ⟨qn, hqn⟩ : ∃ z, z1t nm = z := ⟨_, rfl⟩;obtain ⟨qw, hqw⟩ : ∃ z, decide (1 <= wd /\ wd <= 4) = z := ⟨_, rfl⟩;have HIW := hid (fun X => z1d X wd 1 4);have HNM1 := hid (HNM.out nm);rw [hqn] at HNM1 hqh2;rw [hqw] at HIW hqh2;have hway : (qn = false ∨ (qn = true /\ (qw = false ∨ (qw = true /\ (((ad != 16) = true /\ (ad != 32) = true /\ decide (ad = 16 ∨ ad = 32) = false) ∨ (((ad != 16) = false ∨ ((ad != 16) = true /\ (ad != 32) = false)) /\ decide (ad = 16 ∨ ad = 32) = true /\ (qr = false ∨ (qr = true /\ (qb = false ∨ (qb = true /\ (qu = false ∨ (qu = true /\ True))))))))))))  := by
    have had : ((ad != 16) = true /\ (ad != 32) = true /\ decide (ad = 16 ∨ ad = 32) = false) ∨ (((ad != 16) = false ∨ ((ad != 16) = true /\ (ad != 32) = false)) /\ decide (ad = 16 ∨ ad = 32) = true) := by
     by_cases h16 : ad = 16
     ·exact .inr ⟨.inl (by simp [h16]), by simp [h16]⟩
     ·by_cases h32 : ad = 32
      ·exact .inr ⟨.inr ⟨by simp [h16], by simp [h32]⟩, by simp [h32]⟩
      ·exact .inl ⟨by simp [h16], by simp [h32], by simp [h16, h32]⟩
    refine z1x _ (z1x _ ?_);rcases had with h | ⟨h, h'⟩
    ·exact .inl h
    ·exact .inr ⟨h, h', z1x _ (z1x _ (z1x _ trivial))⟩
   clear hqn hqw;have HH2 := hid hqh2;clear hqh2;rcases hway with rfl | ⟨rfl, rfl | ⟨rfl, ⟨d1, d2, d3⟩ | ⟨d1 | ⟨d1, d2⟩, d3, rfl | ⟨rfl, rfl | ⟨rfl, rfl | ⟨rfl, _⟩⟩⟩⟩⟩⟩
   all_goals
    go_enter Tryz.func38, Tryz.ntmps38
    go_wp2_with (first
     | (go_at_call 75; (with_reducible refine (HLI.out _ (by rw [<- HW.out]; exact HF1.out)).mono ?_); rintro e w5 ⟨rfl, hb5⟩; clear x0 x1 x2 x3 x4 x5 x6; obtain ⟨x0, x1, x2, x3, x4, x5, x6⟩ := HQ.out _ hb5)
     | (go_at_call 76; (with_reducible refine (HNM1.out _ hb5).mono ?_); rintro e w6 ⟨rfl, hb6⟩; clear x0 x1 x2 x3 x4 x5 x6; obtain ⟨x0, x1, x2, x3, x4, x5, x6⟩ := HQ.out _ hb6)
     | (go_at_call 46; (with_reducible refine (HIW.out _).mono ?_); rintro e w7 ⟨rfl, rfl⟩)
     | (go_at_call 77; (with_reducible refine (HRE.out _ hb6).mono ?_); rintro e w8 ⟨rfl, hb8⟩; clear x0 x1 x2 x3 x4 x5 x6; obtain ⟨x0, x1, x2, x3, x4, x5, x6⟩ := HQ.out _ hb8)
     | (go_at_call 78; (with_reducible refine (HBA.out _ hb8).mono ?_); rintro e w9 ⟨rfl, hb9⟩; clear x0 x1 x2 x3 x4 x5 x6; obtain ⟨x0, x1, x2, x3, x4, x5, x6⟩ := HQ.out _ hb9)
     | (go_at_call 79; (with_reducible refine (HUN.out _ hb9).mono ?_); rintro e w10 ⟨rfl, hb10⟩; clear x0 x1 x2 x3 x4 x5 x6; obtain ⟨x0, x1, x2, x3, x4, x5, x6⟩ := HQ.out _ hb10))
    first
     | (obtain rfl : 8 = R := by
         have h := HR.out;rw [<- HH2.out] at h
         simp_all
        go_ret
        exact ⟨rfl, HGR.out _ (by assumption)⟩)
     | skip
   all_goals
    obtain rfl : true = qh := by rw [<- HH2.out]; simp [d3]
    have HR1 := hid (show (if (zq (N.take 0) (N.drop 0) && (L.drop 0).all ok) = true then (0 : Int) else 8) = R by have h := HR.out;rw [List.take_zero, List.drop_zero, List.drop_zero];simpa using h)
    have HB10 := hid hb10;have HIN2 := hid (HIN.out (by first | rfl | trivial) (by first | rfl | trivial) (by first | rfl | trivial) (by first | rfl | trivial));clear x0 x1 x2 x3 x4 x5 x6 hb5 hb6 hb8 hb9 hb10 d3 HR HH2 HIN HLI HRE HBA HUN HNM1 HIW;go_loopw [3] (fun vi wr => ∃ (i : Nat), vi = .int .i64 i /\ i <= n /\ Hid (Below W1.heap.size W1 wr /\ (if (zq (N.take i) (N.drop i) && (L.drop i).all ok) = true then (0 : Int) else 8) = R)) (fun vi _ => n - (intOf vi).toNat)
    case atStart => exact ⟨0, rfl, Nat.zero_le _, hid ⟨HB10.out, HR1.out⟩⟩
    case round =>
     obtain ⟨i, rfl, hi, HI⟩ := hrel;obtain ⟨hbx, hg⟩ := HI.out;obtain ⟨x0, x1, x2, x3, x4, x5, x6⟩ := HQ.out _ hbx;have HBX := hid hbx;obtain ⟨wo, rfl⟩ : ∃ z, z = wr := ⟨_, rfl⟩;by_cases hlt : i < n
     ·obtain ⟨x, hx⟩ : ∃ p, L[i]? = some p := ⟨_, List.getElem?_eq_getElem (by rw [HN.out]; exact hlt)⟩;obtain ⟨A', c', e1, _, _, _, hall⟩ := HII.out;obtain ⟨b, o, cs, e2, hb, hcl, hcell, hE⟩ := hall i x hx;obtain ⟨rfl, rfl⟩ : A6 = A' /\ c6 = c' := by cases e1; exact ⟨rfl, rfl⟩
      subst e2;have hcall := fun X hX => HIN2.out X hX x (List.mem_of_getElem? hx) cs hE;obtain ⟨so, se, rfl, _, _, _, hO, hEf, _⟩ := hE;obtain ⟨A7, c7, rfl, _⟩ := hO;obtain ⟨A8, c8, rfl, _⟩ := hEf;have hbw := HGR.out _ hbx;have hcc : ∀ (j : Nat) (u : Value), [.string x.name, .int .u64 (x.mask : Nat), .int .u64 (x.mtch : Nat), .slice A7 x.opers.length c7, .slice A8 x.effs.length c8, .int .i64 x.unit, .int .i64 x.busy, .int .i64 x.lat, .int .i64 x.slots][j]? = some u -> wo.cell? ⟨b, o + i * 9 + j, none⟩ = some u := fun j u hj => by rw [hbw.cell hb]; exact hcell j u hj
      rw [z50 (HNA.out i x hx), z1j hx, List.all_cons] at hg;obtain ⟨s0, h0⟩ : ∃ z, x.name = z := ⟨_, rfl⟩;obtain ⟨k1, h1⟩ : ∃ z : Int, (x.mask : Int) = z := ⟨_, rfl⟩;obtain ⟨k2, h2⟩ : ∃ z : Int, (x.mtch : Int) = z := ⟨_, rfl⟩;obtain ⟨l3, h3⟩ : ∃ z, x.opers.length = z := ⟨_, rfl⟩;obtain ⟨l4, h4⟩ : ∃ z, x.effs.length = z := ⟨_, rfl⟩;obtain ⟨k5, h5⟩ : ∃ z, x.unit = z := ⟨_, rfl⟩;obtain ⟨k6, h6⟩ : ∃ z, x.busy = z := ⟨_, rfl⟩;obtain ⟨k7, h7⟩ : ∃ z, x.lat = z := ⟨_, rfl⟩;obtain ⟨k8, h8⟩ : ∃ z, x.slots = z := ⟨_, rfl⟩;rw [h0, h1, h2, h3, h4, h5, h6, h7, h8] at hcall hcc;obtain ⟨qk, hqk⟩ : ∃ z, ok x = z := ⟨_, rfl⟩;obtain ⟨qn2, hqn2⟩ : ∃ z, z1t s0 = z := ⟨_, rfl⟩;rw [h0, hqk, hqn2] at hg;rw [hqk] at hcall;have p0 : wo.cell? ⟨b, o + i * 9, none⟩ = some (.string s0) := (by simpa using hcc 0 _ rfl);have p1 := hcc 1 _ rfl;have p2 := hcc 2 _ rfl;have p3 := hcc 3 _ rfl;have p4 := hcc 4 _ rfl;have p5 := hcc 5 _ rfl;have p6 := hcc 6 _ rfl;have p7 := hcc 7 _ rfl;have p8 := hcc 8 _ rfl;obtain ⟨W2, hW2⟩ : ∃ z, z = wo.alloc (.cells #[.string s0, .int .u64 k1, .int .u64 k2, .slice A7 l3 c7, .slice A8 l4 c8, .int .i64 k5, .int .i64 k6, .int .i64 k7, .int .i64 k8] 83) := ⟨_, rfl⟩;have hb2 : Below wo.heap.size wo W2 := (by rw [hW2]; exact (Below.refl _ _).alloc (Nat.le_refl _) _);have hl2 : wo.heap.size < W2.heap.size := (by rw [hW2]; simp);have hblk2 : W2.heap[wo.heap.size]? = some (.cells #[.string s0, .int .u64 k1, .int .u64 k2, .slice A7 l3 c7, .slice A8 l4 c8, .int .i64 k5, .int .i64 k6, .int .i64 k7, .int .i64 k8] 83) := (by rw [hW2]; exact heap_alloc_new _ _);have HB2 := hid (show ∀ X, Below W2.heap.size W2 X -> Below W1.heap.size W1 X from fun X hX => HBX.out.trans ((hb2.trans (hX.mono hb2.size)).mono HBX.out.size));have HC2 := hid (show ∀ X, Below W2.heap.size W2 X -> X.cell? ⟨wo.heap.size, 0, none⟩ = some (.string s0) /\ X.cell? ⟨wo.heap.size, 1, none⟩ = some (.int .u64 k1) /\ X.cell? ⟨wo.heap.size, 2, none⟩ = some (.int .u64 k2) /\ X.cell? ⟨wo.heap.size, 3, none⟩ = some (.slice A7 l3 c7) /\ X.cell? ⟨wo.heap.size, 4, none⟩ = some (.slice A8 l4 c8) /\ X.cell? ⟨wo.heap.size, 5, none⟩ = some (.int .i64 k5) /\ X.cell? ⟨wo.heap.size, 6, none⟩ = some (.int .i64 k6) /\ X.cell? ⟨wo.heap.size, 7, none⟩ = some (.int .i64 k7) /\ X.cell? ⟨wo.heap.size, 8, none⟩ = some (.int .i64 k8) from fun X hX => by have e1 := (hX.block _ hl2).trans hblk2;exact ⟨zb e1 rfl, zb e1 rfl, zb e1 rfl, zb e1 rfl, zb e1 rfl, zb e1 rfl, zb e1 rfl, zb e1 rfl, zb e1 rfl⟩)
      have HF2 := hid (Below.refl W2.heap.size W2);obtain ⟨y0, y1, y2, y3, y4, y5, y6, y7, y8⟩ := HC2.out W2 HF2.out;have HW2 := hid hW2;rw [hW2] at y0;have HNX := hid (show ∀ X, Below W2.heap.size W2 X -> Calls prog 76 #[.string s0] X fun e w' => e = .returned (.bool qn2) /\ Below W2.heap.size W2 w' from fun X hX => (z33 s0 X).mono fun e w' ⟨g1, g2⟩ => ⟨by rw [g1, hqn2], hX.trans (g2.mono hX.size)⟩);have HIX := hid (show ∀ X, Below W2.heap.size W2 X -> Calls prog 80 #[.agg #[.string nm, .int .i64 wd, .int .i64 ad, .slice A3 b3 c3, .slice A4 b4 c4, .slice A5 b5 c5, .slice (some ⟨b, o, none⟩) n c6], .agg #[.string s0, .int .u64 k1, .int .u64 k2, .slice A7 l3 c7, .slice A8 l4 c8, .int .i64 k5, .int .i64 k6, .int .i64 k7, .int .i64 k8]] X fun e w' => e = .returned (.bool qk) /\ Below X.heap.size X w' from fun X hX => hcall X (HB2.out X hX));have hin : (i : Int) < (n : Int) := (by omega);have hi0 : (0 : Int) <= (i : Int) := Int.natCast_nonneg _;have HLT := hid hlt;have HG := hid hg;have HNI := hid (show N[i]? = some s0 by rw [<- h0]; exact HNA.out i x hx);have HCE := hid (show ∀ (k : Nat) (y : MIns), L[k]? = some y -> ∀ X, Below W1.heap.size W1 X -> X.cell? ⟨b, o + k * 9, none⟩ = some (.string y.name) from fun k y hy X hX => by
       obtain ⟨b', o', cs', e2', hb', _, hcell', hE'⟩ := hall k y hy;obtain ⟨rfl, rfl⟩ : b = b' /\ o = o' := by cases e2'; exact ⟨rfl, rfl⟩
       obtain ⟨_, _, rfl, _⟩ := hE';rw [(HGR.out X hX).cell hb'];simpa using hcell' 0 _ rfl)
      clear hcall hcc hcell hall hx h0 h1 h2 h3 h4 h5 h6 h7 h8 hqk hqn2 hg HI hbx hbw hlt hW2 hb2 hl2 hblk2 e1 hcl hb y1 y2 y3 y4 y5 y6 y7 y8;have hway : qn2 = false ∨ (qn2 = true /\ (qk = false ∨ (qk = true /\ True))) := z1x _ (z1x _ trivial);rcases hway with rfl | ⟨rfl, rfl | ⟨rfl, _⟩⟩
      iterate 2
       ·obtain rfl : 8 = R := by have := HG.out; simpa using this
        go_wp2_with (first
         | (go_at_call 76; rw [<- HW2.out]; (with_reducible refine (HNX.out _ HF2.out).mono ?_); rintro e w5 ⟨rfl, hb5⟩; clear x0 x1 x2 x3 x4 x5 x6 y0; obtain ⟨y0, y1, y2, y3, y4, y5, y6, y7, y8⟩ := HC2.out _ hb5; obtain ⟨x0, x1, x2, x3, x4, x5, x6⟩ := HQ.out _ (HB2.out _ hb5))
         | (go_at_call 80; (with_reducible refine (HIX.out _ hb5).mono ?_); rintro e w6 ⟨rfl, hb6⟩; replace hb6 := hb5.trans (hb6.mono hb5.size)))
        go_ret
        exact ⟨rfl, HGR.out _ (HB2.out _ (by assumption))⟩
      go_wp2_with (first
       | (go_at_call 76; rw [<- HW2.out]; (with_reducible refine (HNX.out _ HF2.out).mono ?_); rintro e w5 ⟨rfl, hb5⟩; clear x0 x1 x2 x3 x4 x5 x6 y0; obtain ⟨y0, y1, y2, y3, y4, y5, y6, y7, y8⟩ := HC2.out _ hb5; obtain ⟨x0, x1, x2, x3, x4, x5, x6⟩ := HQ.out _ (HB2.out _ hb5))
       | (go_at_call 80; (with_reducible refine (HIX.out _ hb5).mono ?_); rintro e w6 ⟨rfl, hb6⟩; replace hb6 := hb5.trans (hb6.mono hb5.size)))
      have HBW := hid hb6;clear x0 x1 x2 x3 x4 x5 x6 y0 y1 y2 y3 y4 y5 y6 y7 y8 hb5 hb6 p0 p1 p2 p3 p4 p5 p6 p7 p8;go_loopw [5] (fun vk wq => ∃ (k : Nat), vk = .int .i64 k /\ k <= i /\ Hid (Below W2.heap.size W2 wq /\ ∀ j t, j < k -> N[j]? = some t -> (t.toList == s0.toList) = false)) (fun vk _ => i - (intOf vk).toNat)
      case atStart => exact ⟨0, rfl, Nat.zero_le _, hid ⟨HBW.out, fun j t hj => absurd hj (Nat.not_lt_zero _)⟩⟩
      case round =>
       obtain ⟨k, rfl, hki, HK⟩ := hrel;obtain ⟨hbq, hkk⟩ := HK.out;obtain ⟨y0, _, _, _, _, _, _, _, _⟩ := HC2.out _ hbq;obtain ⟨_, _, _, _, _, _, x6⟩ := HQ.out _ (HB2.out _ hbq);have HBQ := hid hbq;by_cases hlk : k < i
       ·obtain ⟨y, hy⟩ : ∃ p, L[k]? = some p := ⟨_, List.getElem?_eq_getElem (by rw [HN.out]; have := HLT.out; omega)⟩;have p0 := HCE.out k y hy _ (HB2.out _ hbq);have hNk := HNA.out k y hy;obtain ⟨yn, hyn⟩ : ∃ z, y.name = z := ⟨_, rfl⟩;rw [hyn] at p0 hNk;have K0 := cell_regrown y0;have K1 := cell_regrown x6;have K3 := cell_regrown p0;have hin2 : (k : Int) < (n : Int) := (by have := HLT.out; omega);have hin3 : (k : Int) < (i : Int) := (by omega);have hk0 : (0 : Int) <= (k : Int) := Int.natCast_nonneg _;have HLK := hid hlk;have HKK := hid hkk;have HNK := hid hNk;obtain ⟨q, hq⟩ : ∃ q, (yn.toList == s0.toList) = q := ⟨_, rfl⟩;have HQQ := hid hq;clear hkk hNk hy hyn HK hbq;go_wp2_with fail
        clear y0 x6 p0;refine wp_region_quiet_below (by kernel_rfl) (by kernel_rfl) ?_;repeat (first | go_big_quiet_step (fail) | quiet_step (fail))
        refine wpQuiet_nil ?_;intro G hG;have HBG := hid (show Below W2.heap.size W2 G by obtain ⟨p, rfl⟩ := hG; exact HBQ.out.trans ((below_regrown wr _ _).mono HBQ.out.size));clear hG K0 K1 K3
        cases q with
        | true =>
          obtain rfl : 8 = R := by have := HG.out; rw [z6g HLK.out HNK.out HQQ.out] at this; simpa using this
          go_wp2
          go_ret
          exact ⟨rfl, HGR.out _ (HB2.out _ HBG.out)⟩
        | false =>
          go_wp2
          refine ⟨⟨k + 1, by first | rfl | go_num | (congr 1), by have := HLK.out; omega, hid ⟨HBG.out, fun j t hj ht => ?_⟩⟩, by simp only [intOf]; have := HLK.out; omega⟩;by_cases e : j = k
          ·subst e; rw [HNK.out] at ht; obtain rfl := Option.some.inj ht; exact HQQ.out
          ·exact HKK.out j t (by omega) ht
       ·obtain rfl : k = i := by omega
        have HG2 := hid (show (if (zq (N.take (k + 1)) (N.drop (k + 1)) && (L.drop (k + 1)).all ok) = true then (0 : Int) else 8) = R by have := HG.out; rw [z99 hkk] at this; simpa using this);clear hkk HK hbq y0 x6;go_wp2
        refine ⟨⟨k + 1, by first | rfl | go_num | (congr 1), by have := HLT.out; omega, hid ⟨HB2.out _ HBQ.out, HG2.out⟩⟩, by simp only [intOf]; have := HLT.out; omega⟩
     ·obtain rfl : i = n := by omega
      have ea : N.drop i = [] := List.drop_eq_nil_of_le (by rw [HNL.out]; exact Nat.le_refl _);have eb : L.drop i = [] := List.drop_eq_nil_of_le (by rw [HN.out]; exact Nat.le_refl _);rw [ea, eb] at hg;obtain rfl : 0 = R := by simpa [zq] using hg
      clear hg HI hbx ea eb;go_wp2
      go_ret
      exact ⟨rfl, HGR.out _ HBX.out⟩
theorem z2a (w : World) (v : Value) (m : Mach) (hm : zz w v m) (hs : MachSmall m) :
 Calls prog 38 #[v] w fun e w' => e = .returned (.int .i64 (chkR m)) /\ Below w.heap.size w w' := by
 rw [<- zd2 (m := m) ?_]
 ·exact za1 w v m hm hs
 ·obtain ⟨cs0, rfl, sr, sb, su, si, hcs, h1, h2, h3, hR, hB, hU, hI⟩ := hm;obtain ⟨A, c, _, _, _, _, hall⟩ := hI;intro x hx;obtain ⟨i, hi⟩ := List.getElem?_of_mem hx;obtain ⟨_, _, _, _, _, _, _, _, _, _, _, h4, h5, _⟩ := hall i x hi;exact ⟨h4, h5⟩
end Go.Proofs.YtdmadnfadgggcaaGreatDoor
