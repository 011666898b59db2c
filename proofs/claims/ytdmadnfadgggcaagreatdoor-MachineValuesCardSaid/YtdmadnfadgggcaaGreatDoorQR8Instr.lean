import Derived.Test.YtdmadnfadgggcaaGreatDoorQR8Defs
import Derived.Test.YtdmadnfadgggcaaGreatDoorGk
set_option linter.unusedVariables false
set_option linter.unusedSimpArgs false
set_option warningAsError false
set_option maxHeartbeats 8000000
open Go.Lib (hid)
open Go.Proofs.Tryz (prog)
namespace Go.Proofs.YtdmadnfadgggcaaGreatDoor
open Go.RowKit Go.Instr Go.Sort
set_option maxRecDepth 100000
theorem z87 (w : World) (n0 i0 : ByteArray) (m1 ad i5 i6 i7 i8 : Int) (mk mt : Nat) (a3 a4 a5 a6 a7 a8 : Option Addr) (b3 c3 b4 c4 b5 c5 b6 c6 n c7 l c8 : Nat)
 (EL : List MEff) (op : Nat -> Bool) (ef : MEff -> Bool) (ap R : Bool) (hm1 : 1 <= m1 /\ m1 <= 4) (hmk : mk < 18446744073709551616) (hmt : mt < 18446744073709551616) (hn : n <= 1000) (hEL : EL.length = l) (hl : l <= 1000) (hb5 : b5 <= 1000)
 (hE : zf 21 effE w (.slice a8 l c8) EL)
 (hOP : ∀ X, Below w.heap.size w X -> ∀ i, i < n -> Calls prog 100 #[.agg #[.string n0, .int .i64 m1, .int .i64 ad, .slice a3 b3 c3, .slice a4 b4 c4, .slice a5 b5 c5, .slice a6 b6 c6], .agg #[.string i0, .int .u64 (mk : Nat), .int .u64 (mt : Nat), .slice a7 n c7, .slice a8 l c8, .int .i64 i5, .int .i64 i6, .int .i64 i7, .int .i64 i8], .int .i64 (i : Nat)] X fun e w' => e = .returned (.bool (op i)) /\ Below X.heap.size X w')
 (hAP : decide (mk < 2 ^ (8 * m1).toNat) = true -> (List.range n).all op = true -> ∀ X, Below w.heap.size w X -> Calls prog 101 #[.agg #[.string n0, .int .i64 m1, .int .i64 ad, .slice a3 b3 c3, .slice a4 b4 c4, .slice a5 b5 c5, .slice a6 b6 c6], .agg #[.string i0, .int .u64 (mk : Nat), .int .u64 (mt : Nat), .slice a7 n c7, .slice a8 l c8, .int .i64 i5, .int .i64 i6, .int .i64 i7, .int .i64 i8]] X fun e w' => e = .returned (.bool ap) /\ Below X.heap.size X w')
 (hEF : decide (mk < 2 ^ (8 * m1).toNat) = true -> (List.range n).all op = true -> ap = true -> ∀ X, Below w.heap.size w X -> ∀ f ∈ EL, ∀ cs, effE w cs f -> Calls prog 102 #[.agg #[.string n0, .int .i64 m1, .int .i64 ad, .slice a3 b3 c3, .slice a4 b4 c4, .slice a5 b5 c5, .slice a6 b6 c6], .agg #[.string i0, .int .u64 (mk : Nat), .int .u64 (mt : Nat), .slice a7 n c7, .slice a8 l c8, .int .i64 i5, .int .i64 i6, .int .i64 i7, .int .i64 i8], .agg cs.toArray] X fun e w' => e = .returned (.bool (ef f)) /\ Below X.heap.size X w')
 (HR : Hid ((decide (mk < 2 ^ (8 * m1).toNat) && (match8 mk mt && ((List.range n).all op && (ap && (EL.all ef && (!(decide (1 < z1c 3 EL) || (decide (0 < z1c 4 EL) && decide (1 < l))) && (decide (0 <= i5 /\ i5 <= (b5 : Int) - 1) && (decide (1 <= i6 /\ i6 <= 15) && (decide (1 <= i7 /\ i7 <= 15) && (decide (0 <= i8 /\ i8 <= 2) && (decide (i8 = 0) || decide (z1c 3 EL = 1)))))))))))) = R)) :
 Calls prog 80 #[.agg #[.string n0, .int .i64 m1, .int .i64 ad, .slice a3 b3 c3, .slice a4 b4 c4, .slice a5 b5 c5, .slice a6 b6 c6], .agg #[.string i0, .int .u64 (mk : Nat), .int .u64 (mt : Nat), .slice a7 n c7, .slice a8 l c8, .int .i64 i5, .int .i64 i6, .int .i64 i7, .int .i64 i8]] w fun e w' => e = .returned (.bool R) /\ Below w.heap.size w w' := by
 obtain ⟨Wa, hWa⟩ : ∃ z, z = w.alloc (.cells #[.string n0, .int .i64 m1, .int .i64 ad, .slice a3 b3 c3, .slice a4 b4 c4, .slice a5 b5 c5, .slice a6 b6 c6] 27) := ⟨_, rfl⟩;obtain ⟨W1, hW1⟩ : ∃ z, z = Wa.alloc (.cells #[.string i0, .int .u64 (mk : Nat), .int .u64 (mt : Nat), .slice a7 n c7, .slice a8 l c8, .int .i64 i5, .int .i64 i6, .int .i64 i7, .int .i64 i8] 83) := ⟨_, rfl⟩;have sa : Wa.heap.size = w.heap.size + 1 := by rw [hWa]; simp
 have hs1 : W1.heap.size = w.heap.size + 2 := by rw [hW1]; simp [sa]
 have ba : Below w.heap.size w Wa := by rw [hWa]; exact (Below.refl _ _).alloc (Nat.le_refl _) _
 have bb : Below Wa.heap.size Wa W1 := by rw [hW1]; exact (Below.refl _ _).alloc (Nat.le_refl _) _
 have hb1 : Below w.heap.size w W1 := ba.trans (bb.mono ba.size);have hblk1 : W1.heap[w.heap.size]? = some (.cells #[.string n0, .int .i64 m1, .int .i64 ad, .slice a3 b3 c3, .slice a4 b4 c4, .slice a5 b5 c5, .slice a6 b6 c6] 27) := by rw [bb.block _ (by omega), hWa]; exact heap_alloc_new _ _
 have hblk2 : W1.heap[w.heap.size + 1]? = some (.cells #[.string i0, .int .u64 (mk : Nat), .int .u64 (mt : Nat), .slice a7 n c7, .slice a8 l c8, .int .i64 i5, .int .i64 i6, .int .i64 i7, .int .i64 i8] 83) := by rw [hW1, <- sa]; exact heap_alloc_new _ _
 have HW := hid (show W1 = (w.alloc (.cells #[.string n0, .int .i64 m1, .int .i64 ad, .slice a3 b3 c3, .slice a4 b4 c4, .slice a5 b5 c5, .slice a6 b6 c6] 27)).alloc (.cells #[.string i0, .int .u64 (mk : Nat), .int .u64 (mt : Nat), .slice a7 n c7, .slice a8 l c8, .int .i64 i5, .int .i64 i6, .int .i64 i7, .int .i64 i8] 83) by rw [hW1, hWa])
 have HQ := hid (show ∀ X, Below W1.heap.size W1 X -> (X.cell? ⟨w.heap.size, 0, none⟩ = some (.string n0) /\ X.cell? ⟨w.heap.size, 1, none⟩ = some (.int .i64 m1) /\ X.cell? ⟨w.heap.size, 2, none⟩ = some (.int .i64 ad) /\ X.cell? ⟨w.heap.size, 3, none⟩ = some (.slice a3 b3 c3) /\ X.cell? ⟨w.heap.size, 4, none⟩ = some (.slice a4 b4 c4) /\ X.cell? ⟨w.heap.size, 5, none⟩ = some (.slice a5 b5 c5) /\ X.cell? ⟨w.heap.size, 6, none⟩ = some (.slice a6 b6 c6)) /\
  X.cell? ⟨w.heap.size + 1, 0, none⟩ = some (.string i0) /\ X.cell? ⟨w.heap.size + 1, 1, none⟩ = some (.int .u64 (mk : Nat)) /\ X.cell? ⟨w.heap.size + 1, 2, none⟩ = some (.int .u64 (mt : Nat)) /\ X.cell? ⟨w.heap.size + 1, 3, none⟩ = some (.slice a7 n c7) /\ X.cell? ⟨w.heap.size + 1, 4, none⟩ = some (.slice a8 l c8) /\ X.cell? ⟨w.heap.size + 1, 5, none⟩ = some (.int .i64 i5) /\ X.cell? ⟨w.heap.size + 1, 6, none⟩ = some (.int .i64 i6) /\ X.cell? ⟨w.heap.size + 1, 7, none⟩ = some (.int .i64 i7) /\ X.cell? ⟨w.heap.size + 1, 8, none⟩ = some (.int .i64 i8) from fun X hX => by
  have e1 := (hX.block _ (by omega)).trans hblk1;have e2 := (hX.block _ (by omega)).trans hblk2;exact ⟨⟨zb e1 rfl, zb e1 rfl, zb e1 rfl, zb e1 rfl, zb e1 rfl, zb e1 rfl, zb e1 rfl⟩, zb e2 rfl, zb e2 rfl, zb e2 rfl, zb e2 rfl, zb e2 rfl, zb e2 rfl, zb e2 rfl, zb e2 rfl, zb e2 rfl⟩)
 have HGR := hid (show ∀ X, Below W1.heap.size W1 X -> Below w.heap.size w X from fun X hX => hb1.trans (hX.mono hb1.size));have HF1 := hid (Below.refl W1.heap.size W1);have HMK := hid hmk;have HMT := hid hmt;have HM1 := hid hm1;obtain ⟨bn, hbn⟩ : ∃ z, (8 * m1).toNat = z := ⟨_, rfl⟩;have hw8 : wrap64 (8 * m1) = ((bn : Nat) : Int) := by rw [zd _ (by omega) (by omega)]; omega
 rw [hbn] at HR hAP hEF;obtain ⟨qm, hqm⟩ : ∃ z, decide (mk < 2 ^ bn) = z := ⟨_, rfl⟩;have HBE := hid (show ∀ X, Below W1.heap.size W1 X -> Calls prog 54 #[.int .u64 (mk : Nat), .int .i64 (bn : Nat)] X fun e w' => e = .returned (.bool qm) /\ Below W1.heap.size W1 w' from fun X hX => (z5e X mk bn hmk (by omega)).mono fun e w' ⟨h1, h2⟩ => ⟨by rw [h1, hqm], hX.trans (h2.mono hX.size)⟩);rw [hqm] at HR hAP hEF;have HOP := hid (show ∀ X, Below W1.heap.size W1 X -> ∀ i, i < n -> Calls prog 100 #[.agg #[.string n0, .int .i64 m1, .int .i64 ad, .slice a3 b3 c3, .slice a4 b4 c4, .slice a5 b5 c5, .slice a6 b6 c6], .agg #[.string i0, .int .u64 (mk : Nat), .int .u64 (mt : Nat), .slice a7 n c7, .slice a8 l c8, .int .i64 i5, .int .i64 i6, .int .i64 i7, .int .i64 i8], .int .i64 (i : Nat)] X fun e w' => e = .returned (.bool (op i)) /\ Below W1.heap.size W1 w' from fun X hX i hi => (hOP X (HGR.out X hX) i hi).mono fun e w' ⟨h1, h2⟩ => ⟨h1, hX.trans (h2.mono hX.size)⟩);have HAP := hid (fun h1 h2 X (hX : Below W1.heap.size W1 X) => (hAP h1 h2 X (HGR.out X hX)).mono (R' := fun e w' => e = .returned (.bool ap) /\ Below W1.heap.size W1 w') fun e w' ⟨h1, h2⟩ => ⟨h1, hX.trans (h2.mono hX.size)⟩);have HEF := hid (fun h1 h2 h3 X (hX : Below W1.heap.size W1 X) f hf cs hcs => (hEF h1 h2 h3 X (HGR.out X hX) f hf cs hcs));have HE := hid hE;have HL := hid hEL;have hn4 : n <= 9223372036854775807 := by omega
 have hl4 : l <= 9223372036854775807 := by omega
 have HNL := hid (And.intro hn hl);have hw5 : wrap64 ((b5 : Nat) - 1) = (b5 : Nat) - 1 := zd _ (by omega) (by omega);obtain ⟨⟨x0, x1, x2, x3, x4, x5, x6⟩, j0, j1, j2, j3, j4, j5, j6, j7, j8⟩ := HQ.out W1 HF1.out;rw [HW.out] at x0 x1 x2 x3 x4 x5 x6 j0 j1 j2 j3 j4 j5 j6 j7 j8;clear hWa hW1 sa hs1 ba bb hb1 hblk1 hblk2 hmk hmt hm1 hbn hqm hOP hAP hEF hE hEL hn hl hb5
 cases qm with
 | false =>
   obtain rfl : false = R := by have := HR.out; simpa using this
   go_enter Tryz.func80, Tryz.ntmps80
   go_wp2_with (go_at_call 54; (with_reducible refine (HBE.out _ (by rw [<- HW.out]; exact HF1.out)).mono ?_); rintro e w5 ⟨rfl, hb5⟩)
   go_ret
   exact ⟨rfl, HGR.out _ hb5⟩
 | true =>
   rw [Bool.true_and] at HR;obtain ⟨R2, hR2⟩ : ∃ z, ((List.range n).all op && (ap && (EL.all ef && (!(decide (1 < z1c 3 EL) || (decide (0 < z1c 4 EL) && decide (1 < l))) && (decide (0 <= i5 /\ i5 <= (b5 : Int) - 1) && (decide (1 <= i6 /\ i6 <= 15) && (decide (1 <= i7 /\ i7 <= 15) && (decide (0 <= i8 /\ i8 <= 2) && (decide (i8 = 0) || decide (z1c 3 EL = 1)))))))))) = z := ⟨_, rfl⟩;rw [hR2] at HR;have HR2 := hid hR2;clear hR2;go_enter Tryz.func80, Tryz.ntmps80
   go_wp2_with (go_at_call 54; (with_reducible refine (HBE.out _ (by rw [<- HW.out]; exact HF1.out)).mono ?_); rintro e w5 ⟨rfl, hb5⟩)
   have HB5 := hid hb5;clear x0 x1 x2 x3 x4 x5 x6 j0 j1 j2 j3 j4 j5 j6 j7 j8 hb5;go_loopw [5] (fun vb wr => ∃ (b : Nat), vb = .int .i64 b /\ b <= 64 /\ Hid (Below W1.heap.size W1 wr /\ (((List.range 64).drop b).all (fun b => decide (mt / 2 ^ b % 2 <= mk / 2 ^ b % 2)) && R2) = R)) (fun vb _ => 64 - (intOf vb).toNat)
   case atStart => exact ⟨0, rfl, Nat.zero_le _, hid ⟨HB5.out, by rw [List.drop_zero]; exact HR.out⟩⟩
   case round =>
    obtain ⟨b, rfl, hb, HI⟩ := hrel;obtain ⟨hbx, hg⟩ := HI.out;obtain ⟨⟨x0, x1, x2, x3, x4, x5, x6⟩, j0, j1, j2, j3, j4, j5, j6, j7, j8⟩ := HQ.out _ hbx;have HBX := hid hbx;by_cases hlt : b < 64
    ·have hx : (List.range 64)[b]? = some b := List.getElem?_range hlt;rw [z1j hx, List.all_cons] at hg;obtain ⟨u, hu⟩ : ∃ z, mt / 2 ^ b % 2 = z := ⟨_, rfl⟩;obtain ⟨v, hv⟩ : ∃ z, mk / 2 ^ b % 2 = z := ⟨_, rfl⟩;have B1 := hid (show ∀ d os, Calls prog 55 #[.int .u64 (mt : Nat), .int .i64 (b : Nat)] (grow (redrawn wr d) os) fun e w'' => e = .returned (.int .i64 (u : Nat)) /\ ∃ p : Regrown, w'' = grow (redrawn wr p.d) p.os from fun d os => Calls.regrown_of (by rw [<- hu]; exact z4b _ mt b HMT.out (by omega)));have B2 := hid (show ∀ d os, Calls prog 55 #[.int .u64 (mk : Nat), .int .i64 (b : Nat)] (grow (redrawn wr d) os) fun e w'' => e = .returned (.int .i64 (v : Nat)) /\ ∃ p : Regrown, w'' = grow (redrawn wr p.d) p.os from fun d os => Calls.regrown_of (by rw [<- hv]; exact z4b _ mk b HMK.out (by omega)));rw [hu, hv] at hg;have HG := hid hg;have HLT := hid hlt;have hin : (b : Int) < 64 := (by omega);have K1 := cell_regrown j1;have K2 := cell_regrown j2;obtain ⟨q, hq⟩ : ∃ q : Bool, decide ((v : Int) < (u : Int)) = q := ⟨_, rfl⟩;have HQQ := hid (show decide (u <= v) = !q by rw [<- hq]; by_cases h : u <= v <;> simp [h] <;> omega);have hq2 : decide (v < u) = q := (by rw [<- hq]; exact decide_eq_decide.2 (by omega));clear hx hu hv hg HI hbx hlt;go_wp2_with fail
     clear x0 x1 x2 x3 x4 x5 x6 j0 j1 j2 j3 j4 j5 j6 j7 j8;refine wp_region_quiet_below (by kernel_rfl) (by kernel_rfl) ?_;repeat (first | go_big_quiet_step (first | (with_reducible exact B1.out _ _) | (with_reducible exact B2.out _ _)) | quiet_step (first | (with_reducible exact B1.out _ _) | (with_reducible exact B2.out _ _)))
     refine wpQuiet_nil ?_;intro G hG;have HBG := hid (show Below W1.heap.size W1 G by obtain ⟨p, rfl⟩ := hG; exact HBX.out.trans ((below_regrown wr _ _).mono HBX.out.size));clear hG K1 K2
     cases q with
     | true =>
       obtain rfl : false = R := by have := HG.out; rw [HQQ.out] at this; simpa using this
       go_wp2
       go_ret
       exact ⟨rfl, HGR.out _ HBG.out⟩
     | false =>
       have HG2 := hid (show (((List.range 64).drop (b + 1)).all (fun b => decide (mt / 2 ^ b % 2 <= mk / 2 ^ b % 2)) && R2) = R by have := HG.out; rw [HQQ.out] at this; simpa using this);go_wp2
       refine ⟨⟨b + 1, by first | rfl | go_num | (congr 1), by have := HLT.out; omega, hid ⟨HBG.out, HG2.out⟩⟩, by simp only [intOf]; have := HLT.out; omega⟩
    ·have hb64 : b = 64 := (by omega);rw [hb64, List.drop_eq_nil_of_le (by simp)] at hg;have d1 : decide ((b : Int) < 64) = false := (by simp; omega);have d2 : decide (b < 64) = false := (by simp; omega);clear hb64 hlt hb;obtain rfl : R2 = R := by simpa using hg
     have HRA := hid (show (((List.range n).drop 0).all op && (ap && (EL.all ef && (!(decide (1 < z1c 3 EL) || (decide (0 < z1c 4 EL) && decide (1 < l))) && (decide (0 <= i5 /\ i5 <= (b5 : Int) - 1) && (decide (1 <= i6 /\ i6 <= 15) && (decide (1 <= i7 /\ i7 <= 15) && (decide (0 <= i8 /\ i8 <= 2) && (decide (i8 = 0) || decide (z1c 3 EL = 1)))))))))) = R2 by rw [List.drop_zero]; exact HR2.out);clear hg HI hbx HR HR2;go_wp2
     clear x0 x1 x2 x3 x4 x5 x6 j0 j1 j2 j3 j4 j5 j6 j7 j8;obtain ⟨wo, rfl⟩ : ∃ z, z = wr := ⟨_, rfl⟩;obtain ⟨T2, hT2⟩ : ∃ z, (ap && (EL.all ef && (!(decide (1 < z1c 3 EL) || (decide (0 < z1c 4 EL) && decide (1 < l))) && (decide (0 <= i5 /\ i5 <= (b5 : Int) - 1) && (decide (1 <= i6 /\ i6 <= 15) && (decide (1 <= i7 /\ i7 <= 15) && (decide (0 <= i8 /\ i8 <= 2) && (decide (i8 = 0) || decide (z1c 3 EL = 1))))))))) = z := ⟨_, rfl⟩;rw [hT2] at HRA;have HT2 := hid hT2;clear hT2;go_loopw [6] (fun vi wr => ∃ (i : Nat), vi = .int .i64 i /\ i <= n /\ Hid (Below W1.heap.size W1 wr /\ (((List.range n).drop i).all op && T2) = R2 /\ ∀ j, j < i -> op j = true)) (fun vi _ => n - (intOf vi).toNat)
     case atStart => exact ⟨0, rfl, Nat.zero_le _, hid ⟨HBX.out, HRA.out, fun j hj => absurd hj (Nat.not_lt_zero _)⟩⟩
     case round =>
      obtain ⟨i, rfl, hi, HI⟩ := hrel;obtain ⟨hbx, hg, hdone⟩ := HI.out;obtain ⟨⟨x0, x1, x2, x3, x4, x5, x6⟩, j0, j1, j2, j3, j4, j5, j6, j7, j8⟩ := HQ.out _ hbx;have HBI := hid hbx;have HDN := hid hdone;by_cases hlt : i < n
      ·have hx : (List.range n)[i]? = some i := List.getElem?_range hlt;rw [z1j hx, List.all_cons] at hg;obtain ⟨q, hq⟩ : ∃ z, op i = z := ⟨_, rfl⟩;have HC := hid (HOP.out _ hbx i hlt);rw [hq] at HC hg;have HOI := hid hq;have HG := hid hg;have HLT := hid hlt;have hin : (i : Int) < (n : Int) := (by omega);clear hx hg HI hbx hlt hq hdone
       cases q with
       | false =>
         obtain rfl : false = R2 := by have := HG.out; simpa using this
         go_wp2_with (go_at_call 100; (with_reducible refine HC.out.mono ?_); rintro e w6 ⟨rfl, hb6⟩)
         go_ret
         exact ⟨rfl, HGR.out _ hb6⟩
       | true =>
         have HG2 := hid (show (((List.range n).drop (i + 1)).all op && T2) = R2 by have := HG.out; simpa using this);have HD2 := hid (show ∀ j, j < i + 1 -> op j = true from fun j hj => by
          rcases Nat.lt_or_ge j i with h | h
          ·exact HDN.out j h
          ·obtain rfl : j = i := by omega
           exact HOI.out)
         go_wp2_with (go_at_call 100; (with_reducible refine HC.out.mono ?_); rintro e w6 ⟨rfl, hb6⟩)
         go_roundw
         case rel => exact ⟨i + 1, by first | rfl | go_num | (congr 1), by have := HLT.out; omega, hid ⟨hb6, HG2.out, HD2.out⟩⟩
         case measure => simp only [intOf]; have := HLT.out; omega
      ·obtain rfl : n = i := by omega
       rw [List.drop_eq_nil_of_le (by simp)] at hg;obtain rfl : T2 = R2 := by simpa using hg
       have HALL := hid (show (List.range n).all op = true by rw [List.all_eq_true]; exact fun j hj => hdone j (List.mem_range.1 hj));have HAC := hid (HAP.out (by first | rfl | trivial) HALL.out _ hbx);clear hg HI hbx hdone
       cases ap with
       | false =>
         obtain rfl : false = T2 := by have := HT2.out; simpa using this
         go_wp2_with (go_at_call 101; (with_reducible refine HAC.out.mono ?_); rintro e w6 ⟨rfl, hb6⟩)
         go_ret
         exact ⟨rfl, HGR.out _ hb6⟩
       | true =>
         rw [Bool.true_and] at HT2;have HEC := hid (HEF.out (by first | rfl | trivial) HALL.out (by first | rfl | trivial));go_wp2_with (go_at_call 101; (with_reducible refine HAC.out.mono ?_); rintro e w6 ⟨rfl, hb6⟩)
         have HB6 := hid hb6;clear x0 x1 x2 x3 x4 x5 x6 j0 j1 j2 j3 j4 j5 j6 j7 j8 hb6 HAC HAP HEF HOP HBE HDN HBI;obtain ⟨fin, hfin⟩ : ∃ fin : Nat -> Nat -> Bool, ∀ c3 c4, fin c3 c4 = (!(decide (1 < c3) || (decide (0 < c4) && decide (1 < l))) && (decide (0 <= i5 /\ i5 <= (b5 : Int) - 1) && (decide (1 <= i6 /\ i6 <= 15) && (decide (1 <= i7 /\ i7 <= 15) && (decide (0 <= i8 /\ i8 <= 2) && (decide (i8 = 0) || decide (c3 = 1))))))) := ⟨_, fun _ _ => rfl⟩;rw [<- hfin] at HT2;have HFIN := hid hfin;clear hfin;go_loopw [7, 8, 9] (fun vj vt vi wr => ∃ (j t i : Nat), vj = .int .i64 (j : Nat) /\ vt = .int .i64 (t : Nat) /\ vi = .int .i64 i /\ i <= l /\ j <= i /\ t <= i /\ Hid (Below W1.heap.size W1 wr /\ ((EL.drop i).all ef && fin (j + z1c 3 (EL.drop i)) (t + z1c 4 (EL.drop i))) = T2)) (fun _ _ vi _ => l - (intOf vi).toNat)
         case atStart => exact ⟨0, 0, 0, rfl, rfl, rfl, Nat.zero_le _, Nat.zero_le _, Nat.zero_le _, hid ⟨HB6.out, by rw [List.drop_zero, Nat.zero_add, Nat.zero_add]; exact HT2.out⟩⟩
         case round =>
          obtain ⟨jc, tc, i, rfl, rfl, rfl, hi, hji, hti, HI⟩ := hrel;obtain ⟨hbx, hg⟩ := HI.out;obtain ⟨⟨x0, x1, x2, x3, x4, x5, x6⟩, j0, j1, j2, j3, j4, j5, j6, j7, j8⟩ := HQ.out _ hbx;have HBX := hid hbx;by_cases hlt : i < l
          ·obtain ⟨p, hp⟩ : ∃ p, EL[i]? = some p := ⟨_, List.getElem?_eq_getElem (by rw [HL.out]; exact hlt)⟩;obtain ⟨A', c', e1, _, _, _, hall⟩ := HE.out;obtain ⟨b, o, cs, e2, hb, hcl, hcell, hEE⟩ := hall i p hp;obtain ⟨rfl, rfl⟩ : a8 = A' /\ c8 = c' := by cases e1; exact ⟨rfl, rfl⟩
           subst e2;have hcall := HEC.out;have hef := fun d os => HEC.out (grow (redrawn wr d) os) (hbx.trans ((below_regrown wr d os).mono hbx.size)) p (List.mem_of_getElem? hp) cs hEE;obtain ⟨_, _, _, hcs, _, _, _, _, hs1, _, hs2, _, hs3⟩ := hEE;obtain ⟨CS, hCS⟩ : ∃ CS : Array Value, CS = cs.toArray := ⟨_, rfl⟩;have hCl : CS.size = 21 := (by rw [hCS, List.size_toArray, hcl]);have HI79 := hid (show (prog.info? 92).map (·.size) = some CS.size by rw [hCl]; kernel_rfl);have hbw := HGR.out _ hbx;have HCC := hid (show ∀ X, Below wr.heap.size wr X -> ∀ j v, CS[j]? = some v -> X.cell? ⟨b, o + i * 21 + j, none⟩ = some v from fun X hX j v hj => by rw [(hbw.trans (hX.mono hbw.size)).cell hb];exact hcell j v (by rw [hCS] at hj; simpa using hj))
           have h0c : wr.cell? ⟨b, o + i * 21, none⟩ = some (.int .u8 (p.kind : Nat)) := by have := HCC.out wr (Below.refl _ _) 0 (.int .u8 (p.kind : Nat)) (by rw [hCS, hcs]; rfl);simpa using this
           rw [z1j hp, List.all_cons] at hg;simp only [z1c] at hg;rw [<- hCS] at hef;obtain ⟨q, hq⟩ : ∃ z, ef p = z := ⟨_, rfl⟩;obtain ⟨kd, hkd⟩ : ∃ z, p.kind = z := ⟨_, rfl⟩;rw [hq] at hef hg;rw [hkd] at h0c hg;have HEE := hid (show ∀ d os, Calls prog 102 #[.agg #[.string n0, .int .i64 m1, .int .i64 ad, .slice a3 b3 c3, .slice a4 b4 c4, .slice a5 b5 c5, .slice a6 b6 c6], .agg #[.string i0, .int .u64 (mk : Nat), .int .u64 (mt : Nat), .slice a7 n c7, .slice (some ⟨b, o, none⟩) l c8, .int .i64 i5, .int .i64 i6, .int .i64 i7, .int .i64 i8], .agg CS] (grow (redrawn wr d) os) fun e w'' => e = .returned (.bool q) /\ ∃ p : Regrown, w'' = grow (redrawn wr p.d) p.os from fun d os => Calls.regrown_of (w := wr) (d := d) (os := os) (hef d os));have HG := hid hg;have HLT := hid hlt;have hin : (i : Int) < (l : Int) := (by omega);have hi0 : (0 : Int) <= (i : Int) := Int.natCast_nonneg _;have HJT := hid (And.intro hji hti);have X0 := cell_regrown x0;have X1 := cell_regrown x1;have X2 := cell_regrown x2;have X3 := cell_regrown x3;have X4 := cell_regrown x4;have X5 := cell_regrown x5;have X6 := cell_regrown x6;have Y0 := cell_regrown j0;have Y1 := cell_regrown j1;have Y2 := cell_regrown j2;have Y3 := cell_regrown j3;have Y4 := cell_regrown j4;have Y5 := cell_regrown j5;have Y6 := cell_regrown j6;have Y7 := cell_regrown j7;have Y8 := cell_regrown j8;have HK0 := hid (show ∀ X, Below W1.heap.size W1 X -> X.cell? ⟨w.heap.size + 1, 4, none⟩ = some (.slice (some ⟨b, o, none⟩) l c8) from fun X hX => (HQ.out X hX).2.2.2.2.2.1);have HK1 := hid (show ∀ X, Below wr.heap.size wr X -> X.cell? ⟨b, o + i * 21, none⟩ = some (.int .u8 (kd : Nat)) from fun X hX => (hX.cell (Nat.lt_of_lt_of_le hb hbw.size)).trans h0c);clear hp e1 hall hcell hcl hcs hs1 hs2 hs3 hcall hef hg HI hbx hlt hq hkd hCS hCl hbw hji hti;go_wp2_with fail
           clear x0 x1 x2 x3 x4 x5 x6 j0 j1 j2 j3 j4 j5 j6 j7 j8 h0c;refine wp_region_quiet_below (by kernel_rfl) (by kernel_rfl) ?_;repeat (first | (refine z8p rfl 92 _ rfl b (o + i * 21) rfl CS _ Tryz.underlying92 rfl HI79.out (fun X hX => HCC.out X (by obtain ⟨p, rfl⟩ := hX; exact below_regrown _ _ _)) ?_) | go_big_quiet_step (with_reducible exact HEE.out _ _) | quiet_step (with_reducible exact HEE.out _ _))
           refine wpQuiet_nil ?_;intro G hG;have hbG : Below wr.heap.size wr G := (by obtain ⟨p, rfl⟩ := hG; exact below_regrown _ _ _);have HBG := hid (HBX.out.trans (hbG.mono HBX.out.size));have z4 := HK0.out G HBG.out;have zk := HK1.out G hbG;clear hG X0 X1 X2 X3 X4 X5 X6 Y0 Y1 Y2 Y3 Y4 Y5 Y6 Y7 Y8 hbG
           cases q with
           | false =>
             obtain rfl : false = T2 := by have := HG.out; simpa using this
             clear z4 zk;go_wp2
             go_ret
             exact ⟨rfl, HGR.out _ HBG.out⟩
           | true =>
             rw [Bool.true_and] at HG;have hj9 : jc <= 1000001 := (by have := HJT.out; have := HLT.out; have := HNL.out; omega);have ht9 : tc <= 1000001 := (by have := HJT.out; have := HLT.out; have := HNL.out; omega);by_cases k3 : kd = 3
             ·subst k3;have HG2 := hid (show ((EL.drop (i + 1)).all ef && fin (jc + 1 + z1c 3 (EL.drop (i + 1))) (tc + z1c 4 (EL.drop (i + 1)))) = T2 by have := HG.out; rw [if_pos rfl, if_neg (by decide), Nat.zero_add, <- Nat.add_assoc] at this; exact this);go_wp2
              refine ⟨⟨jc + 1, tc, i + 1, by first | rfl | go_num | (congr 1), rfl, by first | rfl | go_num | (congr 1), by have := HLT.out; omega, by have := HJT.out; omega, by have := HJT.out; omega, hid ⟨HBG.out, HG2.out⟩⟩, by simp only [intOf]; have := HLT.out; omega⟩
             ·by_cases k4 : kd = 4
              ·subst k4;have HG2 := hid (show ((EL.drop (i + 1)).all ef && fin (jc + z1c 3 (EL.drop (i + 1))) (tc + 1 + z1c 4 (EL.drop (i + 1)))) = T2 by have := HG.out; rw [if_neg (by decide), if_pos rfl, Nat.zero_add, <- Nat.add_assoc] at this; exact this);go_wp2
               refine ⟨⟨jc, tc + 1, i + 1, rfl, by first | rfl | go_num | (congr 1), by first | rfl | go_num | (congr 1), by have := HLT.out; omega, by have := HJT.out; omega, by have := HJT.out; omega, hid ⟨HBG.out, HG2.out⟩⟩, by simp only [intOf]; have := HLT.out; omega⟩
              ·have HG2 := hid (show ((EL.drop (i + 1)).all ef && fin (jc + z1c 3 (EL.drop (i + 1))) (tc + z1c 4 (EL.drop (i + 1)))) = T2 by have := HG.out; rw [if_neg k3, if_neg k4, Nat.zero_add, Nat.zero_add] at this; exact this);have g3 : ((kd : Int) == 3) = false := (by simp; omega);have g4 : ((kd : Int) == 4) = false := (by simp; omega);clear k3 k4;go_wp2
               refine ⟨⟨jc, tc, i + 1, rfl, rfl, by first | rfl | go_num | (congr 1), by have := HLT.out; omega, by have := HJT.out; omega, by have := HJT.out; omega, hid ⟨HBG.out, HG2.out⟩⟩, by simp only [intOf]; have := HLT.out; omega⟩
          ·obtain rfl : i = l := by omega
           rw [List.drop_eq_nil_of_le (by rw [HL.out]; exact Nat.le_refl _)] at hg;have hg2 : fin jc tc = T2 := (by simpa [z1c] using hg);rw [HFIN.out] at hg2;obtain ⟨q5, hq5⟩ : ∃ z, decide (0 <= i5 /\ i5 <= (b5 : Int) - 1) = z := ⟨_, rfl⟩;obtain ⟨q6, hq6⟩ : ∃ z, decide (1 <= i6 /\ i6 <= 15) = z := ⟨_, rfl⟩;obtain ⟨q7, hq7⟩ : ∃ z, decide (1 <= i7 /\ i7 <= 15) = z := ⟨_, rfl⟩;obtain ⟨q8, hq8⟩ : ∃ z, decide (0 <= i8 /\ i8 <= 2) = z := ⟨_, rfl⟩;have I5 := hid (fun X => z1d X i5 0 ((b5 : Nat) - 1));have I6 := hid (fun X => z1d X i6 1 15);have I7 := hid (fun X => z1d X i7 1 15);have I8 := hid (fun X => z1d X i8 0 2);rw [hq5] at I5 hg2;rw [hq6] at I6 hg2;rw [hq7] at I7 hg2;rw [hq8] at I8 hg2;obtain ⟨z8, hz8⟩ : ∃ z, (i8 == 0) = z := ⟨_, rfl⟩;have hd8 : decide (i8 = 0) = z8 := (by rw [<- hz8]; by_cases h : i8 = 0 <;> simp [h]);obtain ⟨zj, hzj⟩ : ∃ z, ((jc : Int) == 1) = z := ⟨_, rfl⟩;have hdj : decide (jc = 1) = zj := (by rw [<- hzj]; by_cases h : jc = 1 <;> simp [h] <;> omega);obtain ⟨u1, hu1⟩ : ∃ z, decide (1 < jc) = z := ⟨_, rfl⟩;obtain ⟨u2, hu2⟩ : ∃ z, decide (0 < tc) = z := ⟨_, rfl⟩;obtain ⟨u3, hu3⟩ : ∃ z, decide (1 < i) = z := ⟨_, rfl⟩;have v1 : decide ((1 : Int) < (jc : Int)) = u1 := (by rw [<- hu1]; exact decide_eq_decide.2 (by omega));have v2 : decide ((0 : Int) < (tc : Int)) = u2 := (by rw [<- hu2]; exact decide_eq_decide.2 (by omega));have v3 : decide ((1 : Int) < (i : Int)) = u3 := (by rw [<- hu3]; exact decide_eq_decide.2 (by omega));rw [hd8, hdj, hu1, hu2, hu3] at hg2;have HG2 := hid hg2;have hway : (u1 = true ∨ (u1 = false /\ u2 = true /\ u3 = true)) ∨ ((u1 = false /\ (u2 = false ∨ (u2 = true /\ u3 = false))) /\ (q5 = false ∨ (q5 = true /\ (q6 = false ∨ (q6 = true /\ (q7 = false ∨ (q7 = true /\ (q8 = false ∨ (q8 = true /\ (z8 = true ∨ z8 = false))))))))) ) := by cases u1 <;> cases u2 <;> cases u3 <;> cases q5 <;> cases q6 <;> cases q7 <;> cases q8 <;> cases z8 <;> simp
           clear hg hg2 HI hbx hq5 hq6 hq7 hq8 hd8 hdj;rcases hway with (rfl | ⟨rfl, rfl, rfl⟩) | ⟨⟨rfl, rfl | ⟨rfl, rfl⟩⟩, rfl | ⟨rfl, rfl | ⟨rfl, rfl | ⟨rfl, rfl | ⟨rfl, rfl | rfl⟩⟩⟩⟩⟩
           all_goals
            go_wp2_with (first
             | (go_at_call 46; first
               | ((with_reducible refine (I5.out _).mono ?_); rintro e w7 ⟨rfl, rfl⟩)
               | ((with_reducible refine (I6.out _).mono ?_); rintro e w7 ⟨rfl, rfl⟩)
               | ((with_reducible refine (I7.out _).mono ?_); rintro e w7 ⟨rfl, rfl⟩)
               | ((with_reducible refine (I8.out _).mono ?_); rintro e w7 ⟨rfl, rfl⟩)))
            go_ret
            refine ⟨?_, HGR.out _ HBX.out⟩;have hr := HG2.out
            simp_all
end Go.Proofs.YtdmadnfadgggcaaGreatDoor
