import Derived.Test.YtdmadnfadgggcaaGreatDoorQR8Base
import Derived.Test.YtdmadnfadgggcaaGreatDoorQR8Name
set_option linter.unusedVariables false
set_option linter.unusedSimpArgs false
set_option warningAsError false
set_option maxHeartbeats 8000000
open Go.Lib (hid)
open Go.Proofs.Tryz (prog)
namespace Go.Proofs.YtdmadnfadgggcaaGreatDoor
open Go.RowKit Go.Instr Go.Sort
set_option maxRecDepth 100000
theorem z36 {a b : ByteArray} : (a.toList == b.toList) = true ↔ a = b := by
 constructor
 ·intro h;have e := eq_of_beq h;rw [ByteArray.toList_eq, ByteArray.toList_eq] at e;exact congrArg ByteArray.mk (Array.toList_inj.1 e)
 ·rintro rfl;simp
theorem z50 {N : List ByteArray} {i : Nat} {s : ByteArray} (h : N[i]? = some s) : zq (N.take i) (N.drop i) = (!(decide (s ∈ N.take i)) && z1t s && zq (N.take (i + 1)) (N.drop (i + 1))) := by
 have hi := (List.getElem?_eq_some_iff.1 h).1;have hd : N.drop i = s :: N.drop (i + 1) := by
  rw [List.drop_eq_getElem_cons hi]
  congr 1
  exact (List.getElem?_eq_some_iff.1 h).2
 have ht : N.take (i + 1) = N.take i ++ [s] := by rw [List.take_add_one, h]; rfl
 rw [hd, ht];rfl
theorem z1j {α : Type} {L : List α} {i : Nat} {x : α} (h : L[i]? = some x) : L.drop i = x :: L.drop (i + 1) := by
 have hi := (List.getElem?_eq_some_iff.1 h).1;rw [List.drop_eq_getElem_cons hi]
 congr 1
 exact (List.getElem?_eq_some_iff.1 h).2
theorem z99 {N : List ByteArray} {i : Nat} {s : ByteArray} (h : ∀ j t, j < i -> N[j]? = some t -> (t.toList == s.toList) = false) : decide (s ∈ N.take i) = false := by rw [decide_eq_false_iff_not];intro hm;obtain ⟨j, hj, e⟩ := List.getElem_of_mem hm;rw [List.length_take] at hj;rw [List.getElem_take] at e;have := h j s (by omega) (by rw [List.getElem?_eq_getElem (by omega), e]);simp at this
theorem z6g {N : List ByteArray} {i j : Nat} {s t : ByteArray} (hj : j < i) (ht : N[j]? = some t) (h : (t.toList == s.toList) = true) : decide (s ∈ N.take i) = true := by rw [decide_eq_true_eq];obtain rfl := z36.1 h;exact List.mem_of_getElem? (i := j) (by rw [List.getElem?_take, if_pos hj, ht])
theorem z9d (w : World) (v : Value) (m : Mach) (hm : zz w v m) (hlen : m.units.length <= 1000) :
 Calls prog 79 #[v] w fun e w' => e = .returned (.bool (z35 m.units)) /\ Below w.heap.size w w' := by
 obtain ⟨cs0, rfl, sr, sb, su, si, hcs, h1, h2, h3, hR, hB, hU, hI⟩ := hm;obtain rfl : cs0 = #[.string m.name, .int .i64 m.word, .int .i64 m.address, sr, sb, su, si] := by cases cs0; simp_all
 have HU := hid hU;obtain ⟨A, c, rfl, _⟩ := id hU;obtain ⟨L, hL⟩ : ∃ z, m.units = z := ⟨_, rfl⟩;rw [hL] at HU hlen ⊢;obtain ⟨n, hn⟩ : ∃ z, L.length = z := ⟨_, rfl⟩;have HN := hid hn;rw [hn] at HU hlen;rw [hn];have hn4 : n <= 9223372036854775807 := by omega
 obtain ⟨W1, hW1⟩ : ∃ W1, W1 = w.alloc (.cells #[.string m.name, .int .i64 m.word, .int .i64 m.address, sr, sb, .slice A n c, si] 27) := ⟨_, rfl⟩;have HW1 := hid hW1;have hb1 : Below w.heap.size w W1 := by rw [hW1]; exact (Below.refl _ _).alloc (Nat.le_refl _) _
 have hlt1 : w.heap.size < W1.heap.size := by rw [hW1]; simp
 have hq5 : W1.cell? ⟨w.heap.size, 5, none⟩ = some (.slice A n c) := by rw [hW1]; exact zl rfl rfl
 have HQ5 := hid (show ∀ X, Below W1.heap.size W1 X -> X.cell? ⟨w.heap.size, 5, none⟩ = some (.slice A n c) from fun X hX => (hX.cell (p := ⟨w.heap.size, 5, none⟩) hlt1).trans hq5);have HGR := hid (show ∀ X, Below W1.heap.size W1 X -> Below w.heap.size w X from fun X hX => hb1.trans (hX.mono hb1.size));have HRF := hid (Below.refl W1.heap.size W1);obtain ⟨N, hNN⟩ : ∃ N, L.map (fun x => x.name) = N := ⟨_, rfl⟩;obtain ⟨r, hr⟩ : ∃ r, z35 L = r := ⟨_, rfl⟩;have HR0 := hid (show (decide (0 < n) && (zq (N.take 0) (N.drop 0) && (L.drop 0).all z5b)) = r by rw [<- hr, <- hNN, <- hn, List.drop_zero, List.take_zero, List.drop_zero];unfold z35;rw [Bool.and_assoc])
 have HNL := hid (show N.length = n by rw [<- hNN, List.length_map, hn]);have HNA := hid (show ∀ (i : Nat) (x : MUnit), L[i]? = some x -> N[i]? = some x.name from fun i x h => by rw [<- hNN, List.getElem?_map, h]; rfl);rw [hr];have HCE := hid (show ∀ X, Below W1.heap.size W1 X -> ∀ (i : Nat) (x : MUnit), L[i]? = some x -> ∃ b o, A = some ⟨b, o, none⟩ /\ X.cell? ⟨b, o + i * 2, none⟩ = some (.string x.name) /\ X.cell? ⟨b, o + i * 2 + 1, none⟩ = some (.int .i64 x.count) from fun X hX i x hx => by
  have hbw := HGR.out X hX;obtain ⟨A', c', e1, _, _, _, hall⟩ := HU.out.kept (fun cs x hx => z3u.kept hx hbw) hbw;obtain ⟨b, o, cs, e2, hb, hcl, hcell, hE⟩ := hall i x hx;obtain ⟨rfl, rfl⟩ : A = A' /\ c = c' := by cases e1; exact ⟨rfl, rfl⟩
  obtain ⟨rfl, _⟩ := hE;exact ⟨b, o, e2, by simpa using hcell 0 _ rfl, hcell 1 _ rfl⟩)
 clear hcs h1 h2 h3 hR hB hU hI hb1 hlt1 hq5 hW1 hn hL hr hNN;go_enter Tryz.func79, Tryz.ntmps79
 go_wp2
 rw [<- HW1.out];go_loopw [3] (fun vi wr => ∃ (i : Nat), vi = .int .i64 i /\ i <= n /\ Hid (Below W1.heap.size W1 wr /\ (decide (0 < n) && (zq (N.take i) (N.drop i) && (L.drop i).all z5b)) = r)) (fun vi _ => n - (intOf vi).toNat)
 case atStart => exact ⟨0, rfl, Nat.zero_le _, hid ⟨HRF.out, HR0.out⟩⟩
 case round =>
  obtain ⟨i, rfl, hi, HI⟩ := hrel;obtain ⟨hbx, hg⟩ := HI.out;have c5 := HQ5.out _ hbx;have HBX := hid hbx;obtain ⟨wo, rfl⟩ : ∃ z, z = wr := ⟨_, rfl⟩;by_cases hlt : i < n
  ·obtain ⟨x, hx⟩ : ∃ p, L[i]? = some p := ⟨_, List.getElem?_eq_getElem (by rw [HN.out]; exact hlt)⟩;obtain ⟨b, o, e2, p0, p1⟩ := HCE.out _ hbx i x hx;subst e2;rw [z50 (HNA.out i x hx), z1j hx, List.all_cons] at hg;obtain ⟨nm, hnm⟩ : ∃ z, x.name = z := ⟨_, rfl⟩;obtain ⟨ct, hct⟩ : ∃ z, x.count = z := ⟨_, rfl⟩;have HX := hid hx;have HNI := hid (show N[i]? = some nm by rw [<- hnm]; exact HNA.out i x hx);rw [show z5b x = decide (1 <= ct /\ ct <= 4) by unfold z5b; rw [hct]] at hg;rw [hnm] at hg p0;rw [hct] at p1;have hin : (i : Int) < (n : Int) := by omega
   have HLT := hid hlt;have HNM := hid (fun X => z33 nm X);have HIN := hid (fun X => z1d X ct 1 4);obtain ⟨qn, hqn⟩ : ∃ z, z1t nm = z := ⟨_, rfl⟩;obtain ⟨qi, hqi⟩ : ∃ z, decide (1 <= ct /\ ct <= 4) = z := ⟨_, rfl⟩;rw [hqn] at HNM hg;rw [hqi] at HIN hg;have HG := hid hg;clear hg hqn hqi hx hnm hct HI hbx hlt;have HPP := hid (And.intro p0 p1)
   cases qn with
   | false =>
     obtain rfl : false = r := by have := HG.out; simpa using this
     go_wp2_with (go_at_call 76; (with_reducible refine (HNM.out _).mono ?_); rintro e w5 ⟨rfl, hb5⟩)
     go_ret
     exact ⟨rfl, HGR.out _ (HBX.out.trans (hb5.mono HBX.out.size))⟩
   | true =>
     have HB5 := hid (show ∀ X, Below wo.heap.size wo X -> Below W1.heap.size W1 X from fun X hX => HBX.out.trans (hX.mono HBX.out.size));have HC5 := hid (show ∀ X, Below wo.heap.size wo X -> X.cell? ⟨w.heap.size, 5, none⟩ = some (.slice (some ⟨b, o, none⟩) n c) /\ X.cell? ⟨b, o + i * 2, none⟩ = some (.string nm) /\ X.cell? ⟨b, o + i * 2 + 1, none⟩ = some (.int .i64 ct) from fun X hX => by obtain ⟨q0, q1⟩ := HPP.out;exact ⟨HQ5.out _ (HB5.out _ hX), by rw [hX.cell (Nat.lt_of_not_le fun h => by have := z3y q0; omega)]; exact q0, by rw [hX.cell (Nat.lt_of_not_le fun h => by have := z3y q1; omega)]; exact q1⟩)
     cases qi with
     | false =>
       obtain rfl : false = r := by have := HG.out; simpa using this
       go_wp2_with (first
        | (go_at_call 76; (with_reducible refine (HNM.out _).mono ?_); rintro e w5 ⟨rfl, hb5⟩; obtain ⟨z0, z1, z2⟩ := HC5.out _ hb5)
        | (go_at_call 46; (with_reducible refine (HIN.out _).mono ?_); rintro e w6 ⟨rfl, rfl⟩))
       go_ret
       exact ⟨rfl, HGR.out _ (HB5.out _ hb5)⟩
     | true =>
       go_wp2_with (first
        | (go_at_call 76; (with_reducible refine (HNM.out _).mono ?_); rintro e w5 ⟨rfl, hb5⟩; obtain ⟨z0, z1, z2⟩ := HC5.out _ hb5)
        | (go_at_call 46; (with_reducible refine (HIN.out _).mono ?_); rintro e w6 ⟨rfl, rfl⟩))
       have HBW := hid hb5;clear z0 z1 z2 hb5 c5 p0 p1;go_loopw [4] (fun vk wq => ∃ (k : Nat), vk = .int .i64 k /\ k <= i /\ Hid (Below wo.heap.size wo wq /\ ∀ j t, j < k -> N[j]? = some t -> (t.toList == nm.toList) = false)) (fun vk _ => i - (intOf vk).toNat)
       case atStart => exact ⟨0, rfl, Nat.zero_le _, hid ⟨HBW.out, fun j t hj => absurd hj (Nat.not_lt_zero _)⟩⟩
       case round =>
        obtain ⟨k, rfl, hki, HK⟩ := hrel;obtain ⟨hbq, hkk⟩ := HK.out;obtain ⟨z0, z1, z2⟩ := HC5.out _ hbq;by_cases hlk : k < i
        ·obtain ⟨y, hy⟩ : ∃ p, L[k]? = some p := ⟨_, List.getElem?_eq_getElem (by rw [HN.out]; have := HLT.out; omega)⟩;obtain ⟨b', o', e2, p0, _⟩ := HCE.out _ (HB5.out _ hbq) k y hy;obtain ⟨rfl, rfl⟩ : b = b' /\ o = o' := by cases e2; exact ⟨rfl, rfl⟩
         have hNk := HNA.out k y hy;obtain ⟨yn, hyn⟩ : ∃ z, y.name = z := ⟨_, rfl⟩;rw [hyn] at p0 hNk;have K0 := cell_regrown z0;have K1 := cell_regrown z1;have K3 := cell_regrown p0;have hin2 : (k : Int) < (n : Int) := (by have := HLT.out; omega);have hin3 : (k : Int) < (i : Int) := (by omega);have hk0 : (0 : Int) <= (k : Int) := Int.natCast_nonneg _;have hi0 : (0 : Int) <= (i : Int) := Int.natCast_nonneg _;have HLK := hid hlk;have HKK := hid hkk;have HNK := hid hNk;have HBQ := hid hbq;obtain ⟨q, hq⟩ : ∃ q, (yn.toList == nm.toList) = q := ⟨_, rfl⟩;have HQQ := hid hq;clear hkk hNk hy hyn e2 HK hbq;go_wp2_with fail
         clear z0 z1 z2 p0;refine wp_region_quiet_below (by kernel_rfl) (by kernel_rfl) ?_;repeat (first | go_big_quiet_step (fail) | quiet_step (fail))
         refine wpQuiet_nil ?_;intro G hG;have hbG : Below wo.heap.size wo G := (by obtain ⟨p, rfl⟩ := hG; exact HBQ.out.trans ((below_regrown wr _ _).mono HBQ.out.size));clear hG K0 K1 K3;have HBG := hid hbG;clear hbG
         cases q with
         | true =>
           obtain rfl : false = r := by have := HG.out; rw [z6g HLK.out HNK.out HQQ.out] at this; simpa using this
           go_wp2
           go_ret
           exact ⟨rfl, HGR.out _ (HB5.out _ HBG.out)⟩
         | false =>
           go_wp2
           go_roundw
           case rel =>
            refine ⟨k + 1, by first | rfl | go_num | (congr 1), by have := HLK.out; omega, hid ⟨HBG.out, fun j t hj ht => ?_⟩⟩;by_cases e : j = k
            ·subst e; rw [HNK.out] at ht; obtain rfl := Option.some.inj ht; exact HQQ.out
            ·exact HKK.out j t (by omega) ht
           case measure => simp only [intOf]; have := HLK.out; omega
        ·obtain rfl : k = i := by omega
         have HBQ := hid hbq;have HKK := hid hkk;clear hbq hkk HK z0 z1 z2;go_wp2
         refine ⟨⟨k + 1, by first | rfl | go_num | (congr 1), by have := HLT.out; omega, hid ⟨HB5.out _ HBQ.out, by have := HG.out; rw [z99 HKK.out] at this; simpa using this⟩⟩, by simp only [intOf]; have := HLT.out; omega⟩
  ·obtain rfl : i = n := by omega
   rw [List.drop_eq_nil_of_le (by rw [HNL.out]; exact Nat.le_refl _), List.drop_eq_nil_of_le (by rw [HN.out]; exact Nat.le_refl _)] at hg;have hr : r = decide (0 < i) := by rw [<- hg]; simp [zq]
   subst hr;clear hg HI HR0;go_wp2
   go_ret
   exact ⟨by simp, HGR.out _ HBX.out⟩
theorem zaw (w : World) (v : Value) (m : Mach) (hm : zz w v m) :
 Calls prog 75 #[v] w fun e w' => e = .returned (.bool (limM m)) /\ Below w.heap.size w w' := by
 obtain ⟨cs0, rfl, sr, sb, su, si, hcs, h1, h2, h3, hR, hB, hU, hI⟩ := hm;obtain rfl : cs0 = #[.string m.name, .int .i64 m.word, .int .i64 m.address, sr, sb, su, si] := by cases cs0; simp_all
 have HB := hid hB;have HI := hid hI;obtain ⟨Ar, cr, rfl, hmr, _⟩ := id hR;obtain ⟨Ab, cb, rfl, hmb, _⟩ := id hB;obtain ⟨Au, cu, rfl, hmu, _⟩ := id hU;obtain ⟨Ai, ci, rfl, hmi, _⟩ := id hI;have hmx : maxLen <= 9223372036854775807 := by decide
 obtain ⟨B, hBB⟩ : ∃ z, m.banks = z := ⟨_, rfl⟩;obtain ⟨I, hII⟩ : ∃ z, m.instrs = z := ⟨_, rfl⟩;obtain ⟨nr, hnr⟩ : ∃ z, m.regs.length = z := ⟨_, rfl⟩;obtain ⟨nu, hnu⟩ : ∃ z, m.units.length = z := ⟨_, rfl⟩;obtain ⟨nb, hnb⟩ : ∃ z, B.length = z := ⟨_, rfl⟩;obtain ⟨ni, hni⟩ : ∃ z, I.length = z := ⟨_, rfl⟩;obtain ⟨r, hr⟩ : ∃ r, limM m = r := ⟨_, rfl⟩;have HR0 := hid (show (decide (nr <= 64) && decide (nu <= 8) && (decide (nb <= 16) && B.all limB) && (decide (ni <= 64) && I.all limI)) = r by rw [<- hr];unfold limM;rw [hBB, hII, hnr, hnu, hnb, hni])
 rw [hr];rw [hBB] at HB hmb;rw [hII] at HI hmi;rw [hnb] at HB hmb;rw [hni] at HI hmi;rw [hnr] at hmr;rw [hnu] at hmu;rw [hnr, hnu, hBB, hII, hnb, hni];have HNB := hid hnb;have HNI := hid hni;obtain ⟨W1, hW1⟩ : ∃ W1, W1 = w.alloc (.cells #[.string m.name, .int .i64 m.word, .int .i64 m.address, .slice Ar nr cr, .slice Ab nb cb, .slice Au nu cu, .slice Ai ni ci] 27) := ⟨_, rfl⟩;have HW1 := hid hW1;have hb1 : Below w.heap.size w W1 := by rw [hW1]; exact (Below.refl _ _).alloc (Nat.le_refl _) _
 have hlt1 : w.heap.size < W1.heap.size := by rw [hW1]; simp
 have hblk1 : W1.heap[w.heap.size]? = some (.cells #[.string m.name, .int .i64 m.word, .int .i64 m.address, .slice Ar nr cr, .slice Ab nb cb, .slice Au nu cu, .slice Ai ni ci] 27) := by rw [hW1]; exact heap_alloc_new _ _
 have HQ := hid (show ∀ X, Below W1.heap.size W1 X -> X.cell? ⟨w.heap.size, 3, none⟩ = some (.slice Ar nr cr) /\ X.cell? ⟨w.heap.size, 4, none⟩ = some (.slice Ab nb cb) /\ X.cell? ⟨w.heap.size, 5, none⟩ = some (.slice Au nu cu) /\ X.cell? ⟨w.heap.size, 6, none⟩ = some (.slice Ai ni ci) from fun X hX => by have e1 := (hX.block _ hlt1).trans hblk1;exact ⟨zb e1 rfl, zb e1 rfl, zb e1 rfl, zb e1 rfl⟩)
 have HGR := hid (show ∀ X, Below W1.heap.size W1 X -> Below w.heap.size w X from fun X hX => hb1.trans (hX.mono hb1.size));have HRF := hid (Below.refl W1.heap.size W1);have HCB := hid (show ∀ X, Below W1.heap.size W1 X -> ∀ (i : Nat) (x : MBank), B[i]? = some x -> ∃ b o A c, Ab = some ⟨b, o, none⟩ /\ X.cell? ⟨b, o + i * 2 + 1, none⟩ = some (.slice A x.regs.length c) /\ x.regs.length <= 9223372036854775807 from fun X hX i x hx => by
  have hbw := HGR.out X hX;obtain ⟨A', c', e1, _, _, _, hall⟩ := HB.out.kept (fun cs x hx => z1m.kept hx hbw) hbw;obtain ⟨b, o, cs, e2, hb, hcl, hcell, sv, rfl, _, A, c, rfl, hl, _⟩ := hall i x hx;obtain ⟨rfl, rfl⟩ : Ab = A' /\ cb = c' := by cases e1; exact ⟨rfl, rfl⟩
  exact ⟨b, o, A, c, e2, hcell 1 _ rfl, by omega⟩)
 have HCI := hid (show ∀ (i : Nat) (x : MIns), I[i]? = some x -> ∃ b o A c A2 c2, Ai = some ⟨b, o, none⟩ /\ x.opers.length <= 9223372036854775807 /\ x.effs.length <= 9223372036854775807 /\ (∀ X, Below W1.heap.size W1 X -> X.cell? ⟨b, o + i * 9 + 3, none⟩ = some (.slice A x.opers.length c) /\ X.cell? ⟨b, o + i * 9 + 4, none⟩ = some (.slice A2 x.effs.length c2)) /\
  ∀ (k : Nat) (y : MOper), x.opers[k]? = some y -> ∃ b' o' A3 c3, A = some ⟨b', o', none⟩ /\ y.pieces.length <= 9223372036854775807 /\ ∀ X, Below W1.heap.size W1 X -> X.cell? ⟨b', o' + k * 6 + 4, none⟩ = some (.slice A3 y.pieces.length c3) from fun i x hx => by
  obtain ⟨A', c', e1, _, _, _, hall⟩ := HI.out;obtain ⟨b, o, cs, e2, hb, hcl, hcell, so, se, rfl, _, _, _, hO, hE, _⟩ := hall i x hx;obtain ⟨rfl, rfl⟩ : Ai = A' /\ ci = c' := by cases e1; exact ⟨rfl, rfl⟩
  obtain ⟨A, c, rfl, hl1, _⟩ := id hO;obtain ⟨A2, c2, rfl, hl2, _⟩ := hE;refine ⟨b, o, A, c, A2, c2, e2, by omega, by omega, fun X hX => ⟨by rw [(HGR.out X hX).cell hb]; exact hcell 3 _ rfl, by rw [(HGR.out X hX).cell hb]; exact hcell 4 _ rfl⟩, fun k y hy => ?_⟩;obtain ⟨A9, c9, e9, _, _, _, hall2⟩ := hO;obtain ⟨b', o', cs', e3, hb', hcl', hcell', sv, rfl, _, _, _, _, hP, _⟩ := hall2 k y hy;obtain ⟨rfl, rfl⟩ : A = A9 /\ c = c9 := by cases e9; exact ⟨rfl, rfl⟩
  obtain ⟨A3, c3, rfl, hl3, _⟩ := hP;exact ⟨b', o', A3, c3, e3, by omega, fun X hX => by rw [(HGR.out X hX).cell hb']; exact hcell' 4 _ rfl⟩)
 obtain ⟨hq3, hq4, hq5, hq6⟩ := HQ.out W1 HRF.out;rw [hW1] at hq3 hq4 hq5 hq6;have hlr : nr <= 9223372036854775807 := by omega
 have hlu : nu <= 9223372036854775807 := by omega
 have hlb : nb <= 9223372036854775807 := by omega
 have hli : ni <= 9223372036854775807 := by omega
 clear hcs h1 h2 h3 hR hB hU hI hb1 hlt1 hW1 hblk1 hBB hII hnr hnu hnb hni hr hmr hmu hmb hmi hmx;by_cases hall : nr <= 64 /\ nb <= 16 /\ nu <= 8 /\ ni <= 64
 rotate_left
 ·obtain rfl : false = r := by
   have := HR0.out;by_cases a1 : nr <= 64 <;> by_cases a2 : nb <= 16 <;> by_cases a3 : nu <= 8 <;> by_cases a4 : ni <= 64 <;> simp [a1, a2, a3, a4] at this hall <;> exact this.symm
  obtain ⟨q1, hq1⟩ : ∃ z, decide ((nr : Int) > 64) = z := ⟨_, rfl⟩;obtain ⟨q2, hq2⟩ : ∃ z, decide ((nb : Int) > 16) = z := ⟨_, rfl⟩;obtain ⟨q7, hq7⟩ : ∃ z, decide ((nu : Int) > 8) = z := ⟨_, rfl⟩;obtain ⟨q8, hq8⟩ : ∃ z, decide ((ni : Int) > 64) = z := ⟨_, rfl⟩;have HA := hid hall;clear hall HR0;cases q1 <;> cases q2 <;> cases q7 <;> cases q8 <;> simp only [decide_eq_true_eq, decide_eq_false_iff_not] at hq1 hq2 hq7 hq8
  case false.false.false.false => exact absurd HA.out (by omega)
  all_goals
   go_enter Tryz.func75, Tryz.ntmps75
   go_wp2
   go_ret
   exact ⟨rfl, by rw [<- HW1.out]; exact HGR.out _ HRF.out⟩
 ·obtain ⟨a1, a2, a3, a4⟩ := hall;have HR1 := hid (show ((B.drop 0).all limB && (I.drop 0).all limI) = r by have := HR0.out; simp only [decide_eq_true a1, decide_eq_true a2, decide_eq_true a3, decide_eq_true a4, Bool.true_and] at this; rw [List.drop_zero, List.drop_zero]; exact this);have g1 : ¬ (nr : Int) > 64 := by omega
  have g2 : ¬ (nb : Int) > 16 := by omega
  have g3 : ¬ (nu : Int) > 8 := by omega
  have g4 : ¬ (ni : Int) > 64 := by omega
  have g5 : ¬ 64 < nr := by omega
  have g6 : ¬ 16 < nb := by omega
  have g7 : ¬ 8 < nu := by omega
  have g8 : ¬ 64 < ni := by omega
  clear HR0;go_enter Tryz.func75, Tryz.ntmps75
  go_wp2
  rw [<- HW1.out];clear hq3 hq4 hq5 hq6;go_loopw [3] (fun vi wr => ∃ (i : Nat), vi = .int .i64 i /\ i <= nb /\ Hid (Below W1.heap.size W1 wr /\ ((B.drop i).all limB && (I.drop 0).all limI) = r)) (fun vi _ => nb - (intOf vi).toNat)
  case atStart => exact ⟨0, rfl, Nat.zero_le _, hid ⟨HRF.out, HR1.out⟩⟩
  case round =>
   obtain ⟨i, rfl, hi, HJ⟩ := hrel;obtain ⟨hbx, hg⟩ := HJ.out;obtain ⟨c3, c4, c5, c6⟩ := HQ.out _ hbx;have HBX := hid hbx;by_cases hlt : i < nb
   ·obtain ⟨x, hx⟩ : ∃ p, B[i]? = some p := ⟨_, List.getElem?_eq_getElem (by rw [HNB.out]; exact hlt)⟩;obtain ⟨b, o, A, c, e2, p1, hxl⟩ := HCB.out _ hbx i x hx;subst e2;rw [z1j hx, List.all_cons] at hg;obtain ⟨xl, hxl2⟩ : ∃ z, x.regs.length = z := ⟨_, rfl⟩;rw [show limB x = decide (xl <= 64) by unfold limB; rw [hxl2]] at hg;rw [hxl2] at p1 hxl;have HLT := hid hlt;have hin : (i : Int) < (nb : Int) := (by omega);have HG := hid hg;clear hg hx hxl2 HJ hbx hlt;by_cases h64 : xl <= 64
    ·have k1 : ¬ (xl : Int) > 64 := (by omega);have k2 : ¬ 64 < xl := (by omega);have HG2 := hid (show ((B.drop (i + 1)).all limB && (I.drop 0).all limI) = r by have := HG.out; rw [decide_eq_true h64, Bool.true_and] at this; exact this);go_wp2
     refine ⟨⟨i + 1, by first | rfl | go_num | (congr 1), by have := HLT.out; omega, hid ⟨HBX.out, HG2.out⟩⟩, by simp only [intOf]; have := HLT.out; omega⟩
    ·obtain rfl : false = r := by have := HG.out; rw [decide_eq_false h64] at this; simpa using this
     have k1 : (xl : Int) > 64 := (by omega);have k2 : 64 < xl := (by omega);go_wp2
     go_ret
     exact ⟨rfl, HGR.out _ HBX.out⟩
   ·obtain rfl : i = nb := by omega
    rw [List.drop_eq_nil_of_le (by rw [HNB.out]; exact Nat.le_refl _)] at hg;have HG := hid (show (I.drop 0).all limI = r from by simpa using hg);clear hg HJ hbx HR1;go_wp2
    go_loopw [4] (fun vi wr => ∃ (i : Nat), vi = .int .i64 i /\ i <= ni /\ Hid (Below W1.heap.size W1 wr /\ (I.drop i).all limI = r)) (fun vi _ => ni - (intOf vi).toNat)
    case atStart => exact ⟨0, rfl, Nat.zero_le _, hid ⟨HBX.out, HG.out⟩⟩
    case round =>
     clear c3 c4 c5 c6;obtain ⟨j, rfl, hj, HJ⟩ := hrel;obtain ⟨hbx, hg⟩ := HJ.out;obtain ⟨c3, c4, c5, c6⟩ := HQ.out _ hbx;have HBX2 := hid hbx;by_cases hlt : j < ni
     ·obtain ⟨x, hx⟩ : ∃ p, I[j]? = some p := ⟨_, List.getElem?_eq_getElem (by rw [HNI.out]; exact hlt)⟩;obtain ⟨b, o, A, c, A2, c2, e2, hl1, hl2, hpc, hop⟩ := HCI.out j x hx;subst e2;rw [z1j hx, List.all_cons] at hg;obtain ⟨O, hO⟩ : ∃ z, x.opers = z := ⟨_, rfl⟩;obtain ⟨ne, hne⟩ : ∃ z, x.effs.length = z := ⟨_, rfl⟩;rw [hO] at hl1 hpc hop;obtain ⟨no, hno⟩ : ∃ z, O.length = z := ⟨_, rfl⟩;rw [show limI x = (decide (ne <= 4) && (decide (no <= 4) && O.all limO)) by unfold limI; rw [hO, hno, hne]] at hg;rw [hno] at hl1 hpc;rw [hne] at hl2 hpc;obtain ⟨p3, p4⟩ := hpc _ hbx;have HPC := hid hpc;have HOP := hid hop;have HNO := hid hno;have HLT := hid hlt;have HG2 := hid hg;have hin : (j : Int) < (ni : Int) := (by omega);clear hx hO hno hne hpc hop hg HJ hbx HG hlt;by_cases ho4 : no <= 4
      ·by_cases he4 : ne <= 4
       ·have k1 : ¬ (no : Int) > 4 := (by omega);have k2 : ¬ 4 < no := (by omega);have k3 : ¬ (ne : Int) > 4 := (by omega);have k4 : ¬ 4 < ne := (by omega);have HG3 := hid (show ((O.drop 0).all limO && (I.drop (j + 1)).all limI) = r by have := HG2.out; rw [decide_eq_true ho4, decide_eq_true he4, Bool.true_and, Bool.true_and] at this; rw [List.drop_zero]; exact this);clear HG2;go_wp2
        go_loopw [5] (fun vk wr => ∃ (k : Nat), vk = .int .i64 k /\ k <= no /\ Hid (Below W1.heap.size W1 wr /\ ((O.drop k).all limO && (I.drop (j + 1)).all limI) = r)) (fun vk _ => no - (intOf vk).toNat)
        case atStart => exact ⟨0, rfl, Nat.zero_le _, hid ⟨HBX2.out, HG3.out⟩⟩
        case round =>
         clear c3 c4 c5 c6 p3 p4;obtain ⟨k, rfl, hkn, HK⟩ := hrel;obtain ⟨hbx, hg⟩ := HK.out;obtain ⟨c3, c4, c5, c6⟩ := HQ.out _ hbx;obtain ⟨p3, p4⟩ := HPC.out _ hbx;have HBX3 := hid hbx;by_cases hlk : k < no
         ·obtain ⟨y, hy⟩ : ∃ p, O[k]? = some p := ⟨_, List.getElem?_eq_getElem (by rw [HNO.out]; exact hlk)⟩;obtain ⟨b', o', A3, cc3, e3, hl3, hpp⟩ := HOP.out k y hy;subst e3;have p5 := hpp _ hbx;rw [z1j hy, List.all_cons] at hg;obtain ⟨np, hnp⟩ : ∃ z, y.pieces.length = z := ⟨_, rfl⟩;rw [show limO y = decide (np <= 4) by unfold limO; rw [hnp]] at hg;rw [hnp] at p5 hl3;have HLK := hid hlk;have HG5 := hid hg;have hin2 : (k : Int) < (no : Int) := (by omega);clear hy hpp hnp hg HK hbx hlk;by_cases hp4 : np <= 4
          ·have k5 : ¬ (np : Int) > 4 := (by omega);have k6 : ¬ 4 < np := (by omega);have HG6 := hid (show ((O.drop (k + 1)).all limO && (I.drop (j + 1)).all limI) = r by have := HG5.out; rw [decide_eq_true hp4, Bool.true_and] at this; exact this);go_wp2
           refine ⟨⟨k + 1, by first | rfl | go_num | (congr 1), by have := HLK.out; omega, hid ⟨HBX3.out, HG6.out⟩⟩, by simp only [intOf]; have := HLK.out; omega⟩
          ·obtain rfl : false = r := by have := HG5.out; rw [decide_eq_false hp4] at this; simpa using this
           have k5 : (np : Int) > 4 := (by omega);have k6 : 4 < np := (by omega);go_wp2
           go_ret
           exact ⟨rfl, HGR.out _ HBX3.out⟩
         ·obtain rfl : k = no := by omega
          rw [List.drop_eq_nil_of_le (by rw [HNO.out]; exact Nat.le_refl _)] at hg;have HG7 := hid (show (I.drop (j + 1)).all limI = r from by simpa using hg);clear hg HK hbx;go_wp2
          refine ⟨⟨j + 1, by first | rfl | go_num | (congr 1), by have := HLT.out; omega, hid ⟨HBX3.out, HG7.out⟩⟩, by simp only [intOf]; have := HLT.out; omega⟩
       ·obtain rfl : false = r := by have := HG2.out; rw [decide_eq_false he4] at this; simpa using this
        have k1 : ¬ (no : Int) > 4 := (by omega);have k2 : ¬ 4 < no := (by omega);have k3 : (ne : Int) > 4 := (by omega);have k4 : 4 < ne := (by omega);go_wp2
        go_ret
        exact ⟨rfl, HGR.out _ HBX2.out⟩
      ·obtain rfl : false = r := by have := HG2.out; rw [decide_eq_false ho4] at this; simpa using this
       have k1 : (no : Int) > 4 := (by omega);have k2 : 4 < no := (by omega);go_wp2
       go_ret
       exact ⟨rfl, HGR.out _ HBX2.out⟩
     ·obtain rfl : j = ni := by omega
      rw [List.drop_eq_nil_of_le (by rw [HNI.out]; exact Nat.le_refl _)] at hg;obtain rfl : true = r := by simpa using hg
      clear hg HJ hbx HG;go_wp2
      go_ret
      exact ⟨rfl, HGR.out _ HBX2.out⟩
def z56 (R : List MReg) (x : MReg) : Bool :=
 decide (1 <= x.width /\ x.width <= 64) && (if x.par = -1 then decide (x.low = 0) else if 0 <= x.par /\ x.par <= (R.length : Int) - 1 then (match R[x.par.toNat]? with
  | some y => decide (y.par = -1) && (decide (1 <= y.width /\ y.width <= 64) && (decide (x.width < y.width) && decide (0 <= x.low /\ x.low <= y.width - x.width)))
  | none => false) else false)
theorem zeu (R : List MReg) : R.all (z56 R) = R.all (z46 R) := by
 have e1 : R.all (z56 R) = true -> ∀ x ∈ R, z46 R x = true := fun h x hx => by
  rw [List.all_eq_true] at h;have hx8 := h x hx;unfold z56 at hx8;rw [Bool.and_eq_true] at hx8;unfold z46;rw [hx8.1, Bool.true_and];have h2 := hx8.2;by_cases hp : x.par = -1
  ·rw [if_pos hp] at h2;unfold z2v;simp only [decide_eq_true_eq] at h2;simp [hp, h2]
  ·rw [if_neg hp] at h2;by_cases hr : 0 <= x.par /\ x.par <= (R.length : Int) - 1
   ·rw [if_pos hr] at h2
    cases hy : R[x.par.toNat]? with
    | none => rw [hy] at h2; cases h2
    | some y =>
      rw [hy] at h2;simp only [Bool.and_eq_true, decide_eq_true_eq] at h2;have hy8 := h y (List.mem_of_getElem? hy);unfold z56 at hy8;rw [Bool.and_eq_true, if_pos h2.1] at hy8;have hyl := hy8.2;simp only [decide_eq_true_eq] at hyl;have hxw := hx8.1;simp only [decide_eq_true_eq] at hxw;have hpr : z53 R x = true := by unfold z53 z2v;rw [if_pos hr.1, hy];simp only;rw [zd _ (by omega) (by omega)];simp [h2.1, hyl, h2.2.2.1, h2.2.2.2]
      rw [hpr, Bool.or_true]
   ·rw [if_neg hr] at h2; cases h2
 have e2 : R.all (z46 R) = true -> ∀ x ∈ R, z56 R x = true := fun h x hx => by
  rw [List.all_eq_true] at h;have hx1 := h x hx;unfold z46 at hx1;rw [Bool.and_eq_true] at hx1;unfold z56;rw [hx1.1, Bool.true_and];have h2 := hx1.2;have hxw := hx1.1;simp only [decide_eq_true_eq] at hxw;rw [Bool.or_eq_true] at h2;rcases h2 with h2 | h2
  ·unfold z2v at h2;simp only [Bool.and_eq_true, decide_eq_true_eq] at h2;rw [if_pos h2.1];simp [h2.2]
  ·unfold z53 at h2;by_cases h0 : 0 <= x.par
   ·rw [if_pos h0] at h2
    cases hy : R[x.par.toNat]? with
    | none => rw [hy] at h2; cases h2
    | some y => rw [hy] at h2;have hyl := (List.getElem?_eq_some_iff.1 hy).1;have hy1 := h y (List.mem_of_getElem? hy);unfold z46 at hy1;rw [Bool.and_eq_true] at hy1;have hyw := hy1.1;simp only [decide_eq_true_eq] at hyw;unfold z2v at h2;simp only [Bool.and_eq_true, decide_eq_true_eq] at h2;have h3 := h2.2.2;rw [zd _ (by omega) (by omega)] at h3;rw [if_neg (by omega), if_pos ⟨h0, by omega⟩];simp only;rw [decide_eq_true h2.1.1, decide_eq_true hyw, decide_eq_true h2.2.1, decide_eq_true h3];rfl
   ·rw [if_neg h0] at h2; cases h2
 cases h : R.all (z46 R) with
 | true => rw [List.all_eq_true]; exact e2 h
 | false =>
   cases h8 : R.all (z56 R) with
   | false => rfl
   | true => rw [List.all_eq_true.2 (e1 h8)] at h; cases h
theorem zal (w : World) (v : Value) (m : Mach) (hm : zz w v m) (hlen : m.regs.length <= 1000) :
 Calls prog 77 #[v] w fun e w' => e = .returned (.bool (z2h m.regs)) /\ Below w.heap.size w w' := by
 obtain ⟨cs0, rfl, sr, sb, su, si, hcs, h1, h2, h3, hR, hB, hU, hI⟩ := hm;obtain rfl : cs0 = #[.string m.name, .int .i64 m.word, .int .i64 m.address, sr, sb, su, si] := by cases cs0; simp_all
 have HU := hid hR;obtain ⟨A, c, rfl, _⟩ := id hR;obtain ⟨L, hL⟩ : ∃ z, m.regs = z := ⟨_, rfl⟩;rw [hL] at HU hlen ⊢;obtain ⟨n, hn⟩ : ∃ z, L.length = z := ⟨_, rfl⟩;have HN := hid hn;rw [hn] at HU hlen;rw [hn];have hn4 : n <= 9223372036854775807 := by omega
 obtain ⟨W1, hW1⟩ : ∃ W1, W1 = w.alloc (.cells #[.string m.name, .int .i64 m.word, .int .i64 m.address, .slice A n c, sb, su, si] 27) := ⟨_, rfl⟩;have HW1 := hid hW1;have hb1 : Below w.heap.size w W1 := by rw [hW1]; exact (Below.refl _ _).alloc (Nat.le_refl _) _
 have hlt1 : w.heap.size < W1.heap.size := by rw [hW1]; simp
 have hq5 : W1.cell? ⟨w.heap.size, 3, none⟩ = some (.slice A n c) := by rw [hW1]; exact zl rfl rfl
 have HQ3 := hid (show ∀ X, Below W1.heap.size W1 X -> X.cell? ⟨w.heap.size, 3, none⟩ = some (.slice A n c) from fun X hX => (hX.cell (p := ⟨w.heap.size, 3, none⟩) hlt1).trans hq5);have HGR := hid (show ∀ X, Below W1.heap.size W1 X -> Below w.heap.size w X from fun X hX => hb1.trans (hX.mono hb1.size));have HRF := hid (Below.refl W1.heap.size W1);obtain ⟨N, hNN⟩ : ∃ N, L.map (fun x => x.name) = N := ⟨_, rfl⟩;obtain ⟨r, hr⟩ : ∃ r, z2h L = r := ⟨_, rfl⟩;obtain ⟨ok, hok⟩ : ∃ z, z56 L = z := ⟨_, rfl⟩;have HR0 := hid (show (decide (0 < n) && (zq (N.take 0) (N.drop 0) && (L.drop 0).all ok)) = r by rw [<- hr, <- hNN, <- hn, List.drop_zero, List.take_zero, List.drop_zero, <- hok, zeu];unfold z2h;rw [Bool.and_assoc])
 have HNL := hid (show N.length = n by rw [<- hNN, List.length_map, hn]);have HNA := hid (show ∀ (i : Nat) (x : MReg), L[i]? = some x -> N[i]? = some x.name from fun i x h => by rw [<- hNN, List.getElem?_map, h]; rfl);rw [hr];have HCE := hid (show ∀ (i : Nat) (x : MReg), L[i]? = some x -> ∃ b o, A = some ⟨b, o, none⟩ /\ (∀ X, Below W1.heap.size W1 X -> X.cell? ⟨b, o + i * 4, none⟩ = some (.string x.name) /\ X.cell? ⟨b, o + i * 4 + 1, none⟩ = some (.int .i64 x.width) /\ X.cell? ⟨b, o + i * 4 + 2, none⟩ = some (.int .i64 x.par) /\ X.cell? ⟨b, o + i * 4 + 3, none⟩ = some (.int .i64 x.low)) /\ (-9223372036854775808 <= x.width /\ x.width <= 9223372036854775807) from fun i x hx => by
  obtain ⟨A', c', e1, _, _, _, hall⟩ := HU.out;obtain ⟨b, o, cs, e2, hb, hcl, hcell, hE⟩ := hall i x hx;obtain ⟨rfl, rfl⟩ : A = A' /\ c = c' := by cases e1; exact ⟨rfl, rfl⟩
  obtain ⟨rfl, _, hwd, _⟩ := hE;refine ⟨b, o, e2, fun X hX => ?_, hwd⟩;have hbw := HGR.out X hX;exact ⟨by rw [hbw.cell hb]; simpa using hcell 0 _ rfl, by rw [hbw.cell hb]; exact hcell 1 _ rfl, by rw [hbw.cell hb]; exact hcell 2 _ rfl, by rw [hbw.cell hb]; exact hcell 3 _ rfl⟩)
 have HOK := hid hok;clear hcs h1 h2 h3 hR hB hU hI hb1 hlt1 hq5 hW1 hn hL hr hNN hok;go_enter Tryz.func77, Tryz.ntmps77
 go_wp2
 rw [<- HW1.out];go_loopw [3] (fun vi wr => ∃ (i : Nat), vi = .int .i64 i /\ i <= n /\ Hid (Below W1.heap.size W1 wr /\ (decide (0 < n) && (zq (N.take i) (N.drop i) && (L.drop i).all ok)) = r)) (fun vi _ => n - (intOf vi).toNat)
 case atStart => exact ⟨0, rfl, Nat.zero_le _, hid ⟨HRF.out, HR0.out⟩⟩
 case round =>
  obtain ⟨i, rfl, hi, HI⟩ := hrel;obtain ⟨hbx, hg⟩ := HI.out;have c3 := HQ3.out _ hbx;have HBX := hid hbx;obtain ⟨wo, rfl⟩ : ∃ z, z = wr := ⟨_, rfl⟩;by_cases hlt : i < n
  ·obtain ⟨x, hx⟩ : ∃ p, L[i]? = some p := ⟨_, List.getElem?_eq_getElem (by rw [HN.out]; exact hlt)⟩;obtain ⟨b, o, e2, hce, hwx⟩ := HCE.out i x hx;subst e2;obtain ⟨p0, p1, p2, p3⟩ := hce _ hbx;rw [z50 (HNA.out i x hx), z1j hx, List.all_cons] at hg;obtain ⟨nm, hnm⟩ : ∃ z, x.name = z := ⟨_, rfl⟩;obtain ⟨wd, hwd⟩ : ∃ z, x.width = z := ⟨_, rfl⟩;obtain ⟨pr, hpr⟩ : ∃ z, x.par = z := ⟨_, rfl⟩;obtain ⟨lo, hlo⟩ : ∃ z, x.low = z := ⟨_, rfl⟩;have HOX := hid (show ok x = (decide (1 <= wd /\ wd <= 64) && (if pr = -1 then decide (lo = 0) else if 0 <= pr /\ pr <= (n : Int) - 1 then (match L[pr.toNat]? with | some y => decide (y.par = -1) && (decide (1 <= y.width /\ y.width <= 64) && (decide (wd < y.width) && decide (0 <= lo /\ lo <= y.width - wd))) | none => false) else false)) by rw [<- HOK.out]; unfold z56; rw [hwd, hpr, hlo, HN.out]);have HNI := hid (show N[i]? = some nm by rw [<- hnm]; exact HNA.out i x hx);rw [hnm] at hg p0;rw [hwd] at p1 hwx;rw [hpr] at p2;rw [hlo] at p3;have hin : (i : Int) < (n : Int) := by omega
   have HLT := hid hlt;have HNM := hid (fun X => z33 nm X);have HIN := hid (fun X => z1d X wd 1 64);have HG := hid hg;obtain ⟨W2, hW2⟩ : ∃ z, z = wo.alloc (.cells #[.string nm, .int .i64 wd, .int .i64 pr, .int .i64 lo] 96) := ⟨_, rfl⟩;have hb2 : Below wo.heap.size wo W2 := by rw [hW2]; exact (Below.refl _ _).alloc (Nat.le_refl _) _
   have hl2 : wo.heap.size < W2.heap.size := by rw [hW2]; simp
   have hblk2 : W2.heap[wo.heap.size]? = some (.cells #[.string nm, .int .i64 wd, .int .i64 pr, .int .i64 lo] 96) := by rw [hW2]; exact heap_alloc_new _ _
   have HB2 := hid (show ∀ X, Below W2.heap.size W2 X -> Below W1.heap.size W1 X from fun X hX => HBX.out.trans ((hb2.trans (hX.mono hb2.size)).mono HBX.out.size));have HC2 := hid (show ∀ X, Below W2.heap.size W2 X -> X.cell? ⟨wo.heap.size, 0, none⟩ = some (.string nm) /\ X.cell? ⟨wo.heap.size, 1, none⟩ = some (.int .i64 wd) /\ X.cell? ⟨wo.heap.size, 2, none⟩ = some (.int .i64 pr) /\ X.cell? ⟨wo.heap.size, 3, none⟩ = some (.int .i64 lo) /\ X.cell? ⟨w.heap.size, 3, none⟩ = some (.slice (some ⟨b, o, none⟩) n c) from fun X hX => by have e1 := (hX.block _ hl2).trans hblk2;exact ⟨zb e1 rfl, zb e1 rfl, zb e1 rfl, zb e1 rfl, HQ3.out _ (HB2.out X hX)⟩)
   have HF2 := hid (Below.refl W2.heap.size W2);obtain ⟨y0, y1, y2, y3, y4⟩ := HC2.out W2 HF2.out;have HW2 := hid hW2;rw [hW2] at y0 y1 y2 y3 y4;obtain ⟨qn, hqn⟩ : ∃ z, z1t nm = z := ⟨_, rfl⟩;obtain ⟨qi, hqi⟩ : ∃ z, decide (1 <= wd /\ wd <= 64) = z := ⟨_, rfl⟩;rw [hqn] at HNM HG;rw [hqi] at HIN HOX;have HQI := hid hqi;clear hg hqn hqi hx hnm hwd hpr hlo HI hbx hlt hce hb2 hl2 hblk2 hW2
   cases qn with
   | false =>
     obtain rfl : false = r := by have := HG.out; simpa using this
     go_wp2_with (go_at_call 76; (with_reducible refine (HNM.out _).mono ?_); rintro e w5 ⟨rfl, hb5⟩; rw [<- HW2.out] at hb5; obtain ⟨z0, z1, z2, z3, z4⟩ := HC2.out _ hb5)
     go_ret
     exact ⟨rfl, HGR.out _ (HB2.out _ hb5)⟩
   | true =>
     cases qi with
     | false =>
       obtain rfl : false = r := by have := HG.out; rw [HOX.out] at this; simpa using this
       go_wp2_with (first
        | (go_at_call 76; (with_reducible refine (HNM.out _).mono ?_); rintro e w5 ⟨rfl, hb5⟩; rw [<- HW2.out] at hb5; obtain ⟨z0, z1, z2, z3, z4⟩ := HC2.out _ hb5)
        | (go_at_call 46; (with_reducible refine (HIN.out _).mono ?_); rintro e w6 ⟨rfl, rfl⟩))
       go_ret
       exact ⟨rfl, HGR.out _ (HB2.out _ hb5)⟩
     | true =>
       go_wp2_with (first
        | (go_at_call 76; (with_reducible refine (HNM.out _).mono ?_); rintro e w5 ⟨rfl, hb5⟩; rw [<- HW2.out] at hb5; obtain ⟨z0, z1, z2, z3, z4⟩ := HC2.out _ hb5)
        | (go_at_call 46; (with_reducible refine (HIN.out _).mono ?_); rintro e w6 ⟨rfl, rfl⟩))
       have HBW := hid hb5;clear z0 z1 z2 z3 z4 hb5 c3 p0 p1 p2 p3 y0 y1 y2 y3 y4;go_loopw [5] (fun vk wq => ∃ (k : Nat), vk = .int .i64 k /\ k <= i /\ Hid (Below W2.heap.size W2 wq /\ ∀ j t, j < k -> N[j]? = some t -> (t.toList == nm.toList) = false)) (fun vk _ => i - (intOf vk).toNat)
       case atStart => exact ⟨0, rfl, Nat.zero_le _, hid ⟨HBW.out, fun j t hj => absurd hj (Nat.not_lt_zero _)⟩⟩
       case round =>
        obtain ⟨k, rfl, hki, HK⟩ := hrel;obtain ⟨hbq, hkk⟩ := HK.out;obtain ⟨z0, z1, z2, z3, z4⟩ := HC2.out _ hbq;by_cases hlk : k < i
        ·obtain ⟨y, hy⟩ : ∃ p, L[k]? = some p := ⟨_, List.getElem?_eq_getElem (by rw [HN.out]; have := HLT.out; omega)⟩;obtain ⟨b', o', e2, hce, _⟩ := HCE.out k y hy;obtain ⟨p0, _, _, _⟩ := hce _ (HB2.out _ hbq);obtain ⟨rfl, rfl⟩ : b = b' /\ o = o' := by cases e2; exact ⟨rfl, rfl⟩
         have hNk := HNA.out k y hy;obtain ⟨yn, hyn⟩ : ∃ z, y.name = z := ⟨_, rfl⟩;rw [hyn] at p0 hNk;have K0 := cell_regrown z0;have K1 := cell_regrown z4;have K3 := cell_regrown p0;have hin2 : (k : Int) < (n : Int) := (by have := HLT.out; omega);have hin3 : (k : Int) < (i : Int) := (by omega);have hk0 : (0 : Int) <= (k : Int) := Int.natCast_nonneg _;have HLK := hid hlk;have HKK := hid hkk;have HNK := hid hNk;have HBQ := hid hbq;obtain ⟨q, hq⟩ : ∃ q, (yn.toList == nm.toList) = q := ⟨_, rfl⟩;have HQQ := hid hq;clear hkk hNk hy hyn e2 HK hbq hce;go_wp2_with fail
         clear z0 z1 z2 z3 z4 p0;refine wp_region_quiet_below (by kernel_rfl) (by kernel_rfl) ?_;repeat (first | go_big_quiet_step (fail) | quiet_step (fail))
         refine wpQuiet_nil ?_;intro G hG;have hbG : Below W2.heap.size W2 G := (by obtain ⟨p, rfl⟩ := hG; exact HBQ.out.trans ((below_regrown wr _ _).mono HBQ.out.size));clear hG K0 K1 K3;have HBG := hid hbG;clear hbG
         cases q with
         | true =>
           obtain rfl : false = r := by have := HG.out; rw [z6g HLK.out HNK.out HQQ.out] at this; simpa using this
           go_wp2
           go_ret
           exact ⟨rfl, HGR.out _ (HB2.out _ HBG.out)⟩
         | false =>
           go_wp2
           go_roundw
           case rel =>
            refine ⟨k + 1, by first | rfl | go_num | (congr 1), by have := HLK.out; omega, hid ⟨HBG.out, fun j t hj ht => ?_⟩⟩;by_cases e : j = k
            ·subst e; rw [HNK.out] at ht; obtain rfl := Option.some.inj ht; exact HQQ.out
            ·exact HKK.out j t (by omega) ht
           case measure => simp only [intOf]; have := HLK.out; omega
        ·obtain rfl : k = i := by omega
         have HBQ := hid hbq;have hwdb := HQI.out;simp only [decide_eq_true_eq] at hwdb;have HG3 := hid (show (decide (0 < n) && ((zq (N.take (k + 1)) (N.drop (k + 1))) && (ok x && (L.drop (k + 1)).all ok))) = r by have := HG.out; rw [z99 hkk] at this; simpa using this);clear hkk HK;by_cases hpm : pr = -1
         ·subst hpm;by_cases hl0 : lo = 0
          ·subst hl0;have HG4 := hid (show (decide (0 < n) && ((zq (N.take (k + 1)) (N.drop (k + 1))) && (L.drop (k + 1)).all ok)) = r by have := HG3.out; rw [HOX.out] at this; simpa using this);clear hbq;go_wp2
           refine ⟨⟨k + 1, by first | rfl | go_num | (congr 1), by have := HLT.out; omega, hid ⟨HB2.out _ HBQ.out, HG4.out⟩⟩, by simp only [intOf]; have := HLT.out; omega⟩
          ·obtain rfl : false = r := by have := HG3.out; rw [HOX.out] at this; simpa [hl0] using this
           have k9 : (lo != 0) = true := (by simp [hl0]);clear hbq;go_wp2
           go_ret
           exact ⟨rfl, HGR.out _ (HB2.out _ HBQ.out)⟩
         ·have k8 : (pr == -1) = false := (by simp [hpm]);have hw9 : wrap64 ((n : Int) - 1) = (n : Int) - 1 := zd _ (by omega) (by omega);have HIP := hid (fun X => z1d X pr 0 ((n : Int) - 1));by_cases hpi : 0 <= pr /\ pr <= (n : Int) - 1
          ·rw [decide_eq_true hpi] at HIP;obtain ⟨pk, rfl⟩ : ∃ pk : Nat, pr = (pk : Int) := ⟨pr.toNat, by omega⟩;obtain ⟨y, hy⟩ : ∃ p, L[pk]? = some p := ⟨_, List.getElem?_eq_getElem (by rw [HN.out]; omega)⟩;obtain ⟨b', o', e2, hce, hwy⟩ := HCE.out pk y hy;obtain ⟨rfl, rfl⟩ : b = b' /\ o = o' := by cases e2; exact ⟨rfl, rfl⟩
           obtain ⟨p0, p1, p2, p3⟩ := hce _ (HB2.out _ hbq);obtain ⟨yp, hyp⟩ : ∃ z, y.par = z := ⟨_, rfl⟩;obtain ⟨yw, hyw⟩ : ∃ z, y.width = z := ⟨_, rfl⟩;have HOY := hid (show ok x = (decide (yp = -1) && (decide (1 <= yw /\ yw <= 64) && (decide (wd < yw) && decide (0 <= lo /\ lo <= yw - wd)))) by rw [HOX.out, if_neg hpm, if_pos hpi, Int.toNat_natCast, hy, <- hyp, <- hyw]; rfl);rw [hyp] at p2;rw [hyw] at p1 hwy;have hpn : (pk : Int) < (n : Int) := (by omega);obtain ⟨yn, hyn⟩ : ∃ z, y.name = z := ⟨_, rfl⟩;obtain ⟨yl, hyl⟩ : ∃ z, y.low = z := ⟨_, rfl⟩;rw [hyn] at p0;rw [hyl] at p3;obtain ⟨W3, hW3⟩ : ∃ z, z = wr.alloc (.cells #[.string yn, .int .i64 yw, .int .i64 yp, .int .i64 yl] 96) := ⟨_, rfl⟩;have hb3 : Below W2.heap.size W2 W3 := (by rw [hW3]; exact hbq.alloc hbq.size _);have hblk3 : W3.heap[wr.heap.size]? = some (.cells #[.string yn, .int .i64 yw, .int .i64 yp, .int .i64 yl] 96) := (by rw [hW3]; exact heap_alloc_new _ _);obtain ⟨x0, x1, x2, x3, x4⟩ := HC2.out W3 hb3;have v1 := zb (i := 1) hblk3 rfl;have v2 := zb (i := 2) hblk3 rfl;have HB3 := hid hb3;rw [hW3] at x0 x1 x2 x3 x4 v1 v2 HB3;have HI2 := hid (fun X => z1d X yw 1 64);have HG3' := hid (show (decide (0 < n) && ((zq (N.take (k + 1)) (N.drop (k + 1))) && ((decide (yp = -1) && (decide (1 <= yw /\ yw <= 64) && (decide (wd < yw) && decide (0 <= lo /\ lo <= yw - wd)))) && (L.drop (k + 1)).all ok))) = r by have := HG3.out; rw [HOY.out] at this; exact this);have hpk0 : (0 : Int) <= (pk : Int) := Int.natCast_nonneg _;clear HG3 HOY HOX hy hce hyp hyw hyn hyl e2 hW3 hb3 hblk3 hbq hwy;by_cases hy1 : yp = -1
           ·subst hy1;by_cases hy2 : 1 <= yw /\ yw <= 64
            ·rw [decide_eq_true hy2] at HI2;by_cases hy3 : wd < yw
             ·have k3 : ¬ yw <= wd := (by omega);have hw8 : wrap64 (yw - wd) = yw - wd := zd _ (by omega) (by omega);have HI4 := hid (fun X => z1d X lo 0 (yw - wd));by_cases hy4 : 0 <= lo /\ lo <= yw - wd
              ·rw [decide_eq_true hy4] at HI4;have HG4 := hid (show (decide (0 < n) && ((zq (N.take (k + 1)) (N.drop (k + 1))) && (L.drop (k + 1)).all ok)) = r by have := HG3'.out; rw [decide_eq_true hy2, decide_eq_true hy3, decide_eq_true hy4] at this; simpa using this)
               go_wp2_with (first
                | (go_at_call 46; (with_reducible refine (HIP.out _).mono ?_); rintro e w6 ⟨rfl, rfl⟩)
                | (go_at_call 46; (with_reducible refine (HI2.out _).mono ?_); rintro e w7 ⟨rfl, rfl⟩)
                | (go_at_call 46; (with_reducible refine (HI4.out _).mono ?_); rintro e w8 ⟨rfl, rfl⟩))
               refine ⟨⟨k + 1, by first | rfl | go_num | (congr 1), by have := HLT.out; omega, hid ⟨HB2.out _ HB3.out, HG4.out⟩⟩, by simp only [intOf]; have := HLT.out; omega⟩
              ·rw [decide_eq_false hy4] at HI4;obtain rfl : false = r := by have := HG3'.out; rw [decide_eq_false hy4] at this; simpa using this
               go_wp2_with (first
                | (go_at_call 46; (with_reducible refine (HIP.out _).mono ?_); rintro e w6 ⟨rfl, rfl⟩)
                | (go_at_call 46; (with_reducible refine (HI2.out _).mono ?_); rintro e w7 ⟨rfl, rfl⟩)
                | (go_at_call 46; (with_reducible refine (HI4.out _).mono ?_); rintro e w8 ⟨rfl, rfl⟩))
               go_ret
               exact ⟨rfl, HGR.out _ (HB2.out _ HB3.out)⟩
             ·have k3 : yw <= wd := (by omega);obtain rfl : false = r := by have := HG3'.out; rw [decide_eq_false hy3] at this; simpa using this
              go_wp2_with (first
               | (go_at_call 46; (with_reducible refine (HIP.out _).mono ?_); rintro e w6 ⟨rfl, rfl⟩)
               | (go_at_call 46; (with_reducible refine (HI2.out _).mono ?_); rintro e w7 ⟨rfl, rfl⟩))
              go_ret
              exact ⟨rfl, HGR.out _ (HB2.out _ HB3.out)⟩
            ·rw [decide_eq_false hy2] at HI2;obtain rfl : false = r := by have := HG3'.out; rw [decide_eq_false hy2] at this; simpa using this
             go_wp2_with (first
              | (go_at_call 46; (with_reducible refine (HIP.out _).mono ?_); rintro e w6 ⟨rfl, rfl⟩)
              | (go_at_call 46; (with_reducible refine (HI2.out _).mono ?_); rintro e w7 ⟨rfl, rfl⟩))
             go_ret
             exact ⟨rfl, HGR.out _ (HB2.out _ HB3.out)⟩
           ·have k7 : (yp != -1) = true := (by simp [hy1]);obtain rfl : false = r := by have := HG3'.out; rw [decide_eq_false hy1] at this; simpa using this
            go_wp2_with (go_at_call 46; (with_reducible refine (HIP.out _).mono ?_); rintro e w6 ⟨rfl, rfl⟩)
            go_ret
            exact ⟨rfl, HGR.out _ (HB2.out _ HB3.out)⟩
          ·rw [decide_eq_false hpi] at HIP;obtain rfl : false = r := by have := HG3.out; rw [HOX.out, if_neg hpm, if_neg hpi] at this; simpa using this
           clear hbq;go_wp2_with (go_at_call 46; (with_reducible refine (HIP.out _).mono ?_); rintro e w6 ⟨rfl, rfl⟩)
           go_ret
           exact ⟨rfl, HGR.out _ (HB2.out _ HBQ.out)⟩
  ·obtain rfl : i = n := by omega
   rw [List.drop_eq_nil_of_le (by rw [HNL.out]; exact Nat.le_refl _), List.drop_eq_nil_of_le (by rw [HN.out]; exact Nat.le_refl _)] at hg;have hr : r = decide (0 < i) := by rw [<- hg]; simp [zq]
   subst hr;clear hg HI HR0;go_wp2
   go_ret
   exact ⟨by simp, HGR.out _ HBX.out⟩
theorem zf1 {R : List MReg} {f : Int} {M : List Int} {k : Nat} {z : Int} (h : M[k]? = some z) : z1n R f (M.take k) (M.drop k) = ((decide (0 <= z /\ z < (R.length : Int)) && (!(decide (z ∈ M.take k)) && decide (zx R z = zx R f))) && z1n R f (M.take (k + 1)) (M.drop (k + 1))) := by
 have ht : M.take (k + 1) = M.take k ++ [z] := by rw [List.take_add_one, h]; rfl
 rw [z1j h, ht];rfl
theorem zdy {N : List Int} {i : Nat} {s : Int} (h : ∀ j t, j < i -> N[j]? = some t -> (t == s) = false) : decide (s ∈ N.take i) = false := by rw [decide_eq_false_iff_not];intro hm;obtain ⟨j, hj, e⟩ := List.getElem_of_mem hm;rw [List.length_take] at hj;rw [List.getElem_take] at e;have := h j s (by omega) (by rw [List.getElem?_eq_getElem (by omega), e]);simp at this
theorem zbx {N : List Int} {i j : Nat} {s t : Int} (hj : j < i) (ht : N[j]? = some t) (h : (t == s) = true) : decide (s ∈ N.take i) = true := by rw [decide_eq_true_eq];obtain rfl := eq_of_beq h;exact List.mem_of_getElem? (i := j) (by rw [List.getElem?_take, if_pos hj, ht])
theorem z9b (w : World) (v : Value) (m : Mach) (hm : zz w v m) (hlen : m.banks.length <= 1000) (hrl : m.regs.length <= 1000) (hbl : ∀ x ∈ m.banks, x.regs.length <= 1000) :
 Calls prog 78 #[v] w fun e w' => e = .returned (.bool (z22 m.regs m.banks)) /\ Below w.heap.size w w' := by
 obtain ⟨cs0, rfl, sr, sb, su, si, hcs, h1, h2, h3, hR, hB, hU, hI⟩ := hm;obtain rfl : cs0 = #[.string m.name, .int .i64 m.word, .int .i64 m.address, sr, sb, su, si] := by cases cs0; simp_all
 have HU := hid hB;have HRR := hid hR;obtain ⟨A, c, rfl, _⟩ := id hB;obtain ⟨Ar, cr, rfl, _⟩ := id hR;obtain ⟨L, hL⟩ : ∃ z, m.banks = z := ⟨_, rfl⟩;obtain ⟨R, hRe⟩ : ∃ z, m.regs = z := ⟨_, rfl⟩;rw [hL] at HU hlen hbl ⊢;rw [hRe] at HRR hrl ⊢;obtain ⟨n, hn⟩ : ∃ z, L.length = z := ⟨_, rfl⟩;obtain ⟨nr, hnr⟩ : ∃ z, R.length = z := ⟨_, rfl⟩;have HN := hid hn;have HNR := hid hnr;rw [hn] at HU hlen;rw [hnr] at HRR hrl;rw [hn, hnr];have hn4 : n <= 9223372036854775807 := by omega
 have hn5 : nr <= 9223372036854775807 := by omega
 obtain ⟨W1, hW1⟩ : ∃ W1, W1 = w.alloc (.cells #[.string m.name, .int .i64 m.word, .int .i64 m.address, .slice Ar nr cr, .slice A n c, su, si] 27) := ⟨_, rfl⟩;have HW1 := hid hW1;have hb1 : Below w.heap.size w W1 := by rw [hW1]; exact (Below.refl _ _).alloc (Nat.le_refl _) _
 have hlt1 : w.heap.size < W1.heap.size := by rw [hW1]; simp
 have hblk1 : W1.heap[w.heap.size]? = some (.cells #[.string m.name, .int .i64 m.word, .int .i64 m.address, .slice Ar nr cr, .slice A n c, su, si] 27) := by rw [hW1]; exact heap_alloc_new _ _
 have HQ3 := hid (show ∀ X, Below W1.heap.size W1 X -> X.cell? ⟨w.heap.size, 3, none⟩ = some (.slice Ar nr cr) /\ X.cell? ⟨w.heap.size, 4, none⟩ = some (.slice A n c) from fun X hX => by have e1 := (hX.block _ hlt1).trans hblk1;exact ⟨zb e1 rfl, zb e1 rfl⟩)
 have HGR := hid (show ∀ X, Below W1.heap.size W1 X -> Below w.heap.size w X from fun X hX => hb1.trans (hX.mono hb1.size));have HRF := hid (Below.refl W1.heap.size W1);obtain ⟨N, hNN⟩ : ∃ N, L.map (fun x => x.name) = N := ⟨_, rfl⟩;obtain ⟨r, hr⟩ : ∃ r, z22 R L = r := ⟨_, rfl⟩;have HR0 := hid (show (zq (N.take 0) (N.drop 0) && (L.drop 0).all (z2i R)) = r by rw [<- hr, <- hNN, List.drop_zero, List.take_zero, List.drop_zero];unfold z22;rfl)
 have HNL := hid (show N.length = n by rw [<- hNN, List.length_map, hn]);have HNA := hid (show ∀ (i : Nat) (x : MBank), L[i]? = some x -> N[i]? = some x.name from fun i x h => by rw [<- hNN, List.getElem?_map, h]; rfl);rw [hr]
 have HCE := hid (show ∀ (i : Nat) (x : MBank), L[i]? = some x -> ∃ b o A' c', A = some ⟨b, o, none⟩ /\ x.regs.length <= 1000 /\ (∀ X, Below W1.heap.size W1 X -> X.cell? ⟨b, o + i * 2, none⟩ = some (.string x.name) /\ X.cell? ⟨b, o + i * 2 + 1, none⟩ = some (.slice A' x.regs.length c')) /\
  ∀ (k : Nat) (z : Int), x.regs[k]? = some z -> ∃ b' o', A' = some ⟨b', o', none⟩ /\ ∀ X, Below W1.heap.size W1 X -> X.cell? ⟨b', o' + k, none⟩ = some (.int .i64 z) from fun i x hx => by
  obtain ⟨A', c', e1, _, _, _, hall⟩ := HU.out;obtain ⟨b, o, cs, e2, hb, hcl, hcell, hE⟩ := hall i x hx;obtain ⟨rfl, rfl⟩ : A = A' /\ c = c' := by cases e1; exact ⟨rfl, rfl⟩
  obtain ⟨sv, rfl, _, hRg⟩ := hE;obtain ⟨A2, c2, rfl, _⟩ := id hRg;refine ⟨b, o, A2, c2, e2, hbl x (List.mem_of_getElem? hx), fun X hX => ?_, fun k z hz => ?_⟩
  ·have hbw := HGR.out X hX;exact ⟨by rw [hbw.cell hb]; simpa using hcell 0 _ rfl, by rw [hbw.cell hb]; exact hcell 1 _ rfl⟩
  ·obtain ⟨A3, c3, e3, _, _, _, hall2⟩ := hRg;obtain ⟨b', o', cs', e4, hb', hcl', hcell', hE'⟩ := hall2 k z hz;obtain ⟨rfl, rfl⟩ : A2 = A3 /\ c2 = c3 := by cases e3; exact ⟨rfl, rfl⟩
   obtain ⟨rfl, _⟩ := hE';exact ⟨b', o', e4, fun X hX => by rw [(HGR.out X hX).cell hb']; simpa using hcell' 0 _ rfl⟩)
 have HCR := hid (show ∀ (z : Int), 0 <= z /\ z < (nr : Int) -> ∃ b o, Ar = some ⟨b, o, none⟩ /\ ∀ X, Below W1.heap.size W1 X -> X.cell? ⟨b, o + z.toNat * 4 + 1, none⟩ = some (.int .i64 (zx R z)) from fun z hz => by
  obtain ⟨A', c', e1, _, _, _, hall⟩ := HRR.out;obtain ⟨y, hy⟩ : ∃ y, R[z.toNat]? = some y := ⟨_, List.getElem?_eq_getElem (by rw [HNR.out]; omega)⟩;obtain ⟨b, o, cs, e2, hb, hcl, hcell, hE⟩ := hall z.toNat y hy;obtain ⟨rfl, rfl⟩ : Ar = A' /\ cr = c' := by cases e1; exact ⟨rfl, rfl⟩
  obtain ⟨rfl, _⟩ := hE;refine ⟨b, o, e2, fun X hX => ?_⟩;have hw : zx R z = y.width := by unfold zx; rw [hy]
  rw [(HGR.out X hX).cell hb, hw];exact hcell 1 _ rfl)
 clear hcs h1 h2 h3 hR hB hU hI hb1 hlt1 hblk1 hW1 hn hL hr hNN hnr hRe hbl;go_enter Tryz.func78, Tryz.ntmps78
 go_wp2
 rw [<- HW1.out];go_loopw [3] (fun vi wr => ∃ (i : Nat), vi = .int .i64 i /\ i <= n /\ Hid (Below W1.heap.size W1 wr /\ (zq (N.take i) (N.drop i) && (L.drop i).all (z2i R)) = r)) (fun vi _ => n - (intOf vi).toNat)
 case atStart => exact ⟨0, rfl, Nat.zero_le _, hid ⟨HRF.out, HR0.out⟩⟩
 case round =>
  obtain ⟨i, rfl, hi, HI⟩ := hrel;obtain ⟨hbx, hg⟩ := HI.out;obtain ⟨c3, c4⟩ := HQ3.out _ hbx;have HBX := hid hbx;obtain ⟨wo, rfl⟩ : ∃ z, z = wr := ⟨_, rfl⟩;by_cases hlt : i < n
  ·obtain ⟨x, hx⟩ : ∃ p, L[i]? = some p := ⟨_, List.getElem?_eq_getElem (by rw [HN.out]; exact hlt)⟩;obtain ⟨b, o, Am, cm, e2, hml, hce, hme⟩ := HCE.out i x hx;subst e2;obtain ⟨p0, p1⟩ := hce _ hbx;rw [z50 (HNA.out i x hx), z1j hx, List.all_cons] at hg;obtain ⟨nm, hnm⟩ : ∃ z, x.name = z := ⟨_, rfl⟩;obtain ⟨M, hM⟩ : ∃ z, x.regs = z := ⟨_, rfl⟩;obtain ⟨mn, hmn⟩ : ∃ z, M.length = z := ⟨_, rfl⟩;have HNI := hid (show N[i]? = some nm by rw [<- hnm]; exact HNA.out i x hx);rw [show z2i R x = (decide (0 < mn) && z1n R (M.headD 0) (M.take 0) (M.drop 0)) by unfold z2i z7d; rw [hM, hmn]; rfl] at hg;rw [hnm] at hg p0;rw [hM] at hml p1 hme;rw [hmn] at hml p1;have hin : (i : Int) < (n : Int) := by omega
   have hm4 : mn <= 9223372036854775807 := by omega
   have HLT := hid hlt;have HNM := hid (fun X => z33 nm X);have HME := hid hme;have HMN := hid hmn;have HG := hid hg;obtain ⟨W2, hW2⟩ : ∃ z, z = wo.alloc (.cells #[.string nm, .slice Am mn cm] 79) := ⟨_, rfl⟩;have hb2 : Below wo.heap.size wo W2 := by rw [hW2]; exact (Below.refl _ _).alloc (Nat.le_refl _) _
   have hl2 : wo.heap.size < W2.heap.size := by rw [hW2]; simp
   have hblk2 : W2.heap[wo.heap.size]? = some (.cells #[.string nm, .slice Am mn cm] 79) := by rw [hW2]; exact heap_alloc_new _ _
   have HB2 := hid (show ∀ X, Below W2.heap.size W2 X -> Below W1.heap.size W1 X from fun X hX => HBX.out.trans ((hb2.trans (hX.mono hb2.size)).mono HBX.out.size));have HC2 := hid (show ∀ X, Below W2.heap.size W2 X -> X.cell? ⟨wo.heap.size, 0, none⟩ = some (.string nm) /\ X.cell? ⟨wo.heap.size, 1, none⟩ = some (.slice Am mn cm) /\ X.cell? ⟨w.heap.size, 3, none⟩ = some (.slice Ar nr cr) /\ X.cell? ⟨w.heap.size, 4, none⟩ = some (.slice (some ⟨b, o, none⟩) n c) from fun X hX => by have e1 := (hX.block _ hl2).trans hblk2;exact ⟨zb e1 rfl, zb e1 rfl, (HQ3.out _ (HB2.out X hX)).1, (HQ3.out _ (HB2.out X hX)).2⟩)
   have HF2 := hid (Below.refl W2.heap.size W2);obtain ⟨y0, y1, y2, y3⟩ := HC2.out W2 HF2.out;have HW2 := hid hW2;rw [hW2] at y0 y1 y2 y3;obtain ⟨qn, hqn⟩ : ∃ z, z1t nm = z := ⟨_, rfl⟩;rw [hqn] at HNM HG;clear hg hqn hx hnm hM hmn HI hbx hlt hce hb2 hl2 hblk2 hW2 hme
   cases qn with
   | false =>
     obtain rfl : false = r := by have := HG.out; simpa using this
     go_wp2_with (go_at_call 76; (with_reducible refine (HNM.out _).mono ?_); rintro e w5 ⟨rfl, hb5⟩; rw [<- HW2.out] at hb5; obtain ⟨z0, z1, z2, z3⟩ := HC2.out _ hb5)
     go_ret
     exact ⟨rfl, HGR.out _ (HB2.out _ hb5)⟩
   | true =>
     by_cases hm0 : mn = 0
     ·subst hm0;obtain rfl : false = r := by have := HG.out; simpa using this
      go_wp2_with (go_at_call 76; (with_reducible refine (HNM.out _).mono ?_); rintro e w5 ⟨rfl, hb5⟩; rw [<- HW2.out] at hb5; obtain ⟨z0, z1, z2, z3⟩ := HC2.out _ hb5)
      go_ret
      exact ⟨rfl, HGR.out _ (HB2.out _ hb5)⟩
     ·have hmz : ¬ (mn : Int) = 0 := (by omega);have hmq : ((mn : Int) == 0) = false := (by simp [hm0]);go_wp2_with (go_at_call 76; (with_reducible refine (HNM.out _).mono ?_); rintro e w5 ⟨rfl, hb5⟩; rw [<- HW2.out] at hb5; obtain ⟨z0, z1, z2, z3⟩ := HC2.out _ hb5)
      have HBW := hid hb5;clear z0 z1 z2 z3 hb5 c3 c4 p0 p1 y0 y1 y2 y3;go_loopw [5] (fun vk wq => ∃ (k : Nat), vk = .int .i64 k /\ k <= i /\ Hid (Below W2.heap.size W2 wq /\ ∀ j t, j < k -> N[j]? = some t -> (t.toList == nm.toList) = false)) (fun vk _ => i - (intOf vk).toNat)
      case atStart => exact ⟨0, rfl, Nat.zero_le _, hid ⟨HBW.out, fun j t hj => absurd hj (Nat.not_lt_zero _)⟩⟩
      case round =>
       obtain ⟨k, rfl, hki, HK⟩ := hrel;obtain ⟨hbq, hkk⟩ := HK.out;obtain ⟨z0, z1, z2, z3⟩ := HC2.out _ hbq;by_cases hlk : k < i
       ·obtain ⟨y, hy⟩ : ∃ p, L[k]? = some p := ⟨_, List.getElem?_eq_getElem (by rw [HN.out]; have := HLT.out; omega)⟩;obtain ⟨b', o', _, _, e2, _, hce, _⟩ := HCE.out k y hy;obtain ⟨p0, _⟩ := hce _ (HB2.out _ hbq);obtain ⟨rfl, rfl⟩ : b = b' /\ o = o' := by cases e2; exact ⟨rfl, rfl⟩
        have hNk := HNA.out k y hy;obtain ⟨yn, hyn⟩ : ∃ z, y.name = z := ⟨_, rfl⟩;rw [hyn] at p0 hNk;have K0 := cell_regrown z0;have K1 := cell_regrown z3;have K3 := cell_regrown p0;have hin2 : (k : Int) < (n : Int) := (by have := HLT.out; omega);have hin3 : (k : Int) < (i : Int) := (by omega);have hk0 : (0 : Int) <= (k : Int) := Int.natCast_nonneg _;have HLK := hid hlk;have HKK := hid hkk;have HNK := hid hNk;have HBQ := hid hbq;obtain ⟨q, hq⟩ : ∃ q, (yn.toList == nm.toList) = q := ⟨_, rfl⟩;have HQQ := hid hq;clear hkk hNk hy hyn e2 HK hbq hce;go_wp2_with fail
        clear z0 z1 z2 z3 p0;refine wp_region_quiet_below (by kernel_rfl) (by kernel_rfl) ?_;repeat (first | go_big_quiet_step (fail) | quiet_step (fail))
        refine wpQuiet_nil ?_;intro G hG;have hbG : Below W2.heap.size W2 G := (by obtain ⟨p, rfl⟩ := hG; exact HBQ.out.trans ((below_regrown wr _ _).mono HBQ.out.size));clear hG K0 K1 K3;have HBG := hid hbG;clear hbG
        cases q with
        | true =>
          obtain rfl : false = r := by have := HG.out; rw [z6g HLK.out HNK.out HQQ.out] at this; simpa using this
          go_wp2
          go_ret
          exact ⟨rfl, HGR.out _ (HB2.out _ HBG.out)⟩
        | false =>
          go_wp2
          go_roundw
          case rel =>
           refine ⟨k + 1, by first | rfl | go_num | (congr 1), by have := HLK.out; omega, hid ⟨HBG.out, fun j t hj ht => ?_⟩⟩;by_cases e : j = k
           ·subst e; rw [HNK.out] at ht; obtain rfl := Option.some.inj ht; exact HQQ.out
           ·exact HKK.out j t (by omega) ht
          case measure => simp only [intOf]; have := HLK.out; omega
       ·obtain rfl : k = i := by omega
        have HBQ := hid hbq;obtain ⟨rest, hrest⟩ : ∃ z, (zq (N.take (k + 1)) (N.drop (k + 1)) && (L.drop (k + 1)).all (z2i R)) = z := ⟨_, rfl⟩;obtain ⟨f, hf⟩ : ∃ z, M.headD 0 = z := ⟨_, rfl⟩;have hf0 : M[0]? = some f := by
         rw [<- hf]
         cases hMM : M with
         | nil => have := HMN.out; rw [hMM] at this; simp at this; omega
         | cons a l => rfl
        have HF0 := hid hf0;have HRE := hid hrest;have HG3 := hid (show (z1n R f (M.take 0) (M.drop 0) && rest) = r by have := HG.out;rw [z99 hkk, hf, decide_eq_true (show 0 < mn by omega)] at this;rw [<- this, <- hrest];cases z1n R f (M.take 0) (M.drop 0) <;> simp)
        clear hkk HK hf hf0 hrest hbq z0 z1 z2 z3 HG;go_wp2
        go_loopw [6] (fun vk wq => ∃ (k : Nat), vk = .int .i64 k /\ k <= mn /\ Hid (Below W2.heap.size W2 wq /\ (z1n R f (M.take k) (M.drop k) && rest) = r /\ (0 < k -> 0 <= f /\ f < (nr : Int)))) (fun vk _ => mn - (intOf vk).toNat)
        case atStart => exact ⟨0, rfl, Nat.zero_le _, hid ⟨HBQ.out, HG3.out, fun h => absurd h (Nat.lt_irrefl _)⟩⟩
        case round =>
         obtain ⟨j, rfl, hjm, HK⟩ := hrel;obtain ⟨hbq, hg, hf⟩ := HK.out;obtain ⟨z0, z1, z2, z3⟩ := HC2.out _ hbq;have HBM := hid hbq;obtain ⟨wm, rfl⟩ : ∃ z, z = wr := ⟨_, rfl⟩;by_cases hlj : j < mn
         ·obtain ⟨z, hz⟩ : ∃ p, M[j]? = some p := ⟨_, List.getElem?_eq_getElem (by rw [HMN.out]; exact hlj)⟩;obtain ⟨bm, om, e5, hzc⟩ := HME.out j z hz;subst e5;have p5 := hzc _ (HB2.out _ hbq);rw [zf1 hz, HNR.out] at hg;have HZ := hid hz;have HZC := hid hzc;have HG5 := hid hg;have HF5 := hid hf;have HLJ := hid hlj;have K0 := cell_regrown z1;have K1 := cell_regrown z2;have K3 := cell_regrown p5;have hj0 : (0 : Int) <= (j : Int) := Int.natCast_nonneg _;have hj1 : (j : Int) < (mn : Int) := (by omega);have hw9 : wrap64 ((nr : Int) - 1) = (nr : Int) - 1 := zd _ (by omega) (by omega);obtain ⟨qz, hqz⟩ : ∃ q, decide (0 <= z /\ z <= (nr : Int) - 1) = q := ⟨_, rfl⟩;have HQZ := hid hqz;have II := hid (show ∀ d os, Calls prog 46 #[.int .i64 z, .int .i64 0, .int .i64 ((nr : Int) - 1)] (grow (redrawn wm d) os) fun e w'' => e = .returned (.bool qz) /\ ∃ p : Regrown, w'' = grow (redrawn wm p.d) p.os from fun d os => by
           rw [<- hqz];exact zh ((z1d _ z 0 ((nr : Int) - 1)).mono fun e w' ⟨h1, h2⟩ => ⟨h1, h2.symm⟩))
          clear hz hzc hg hf hlj HK hbq hqz;go_wp2_with fail
          clear z0 z1 z2 z3 p5;refine wp_region_quiet_below (by kernel_rfl) (by kernel_rfl) ?_;repeat (first | go_big_quiet_step (with_reducible exact II.out _ _) | quiet_step (with_reducible exact II.out _ _))
          refine wpQuiet_nil ?_;intro G hG;have hbG : Below W2.heap.size W2 G := (by obtain ⟨p, rfl⟩ := hG; exact HBM.out.trans ((below_regrown wm _ _).mono HBM.out.size));clear hG K0 K1 K3;have HBG := hid hbG
          cases qz with
          | false =>
            have hqz := HQZ.out;obtain rfl : false = r := by have := HG5.out;rw [decide_eq_false (show ¬ (0 <= z /\ z < (nr : Int)) by intro h; rw [decide_eq_true (show 0 <= z /\ z <= (nr : Int) - 1 by omega)] at hqz; cases hqz)] at this;simpa using this
            clear hbG hqz;go_wp2
            go_ret
            exact ⟨rfl, HGR.out _ (HB2.out _ HBG.out)⟩
          | true =>
            have hqz : 0 <= z /\ z <= (nr : Int) - 1 := of_decide_eq_true HQZ.out;have HG6 := hid (show (((!(decide (z ∈ M.take j)) && decide (zx R z = zx R f))) && z1n R f (M.take (j + 1)) (M.drop (j + 1)) && rest) = r by have := HG5.out;rw [decide_eq_true (show 0 <= z /\ z < (nr : Int) by omega), Bool.true_and] at this;exact this)
            have hff : 0 <= f /\ f < (nr : Int) := by
             rcases Nat.eq_zero_or_pos j with h | h
             ·subst h;have e := HZ.out;rw [HF0.out] at e;obtain rfl := Option.some.inj e;omega
             ·exact HF5.out h
            obtain ⟨zk, rfl⟩ : ∃ zk : Nat, z = (zk : Int) := ⟨z.toNat, by omega⟩;obtain ⟨fk, rfl⟩ : ∃ fk : Nat, f = (fk : Int) := ⟨f.toNat, by omega⟩;obtain ⟨br, or', e6, hzw⟩ := HCR.out (zk : Int) (by omega);obtain ⟨br', or2, e7, hfw⟩ := HCR.out (fk : Int) (by omega);obtain ⟨rfl, rfl⟩ : br = br' /\ or' = or2 := by rw [e6] at e7; cases e7; exact ⟨rfl, rfl⟩
            subst e6;obtain ⟨bm', om', e8, hfc⟩ := HME.out 0 (fk : Int) HF0.out;obtain ⟨rfl, rfl⟩ : bm = bm' /\ om = om' := by cases e8; exact ⟨rfl, rfl⟩
            rw [Int.toNat_natCast] at hzw hfw;obtain ⟨yw, hyw⟩ : ∃ q, zx R (zk : Int) = q := ⟨_, rfl⟩;obtain ⟨fw, hfw2⟩ : ∃ q, zx R (fk : Int) = q := ⟨_, rfl⟩;have HG7 := hid (show (((!(decide ((zk : Int) ∈ M.take j)) && decide (yw = fw))) && z1n R (fk : Int) (M.take (j + 1)) (M.drop (j + 1)) && rest) = r by rw [<- hyw, <- hfw2]; exact HG6.out);rw [hyw] at hzw;rw [hfw2] at hfw;have HZW := hid hzw;have HFW := hid hfw;have HFC := hid hfc;have HZN := hid (show (zk : Int) < (nr : Int) /\ (fk : Int) < (nr : Int) by omega);clear e7 e8 hzw hfw hfc hyw hfw2 HG5 HG6 HQZ hqz hff II hbG hw9;go_wp2
            go_loopw [7] (fun vk wq => ∃ (k : Nat), vk = .int .i64 k /\ k <= j /\ Hid (Below W2.heap.size W2 wq /\ ∀ a t, a < k -> M[a]? = some t -> (t == (zk : Int)) = false)) (fun vk _ => j - (intOf vk).toNat)
            case atStart => exact ⟨0, rfl, Nat.zero_le _, hid ⟨HBG.out, fun a t hj => absurd hj (Nat.not_lt_zero _)⟩⟩
            case round =>
             obtain ⟨l, rfl, hlj2, HK⟩ := hrel;obtain ⟨hbq, hkk⟩ := HK.out;obtain ⟨z0, z1, z2, z3⟩ := HC2.out _ hbq;have p5 := HZC.out _ (HB2.out _ hbq);have HBQ2 := hid hbq;have hj0 : (0 : Int) <= (j : Int) := Int.natCast_nonneg _;have hj1 : (j : Int) < (mn : Int) := (by have := HLJ.out; omega);by_cases hll : l < j
             ·obtain ⟨t, ht⟩ : ∃ p, M[l]? = some p := ⟨_, List.getElem?_eq_getElem (by rw [HMN.out]; have := HLJ.out; omega)⟩;obtain ⟨bm', om', e8, htc⟩ := HME.out l t ht;obtain ⟨rfl, rfl⟩ : bm = bm' /\ om = om' := by cases e8; exact ⟨rfl, rfl⟩
              have p6 := htc _ (HB2.out _ hbq);have K0 := cell_regrown z1;have K1 := cell_regrown p5;have K3 := cell_regrown p6;have hl0 : (0 : Int) <= (l : Int) := Int.natCast_nonneg _;have hl1 : (l : Int) < (mn : Int) := (by have := HLJ.out; omega);have hl2 : (l : Int) < (j : Int) := (by omega);obtain ⟨q, hq⟩ : ∃ q, (t == (zk : Int)) = q := ⟨_, rfl⟩;have HQQ := hid hq;have HKK := hid hkk;have HT := hid ht;have HLL := hid hll;clear hkk ht e8 htc HK hbq hll;go_wp2_with fail
              clear z0 z1 z2 z3 p5 p6;refine wp_region_quiet_below (by kernel_rfl) (by kernel_rfl) ?_;repeat (first | go_big_quiet_step (fail) | quiet_step (fail))
              refine wpQuiet_nil ?_;intro G2 hG;have hbG : Below W2.heap.size W2 G2 := (by obtain ⟨p, rfl⟩ := hG; exact HBQ2.out.trans ((below_regrown wr _ _).mono HBQ2.out.size));clear hG K0 K1 K3;have HBG2 := hid hbG;clear hbG
              cases q with
              | true =>
                obtain rfl : false = r := by have := HG7.out; rw [zbx HLL.out HT.out HQQ.out] at this; simpa using this
                go_wp2
                go_ret
                exact ⟨rfl, HGR.out _ (HB2.out _ HBG2.out)⟩
              | false =>
                go_wp2
                go_roundw
                case rel =>
                 refine ⟨l + 1, by first | rfl | go_num | (congr 1), by have := HLL.out; omega, hid ⟨HBG2.out, fun a t' ha ht => ?_⟩⟩;by_cases e : a = l
                 ·subst e; rw [HT.out] at ht; obtain rfl := Option.some.inj ht; exact HQQ.out
                 ·exact HKK.out a t' (by omega) ht
                case measure => simp only [intOf]; have := HLL.out; omega
             ·obtain rfl : l = j := by omega
              have HG8 := hid (show (decide (yw = fw) && (z1n R (fk : Int) (M.take (l + 1)) (M.drop (l + 1)) && rest)) = r by have := HG7.out; rw [zdy hkk] at this; simpa [Bool.and_assoc] using this);have x1 := HZW.out _ (HB2.out _ hbq);have x2 := HFW.out _ (HB2.out _ hbq);have x3 : wr.cell? ⟨bm, om, none⟩ = some (.int .i64 (fk : Int)) := HFC.out _ (HB2.out _ hbq);obtain ⟨hz1, hf1⟩ := HZN.out;have hz0 : (0 : Int) <= (zk : Int) := Int.natCast_nonneg _;have hf0 : (0 : Int) <= (fk : Int) := Int.natCast_nonneg _;have hm1 : (0 : Int) < (mn : Int) := (by omega);have K0 := cell_regrown z1;have K1 := cell_regrown z2;have K3 := cell_regrown p5;have K4 := cell_regrown x1;have K5 := cell_regrown x2;have K6 := cell_regrown x3;obtain ⟨q, hq⟩ : ∃ q, (yw != fw) = q := ⟨_, rfl⟩;have HQQ := hid hq;clear hkk HK hbq HG7;go_wp2_with fail
              clear z0 z1 z2 z3 p5 x1 x2 x3;refine wp_region_quiet_below (by kernel_rfl) (by kernel_rfl) ?_;repeat (first | go_big_quiet_step (fail) | quiet_step (fail))
              refine wpQuiet_nil ?_;intro G2 hG;have hbG : Below W2.heap.size W2 G2 := (by obtain ⟨p, rfl⟩ := hG; exact HBQ2.out.trans ((below_regrown wr _ _).mono HBQ2.out.size));clear hG K0 K1 K3 K4 K5 K6;have HBG2 := hid hbG;clear hbG
              cases q with
              | true =>
                obtain rfl : false = r := by have h9 := HQQ.out;have := HG8.out;rw [decide_eq_false (show ¬ yw = fw from fun e => by subst e; simp at h9)] at this;simpa using this
                go_wp2
                go_ret
                exact ⟨rfl, HGR.out _ (HB2.out _ HBG2.out)⟩
              | false =>
                have HG9 := hid (show (z1n R (fk : Int) (M.take (l + 1)) (M.drop (l + 1)) && rest) = r by have h9 := HQQ.out;have := HG8.out;rw [decide_eq_true (show yw = fw by simpa using h9), Bool.true_and] at this;exact this)
                go_wp2
                refine ⟨⟨l + 1, by first | rfl | go_num | (congr 1), by have := HLJ.out; omega, hid ⟨HBG2.out, HG9.out, fun _ => by have := HZN.out; omega⟩⟩, by simp only [intOf]; have := HLJ.out; omega⟩
         ·obtain rfl : j = mn := by omega
          rw [List.drop_eq_nil_of_le (by rw [HMN.out]; exact Nat.le_refl _)] at hg;have HGZ := hid (show (zq (N.take (k + 1)) (N.drop (k + 1)) && (L.drop (k + 1)).all (z2i R)) = r by rw [HRE.out, <- hg]; simp [z1n]);clear hg hf HK hbq;go_wp2
          refine ⟨⟨k + 1, by first | rfl | go_num | (congr 1), by have := HLT.out; omega, hid ⟨HB2.out _ HBM.out, HGZ.out⟩⟩, by simp only [intOf]; have := HLT.out; omega⟩
  ·obtain rfl : i = n := by omega
   rw [List.drop_eq_nil_of_le (by rw [HNL.out]; exact Nat.le_refl _), List.drop_eq_nil_of_le (by rw [HN.out]; exact Nat.le_refl _)] at hg;obtain rfl : r = true := by rw [<- hg]; simp [zq]
   clear hg HI HR0;go_wp2
   go_ret
   exact ⟨rfl, HGR.out _ HBX.out⟩
end Go.Proofs.YtdmadnfadgggcaaGreatDoor
