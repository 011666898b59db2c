import Derived.Test.YtdmadnfadgggcaaGreatDoorPi
set_option linter.unusedVariables false
set_option linter.unusedSimpArgs false
set_option warningAsError false
set_option maxHeartbeats 8000000
open Go.Lib (hid)
open Go.Proofs.Tryz (prog)
namespace Go.Proofs.YtdmadnfadgggcaaGreatDoor
open Go.RowKit Go.Instr Go.Sort
set_option maxRecDepth 100000
def inP (b : Int) (p : MPiece) : Bool := decide (p.pos <= b /\ b <= p.pos + p.len - 1)
def cntP (b : Int) (L : List MPiece) : Nat := L.countP (inP b)
def cntO (b : Int) (O : List MOper) : Nat := (O.map fun o => cntP b o.pieces).sum
def z4u (word : Int) (mask : Nat) (O : List MOper) : Bool := (List.range (8 * word).toNat).all fun b => decide (mask / 2 ^ b % 2 + cntO (b : Int) O <= 1)
theorem zd6 {b : Int} {L : List MPiece} {i : Nat} {p : MPiece} (h : L[i]? = some p) : cntP b (L.drop i) = (if inP b p then 1 else 0) + cntP b (L.drop (i + 1)) := by unfold cntP;rw [z1j h, List.countP_cons];omega
theorem zd4 {b : Int} {L : List MOper} {i : Nat} {p : MOper} (h : L[i]? = some p) : cntO b (L.drop i) = cntP b p.pieces + cntO b (L.drop (i + 1)) := by unfold cntO;rw [z1j h, List.map_cons, List.sum_cons]
theorem zgq (b : Int) (L : List MPiece) : cntP b L <= L.length := List.countP_le_length
theorem zd5 (b : Int) : ∀ (O : List MOper), (∀ o ∈ O, o.pieces.length <= 1000) -> cntO b O <= O.length * 1000
 | [], _ => by simp [cntO]
 | o :: O, h => by have ih := zd5 b O fun x hx => h x (by simp [hx]);have h1 := zgq b o.pieces;have h2 := h o (by simp);unfold cntO at ih ⊢;rw [List.map_cons, List.sum_cons, List.length_cons];omega
theorem zbh (w : World) (v : Value) (m : Mach) (hm : zz w v m) (hw : 1 <= m.word /\ m.word <= 4) (x : MIns) (cs : List Value) (hE : insE w cs x) (hol : x.opers.length <= 1000) (hpl : ∀ o ∈ x.opers, o.pieces.length <= 1000) (hpo : ∀ o ∈ x.opers, o.pieces.all (zv m.word) = true) :
 Calls prog 101 #[v, .agg cs.toArray] w fun e w' => e = .returned (.bool (z4u m.word x.mask x.opers)) /\ Below w.heap.size w w' := by
 obtain ⟨cs0, rfl, sr, sb, su, si, hcs, h1, h2, h3, hR, hB, hU, hI⟩ := hm;obtain rfl : cs0 = #[.string m.name, .int .i64 m.word, .int .i64 m.address, sr, sb, su, si] := by cases cs0; simp_all
 obtain ⟨so, se, rfl, _, hmk, _, hO, hEf, _⟩ := hE;have HO := hid hO;obtain ⟨A, c, rfl, _⟩ := id hO;obtain ⟨L, hL⟩ : ∃ z, x.opers = z := ⟨_, rfl⟩;rw [hL] at HO hol hpl hpo ⊢;obtain ⟨n, hn⟩ : ∃ z, L.length = z := ⟨_, rfl⟩;have HN := hid hn;rw [hn] at HO hol;rw [hn];have hn4 : n <= 9223372036854775807 := by omega
 obtain ⟨mk, hmk2⟩ : ∃ z, x.mask = z := ⟨_, rfl⟩;obtain ⟨wd, hwd⟩ : ∃ z, m.word = z := ⟨_, rfl⟩;rw [hmk2] at hmk ⊢;rw [hwd] at hw hpo ⊢;obtain ⟨W1, hW1⟩ : ∃ W1, W1 = (w.alloc (.cells #[.string m.name, .int .i64 wd, .int .i64 m.address, sr, sb, su, si] 27)).alloc (.cells #[.string x.name, .int .u64 (mk : Nat), .int .u64 (x.mtch : Nat), .slice A n c, se, .int .i64 x.unit, .int .i64 x.busy, .int .i64 x.lat, .int .i64 x.slots] 83) := ⟨_, rfl⟩;have HW1 := hid hW1;have hb1 : Below w.heap.size w W1 := by rw [hW1]; exact ((Below.refl _ _).alloc (Nat.le_refl _) _).alloc (by simp) _
 have hs1 : W1.heap.size = w.heap.size + 2 := by rw [hW1]; simp
 have hblk1 : W1.heap[w.heap.size]? = some (.cells #[.string m.name, .int .i64 wd, .int .i64 m.address, sr, sb, su, si] 27) := by rw [hW1, Below.heap_alloc _ _ _ (by simp)]; exact heap_alloc_new _ _
 have hblk2 : W1.heap[w.heap.size + 1]? = some (.cells #[.string x.name, .int .u64 (mk : Nat), .int .u64 (x.mtch : Nat), .slice A n c, se, .int .i64 x.unit, .int .i64 x.busy, .int .i64 x.lat, .int .i64 x.slots] 83) := by rw [hW1];have := heap_alloc_new (w.alloc (.cells #[.string m.name, .int .i64 wd, .int .i64 m.address, sr, sb, su, si] 27)) (.cells #[.string x.name, .int .u64 (mk : Nat), .int .u64 (x.mtch : Nat), .slice A n c, se, .int .i64 x.unit, .int .i64 x.busy, .int .i64 x.lat, .int .i64 x.slots] 83);simpa using this
 have HQ := hid (show ∀ X, Below W1.heap.size W1 X -> X.cell? ⟨w.heap.size, 1, none⟩ = some (.int .i64 wd) /\ X.cell? ⟨w.heap.size + 1, 1, none⟩ = some (.int .u64 (mk : Nat)) /\ X.cell? ⟨w.heap.size + 1, 3, none⟩ = some (.slice A n c) from fun X hX => by have e1 := (hX.block _ (by omega)).trans hblk1;have e2 := (hX.block _ (by omega)).trans hblk2;exact ⟨zb e1 rfl, zb e2 rfl, zb e2 rfl⟩)
 have HGR := hid (show ∀ X, Below W1.heap.size W1 X -> Below w.heap.size w X from fun X hX => hb1.trans (hX.mono hb1.size));have HRF := hid (Below.refl W1.heap.size W1);obtain ⟨r, hr⟩ : ∃ r, z4u wd mk L = r := ⟨_, rfl⟩;obtain ⟨bn, hbn⟩ : ∃ z, (8 * wd).toNat = z := ⟨_, rfl⟩;obtain ⟨ok, hok⟩ : ∃ ok, ok = fun b : Nat => decide (mk / 2 ^ b % 2 + cntO (b : Int) L <= 1) := ⟨_, rfl⟩;have HOK := hid (show ∀ b, ok b = decide (mk / 2 ^ b % 2 + cntO (b : Int) L <= 1) from fun b => by rw [hok]);have HR0 := hid (show (List.range bn).all ok = r by rw [<- hr, hok, <- hbn]; rfl);rw [hr];have HCN := hid (show ∀ b, cntO b L <= 1000000 from fun b => Nat.le_trans (zd5 b L hpl) (by have := HN.out; omega))
 have HCE := hid (show ∀ (i : Nat) (y : MOper), L[i]? = some y -> ∃ b o A3 c3, A = some ⟨b, o, none⟩ /\ y.pieces.length <= 1000 /\ (∀ X, Below W1.heap.size W1 X -> X.cell? ⟨b, o + i * 6 + 4, none⟩ = some (.slice A3 y.pieces.length c3)) /\
  ∀ (k : Nat) (p : MPiece), y.pieces[k]? = some p -> (1 <= p.len /\ p.len <= 32 /\ 0 <= p.pos /\ p.pos <= 32) /\ ∃ b' o', A3 = some ⟨b', o', none⟩ /\ ∀ X, Below W1.heap.size W1 X -> X.cell? ⟨b', o' + k * 2, none⟩ = some (.int .i64 p.pos) /\ X.cell? ⟨b', o' + k * 2 + 1, none⟩ = some (.int .i64 p.len) from fun i y hy => by
  obtain ⟨A', c', e1, _, _, _, hall⟩ := HO.out;obtain ⟨b, o, cs, e2, hb, hcl, hcell, sv, rfl, _, _, _, _, hP, _⟩ := hall i y hy;obtain ⟨rfl, rfl⟩ : A = A' /\ c = c' := by cases e1; exact ⟨rfl, rfl⟩
  obtain ⟨A3, c3, rfl, _⟩ := id hP;refine ⟨b, o, A3, c3, e2, hpl y (List.mem_of_getElem? hy), fun X hX => by rw [(HGR.out X hX).cell hb]; exact hcell 4 _ rfl, fun k p hp => ?_⟩;obtain ⟨A9, c9, e9, _, _, _, hall2⟩ := hP;obtain ⟨b', o', cs', e3, hb', hcl', hcell', hE'⟩ := hall2 k p hp;obtain ⟨rfl, rfl⟩ : A3 = A9 /\ c3 = c9 := by cases e9; exact ⟨rfl, rfl⟩
  obtain ⟨rfl, _⟩ := hE';have hpp := List.all_eq_true.1 (hpo y (List.mem_of_getElem? hy)) p (List.mem_of_getElem? hp);unfold zv at hpp;simp only [Bool.and_eq_true, decide_eq_true_eq] at hpp;exact ⟨by omega, b', o', e3, fun X hX => ⟨by rw [(HGR.out X hX).cell hb']; simpa using hcell' 0 _ rfl, by rw [(HGR.out X hX).cell hb']; exact hcell' 1 _ rfl⟩⟩)
 have w8 : wrap64 (8 * wd) = ((bn : Nat) : Int) := by rw [zd _ (by omega) (by omega)]; omega
 have hbn2 : bn <= 32 := by omega
 have HMK := hid hmk;clear hcs h1 h2 h3 hR hB hU hI hb1 hs1 hblk1 hblk2 hW1 hn hL hr hO hEf hmk2 hwd hok hbn hpl hpo hw hmk;show Calls prog 101 #[.agg #[.string m.name, .int .i64 wd, .int .i64 m.address, sr, sb, su, si], .agg #[.string x.name, .int .u64 (mk : Nat), .int .u64 (x.mtch : Nat), .slice A n c, se, .int .i64 x.unit, .int .i64 x.busy, .int .i64 x.lat, .int .i64 x.slots]] w _;go_enter Tryz.func101, Tryz.ntmps101
 go_wp2
 rw [<- HW1.out];go_loopw [5] (fun vi wr => ∃ (b : Nat), vi = .int .i64 b /\ b <= bn /\ Hid (Below W1.heap.size W1 wr /\ ((List.range bn).drop b).all ok = r)) (fun vi _ => bn - (intOf vi).toNat)
 case atStart => exact ⟨0, rfl, Nat.zero_le _, hid ⟨HRF.out, HR0.out⟩⟩
 case round =>
  obtain ⟨b, rfl, hb, HI⟩ := hrel;obtain ⟨hbx, hg⟩ := HI.out;obtain ⟨c1, c2, c3⟩ := HQ.out _ hbx;have HBX := hid hbx;by_cases hlt : b < bn
  ·have hx : (List.range bn)[b]? = some b := List.getElem?_range hlt;rw [z1j hx, List.all_cons, HOK.out b] at hg;obtain ⟨mb, hmb⟩ : ∃ z, mk / 2 ^ b % 2 = z := ⟨_, rfl⟩;have HBI := hid (show ∀ X, Calls prog 55 #[.int .u64 (mk : Nat), .int .i64 (b : Nat)] X fun e w' => e = .returned (.int .i64 (mb : Nat)) /\ Below X.heap.size X w' from fun X => by rw [<- hmb]; exact z4b X mk b HMK.out (by omega));have hmb2 : mb <= 1 := by omega
   rw [hmb] at hg;have HG := hid hg;have HLT := hid hlt;have hin : (b : Int) < (bn : Int) := by omega
   clear hx hmb hg HI hbx hlt;go_wp2_with (go_at_call 55; (with_reducible refine (HBI.out _).mono ?_); rintro e w5 ⟨rfl, hb5⟩)
   have HB5 := hid (HBX.out.trans (hb5.mono HBX.out.size));clear c1 c2 c3 hb5;go_loopw [6, 7] (fun va vk wq => ∃ (k a : Nat), vk = .int .i64 k /\ va = .int .i64 (a : Nat) /\ k <= n /\ Hid (Below W1.heap.size W1 wq /\ a + cntO (b : Int) (L.drop k) = mb + cntO (b : Int) L)) (fun _ vk _ => n - (intOf vk).toNat)
   case atStart => exact ⟨0, mb, rfl, rfl, Nat.zero_le _, hid ⟨HB5.out, by rw [List.drop_zero]⟩⟩
   case round =>
    obtain ⟨k, a, rfl, rfl, hkn, HK⟩ := hrel;obtain ⟨hbq, ha⟩ := HK.out;obtain ⟨c1, c2, c3⟩ := HQ.out _ hbq;have HBQ := hid hbq;by_cases hlk : k < n
    ·obtain ⟨y, hy⟩ : ∃ p, L[k]? = some p := ⟨_, List.getElem?_eq_getElem (by rw [HN.out]; exact hlk)⟩;obtain ⟨bo, oo, A3, cc3, e2, hpl, hpc, hpp⟩ := HCE.out k y hy;subst e2;have c4 := hpc _ hbq;rw [zd4 hy] at ha;obtain ⟨P, hP⟩ : ∃ z, y.pieces = z := ⟨_, rfl⟩;obtain ⟨pn, hpn⟩ : ∃ z, P.length = z := ⟨_, rfl⟩;rw [hP] at ha hpl hpc hpp c4;rw [hpn] at hpl hpc c4;have HPC := hid hpc;have HPP := hid hpp;have HPN := hid hpn;have HA := hid ha;have HLK := hid hlk;have hk0 : (0 : Int) <= (k : Int) := Int.natCast_nonneg _;have hk1 : (k : Int) < (n : Int) := (by omega);have hpn4 : pn <= 9223372036854775807 := (by omega);have HPL := hid hpl;clear hy hP hpn hpc hpp ha hlk HK hbq hpl;go_wp2
     clear c1 c2 c3 c4;go_loopw [6, 8] (fun va vj wq => ∃ (j a : Nat), vj = .int .i64 j /\ va = .int .i64 (a : Nat) /\ j <= pn /\ Hid (Below W1.heap.size W1 wq /\ a + (cntP (b : Int) (P.drop j) + cntO (b : Int) (L.drop (k + 1))) = mb + cntO (b : Int) L)) (fun _ vj _ => pn - (intOf vj).toNat)
     case atStart => exact ⟨0, a, rfl, rfl, Nat.zero_le _, hid ⟨HBQ.out, by rw [List.drop_zero]; exact HA.out⟩⟩
     case round =>
      obtain ⟨j, a2, rfl, rfl, hjn, HJ⟩ := hrel;obtain ⟨hbj, ha2⟩ := HJ.out;obtain ⟨c1, c2, c3⟩ := HQ.out _ hbj;have c4 := HPC.out _ hbj;have HBJ := hid hbj;by_cases hlj : j < pn
      ·obtain ⟨p, hp⟩ : ∃ p, P[j]? = some p := ⟨_, List.getElem?_eq_getElem (by rw [HPN.out]; exact hlj)⟩;obtain ⟨hbd, bp, op, e3, hpc⟩ := HPP.out j p hp;subst e3;obtain ⟨p0, p1⟩ := hpc _ hbj;rw [zd6 hp] at ha2;have hcn := HCN.out (b : Int);obtain ⟨ps, hps⟩ : ∃ z, p.pos = z := ⟨_, rfl⟩;obtain ⟨ln, hln⟩ : ∃ z, p.len = z := ⟨_, rfl⟩;rw [show inP (b : Int) p = decide (ps <= (b : Int) /\ (b : Int) <= ps + ln - 1) by unfold inP; rw [hps, hln]] at ha2;rw [hps] at p0 hbd;rw [hln] at p1 hbd;have hv1 : wrap64 (ps + ln) = ps + ln := zd _ (by omega) (by omega);have hv2 : wrap64 (ps + ln - 1) = ps + ln - 1 := zd _ (by omega) (by omega);have HII := hid (fun X => z1d X (b : Int) ps (ps + ln - 1));obtain ⟨q, hq⟩ : ∃ z, decide (ps <= (b : Int) /\ (b : Int) <= ps + ln - 1) = z := ⟨_, rfl⟩;rw [hq] at HII ha2;have ha9 : a2 <= 1000001 := (by omega);have HA2 := hid ha2;have HLJ := hid hlj;have hj0 : (0 : Int) <= (j : Int) := Int.natCast_nonneg _;have hj1 : (j : Int) < (pn : Int) := (by omega);have HA1 := hid (hbj.alloc hbj.size (.cells #[.int .i64 ps, .int .i64 ln] 172));obtain ⟨f0, f1⟩ := z45 wr ps ln _ rfl;clear hp hpc ha2 hlj hps hln hq HJ hbj hcn hbd
       cases q with
       | true =>
         go_wp2_with (go_at_call 46; (with_reducible refine (HII.out _).mono ?_); rintro e w6 ⟨rfl, rfl⟩)
         refine ⟨⟨j + 1, a2 + 1, by first | rfl | go_num | (congr 1), by first | rfl | go_num | (congr 1), by have := HLJ.out; omega, hid ⟨HA1.out, by have := HA2.out; simp only [if_true] at this; omega⟩⟩, by simp only [intOf]; have := HLJ.out; omega⟩
       | false =>
         go_wp2_with (go_at_call 46; (with_reducible refine (HII.out _).mono ?_); rintro e w6 ⟨rfl, rfl⟩)
         refine ⟨⟨j + 1, a2, by first | rfl | go_num | (congr 1), rfl, by have := HLJ.out; omega, hid ⟨HA1.out, by have := HA2.out; rw [if_neg (by decide)] at this; omega⟩⟩, by simp only [intOf]; have := HLJ.out; omega⟩
      ·obtain rfl : j = pn := by omega
       rw [List.drop_eq_nil_of_le (by rw [HPN.out]; exact Nat.le_refl _)] at ha2;have HA3 := hid (show a2 + cntO (b : Int) (L.drop (k + 1)) = mb + cntO (b : Int) L by rw [<- ha2]; simp [cntP]);clear ha2 HJ hbj;go_wp2
       refine ⟨⟨k + 1, a2, by first | rfl | go_num | (congr 1), rfl, by have := HLK.out; omega, hid ⟨HBJ.out, HA3.out⟩⟩, by simp only [intOf]; have := HLK.out; omega⟩
    ·obtain rfl : k = n := by omega
     rw [List.drop_eq_nil_of_le (by rw [HN.out]; exact Nat.le_refl _)] at ha;have HA := hid (show a = mb + cntO (b : Int) L by rw [<- ha]; simp [cntO]);clear ha HK hbq;by_cases h1 : a <= 1
     ·have g1 : ¬ (a : Int) > 1 := (by omega);have g2 : ¬ 1 < a := (by omega);have HG2 := hid (show ((List.range bn).drop (b + 1)).all ok = r by have := HG.out; rw [<- HA.out, decide_eq_true h1, Bool.true_and] at this; exact this);go_wp2
      refine ⟨⟨b + 1, by first | rfl | go_num | (congr 1), by have := HLT.out; omega, hid ⟨HBQ.out, HG2.out⟩⟩, by simp only [intOf]; have := HLT.out; omega⟩
     ·obtain rfl : false = r := by have := HG.out; rw [<- HA.out, decide_eq_false h1] at this; simpa using this
      have g1 : (a : Int) > 1 := (by omega);have g2 : 1 < a := (by omega);go_wp2
      go_ret
      exact ⟨rfl, HGR.out _ HBQ.out⟩
  ·obtain rfl : b = bn := by omega
   rw [List.drop_eq_nil_of_le (by simp)] at hg;obtain rfl : true = r := hg;clear HI hbx;go_wp2
   go_ret
   exact ⟨rfl, HGR.out _ HBX.out⟩
theorem z9w (w : World) (v : Value) (m : Mach) (hm : zz w v m) (x : MOper) (cs : List Value) (hE : z1g w cs x) (hv : z4t m.regs m.banks x) :
 Calls prog 128 #[v, .agg cs.toArray] w fun e w' => e = .returned (.int .i64 (zu m.address m.regs m.banks x)) /\ Below w.heap.size w w' := by
 obtain ⟨cs0, rfl, sr, sb, su, si, hcs, h1, h2, h3, hR, hB, hU, hI⟩ := hm;obtain rfl : cs0 = #[.string m.name, .int .i64 m.word, .int .i64 m.address, sr, sb, su, si] := by cases cs0; simp_all
 obtain ⟨sv, rfl, _, _, _, _, hp, _⟩ := hE;obtain ⟨W1, hW1⟩ : ∃ W1, W1 = (w.alloc (.cells #[.string m.name, .int .i64 m.word, .int .i64 m.address, sr, sb, su, si] 27)).alloc (.cells #[.string x.name, .int .u8 x.kind, .int .i64 x.bank, .int .i64 x.scale, sv, .int .i64 x.tied] 86) := ⟨_, rfl⟩;have HW1 := hid hW1;have hb1 : Below w.heap.size w W1 := by rw [hW1]; exact ((Below.refl _ _).alloc (Nat.le_refl _) _).alloc (by simp) _
 have hs1 : W1.heap.size = w.heap.size + 2 := by rw [hW1]; simp
 have hblk1 : W1.heap[w.heap.size]? = some (.cells #[.string m.name, .int .i64 m.word, .int .i64 m.address, sr, sb, su, si] 27) := by rw [hW1, Below.heap_alloc _ _ _ (by simp)]; exact heap_alloc_new _ _
 have hblk2 : W1.heap[w.heap.size + 1]? = some (.cells #[.string x.name, .int .u8 x.kind, .int .i64 x.bank, .int .i64 x.scale, sv, .int .i64 x.tied] 86) := by rw [hW1];have := heap_alloc_new (w.alloc (.cells #[.string m.name, .int .i64 m.word, .int .i64 m.address, sr, sb, su, si] 27)) (.cells #[.string x.name, .int .u8 x.kind, .int .i64 x.bank, .int .i64 x.scale, sv, .int .i64 x.tied] 86);simpa using this
 have d2 : W1.cell? ⟨w.heap.size, 2, none⟩ = some (.int .i64 m.address) := zb hblk1 rfl;have d3 : W1.cell? ⟨w.heap.size, 3, none⟩ = some sr := zb hblk1 rfl;have d4 : W1.cell? ⟨w.heap.size, 4, none⟩ = some sb := zb hblk1 rfl;have f1 : W1.cell? ⟨w.heap.size + 1, 1, none⟩ = some (.int .u8 x.kind) := zb hblk2 rfl;have f2 : W1.cell? ⟨w.heap.size + 1, 2, none⟩ = some (.int .i64 x.bank) := zb hblk2 rfl;have HB1 := hid hb1;show Calls prog 128 #[.agg #[.string m.name, .int .i64 m.word, .int .i64 m.address, sr, sb, su, si], .agg #[.string x.name, .int .u8 x.kind, .int .i64 x.bank, .int .i64 x.scale, sv, .int .i64 x.tied]] w _;by_cases hk : (x.kind : Int) = 1
 ·obtain ⟨i, z, bk, y, hi, hLi, hz, hy⟩ := hv hk;have hq : zu m.address m.regs m.banks x = y.width := by
   unfold zu;rw [if_pos hk, hi, show (i : Int).toNat = i by simp, hLi];show zx m.regs (bk.regs.headD 0) = _;have e : bk.regs.headD 0 = (z : Int) := by
    cases hr : bk.regs with
    | nil => rw [hr] at hz; simp at hz
    | cons a l => rw [hr] at hz; simp at hz ⊢; exact hz
   rw [e];unfold zx;rw [show (z : Int).toNat = z by simp, hy]
  obtain ⟨A1, q1, rfl, _, _, _, hallR⟩ := hR;obtain ⟨A2, q2, rfl, _, _, _, hallL⟩ := hB;obtain ⟨b, o, cs1, rfl, hbl, _, hcell, hE⟩ := hallR z y hy;obtain ⟨rfl, _⟩ := hE;obtain ⟨b2, o2, cs2, rfl, hbl2, _, hcell2, hE2⟩ := hallL i bk hLi;obtain ⟨sv2, rfl, _, hsv2⟩ := hE2;obtain ⟨A3, q3, rfl, _, _, _, hall3⟩ := hsv2;obtain ⟨b3, o3, cs3, rfl, hbl3, _, hcell3, hE3⟩ := hall3 0 _ hz;obtain ⟨rfl, _⟩ := hE3;have e1 : W1.cell? ⟨b, o + z * 4 + 1, none⟩ = some (.int .i64 y.width) := (hb1.cell hbl).trans (hcell 1 _ rfl);have e2 : W1.cell? ⟨b2, o2 + i * 2 + 1, none⟩ = some (.slice (some ⟨b3, o3, none⟩) bk.regs.length q3) := (hb1.cell hbl2).trans (hcell2 1 _ rfl);have e3 : W1.cell? ⟨b3, o3, none⟩ = some (.int .i64 z) := (hb1.cell hbl3).trans (by simpa using hcell3 0 _ rfl);have hzn : (z : Int) < (m.regs.length : Int) := by have := (List.getElem?_eq_some_iff.1 hy).1; omega
  have hin : (i : Int) < (m.banks.length : Int) := by have := (List.getElem?_eq_some_iff.1 hLi).1; omega
  have h0n : (0 : Int) < (bk.regs.length : Int) := by have := (List.getElem?_eq_some_iff.1 hz).1; omega
  have hz0 : (0 : Int) <= (z : Int) := by omega
  have hi0 : (0 : Int) <= (i : Int) := by omega
  rw [hq];obtain ⟨yw, hyw⟩ : ∃ yw, y.width = yw := ⟨_, rfl⟩;obtain ⟨n1, hn1⟩ : ∃ n, m.regs.length = n := ⟨_, rfl⟩;obtain ⟨n2, hn2⟩ : ∃ n, m.banks.length = n := ⟨_, rfl⟩;obtain ⟨n3, hn3⟩ : ∃ n, bk.regs.length = n := ⟨_, rfl⟩;rw [hyw] at e1 ⊢;rw [hn1] at d3 hzn;rw [hn2] at d4 hin;rw [hn3] at e2 h0n;rw [hn1, hn2] at HW1;rw [hi] at f2 HW1;rw [hk] at f1 HW1;rw [hn1, hn2, hi, hk];have HBR := hid (zg hb1 hb1.size);have K1 := cell_regrown d3;have K2 := cell_regrown d4;have K3 := cell_regrown f2;have K4 := cell_regrown e1;have K5 := cell_regrown e2;have K6 := cell_regrown e3;rw [HW1.out] at f1;clear hq hyw hn1 hn2 hn3 hcell hcell2 hcell3 hallR hallL hall3 hLi hz hy hbl hbl2 hbl3 hblk1 hblk2 hs1 hW1 hcs h1 h2 h3 hU hI hp hv hi hb1 d2 d3 d4 f2 e1 e2 e3;go_enter Tryz.func128, Tryz.ntmps128
  go_wp2_with fail
  clear f1;rw [<- HW1.out];refine wp_region_quiet_below (by kernel_rfl) (by kernel_rfl) ?_;repeat (first | go_big_quiet_step (fail) | quiet_step (fail))
  refine wpQuiet_nil ?_;intro G hG;have hbG : Below w.heap.size w G := by obtain ⟨p, rfl⟩ := hG; exact HBR.out _ _
  clear hG K1 K2 K3 K4 K5 K6;go_wp2
  go_ret
  exact ⟨rfl, hbG⟩
 ·have hk2 : ((x.kind : Int) == 1) = false := by simp only [beq_eq_false_iff_ne]; exact hk
  rw [show zu m.address m.regs m.banks x = m.address by unfold zu; rw [if_neg hk]];rw [hW1] at d2 f1;clear hblk1 hblk2 hs1 hW1 hcs h1 h2 h3 hR hB hU hI hp hv hb1 d3 d4 f2;go_enter Tryz.func128, Tryz.ntmps128
  go_wp2
  go_ret
  exact ⟨rfl, by rw [<- HW1.out]; exact HB1.out⟩
def varG (s : ByteArray) (wd : Int) : List MReg -> Bool
 | [] => false
 | x :: l => if ((rDot x.name).toList == s.toList) = true then decide (wd = x.width) else varG s wd l
def varO (f : MOper -> Int) (s : ByteArray) (wd : Int) (R : List MReg) : List MOper -> Bool
 | [] => varG s wd R
 | o :: l => if (o.name.toList == s.toList) = true then decide (wd = f o) else varO f s wd R l
def z8g (m : Mach) (ops : List MOper) (s : ByteArray) (wd : Int) : Bool := if (s.toList == z1a.toList) = true then decide (wd = m.address) else varO (zu m.address m.regs m.banks) s wd m.regs ops
theorem z8h (w : World) (v : Value) (m : Mach) (hm : zz w v m) (x : MIns) (cs : List Value) (hE : insE w cs x) (hol : x.opers.length <= 1000) (hrl : m.regs.length <= 1000) (hv : ∀ o ∈ x.opers, z4t m.regs m.banks o) (hrn : ∀ y ∈ m.regs, y.name.size <= 24) (s : ByteArray) (wd : Int) :
 Calls prog 169 #[v, .agg cs.toArray, .string s, .int .i64 wd] w fun e w' => e = .returned (.bool (z8g m x.opers s wd)) /\ Below w.heap.size w w' := by
 have hm' := hm;obtain ⟨cs0, rfl, sr, sb, su, si, hcs, h1, h2, h3, hR, hB, hU, hI⟩ := hm;obtain rfl : cs0 = #[.string m.name, .int .i64 m.word, .int .i64 m.address, sr, sb, su, si] := by cases cs0; simp_all
 obtain ⟨so, se, rfl, _, _, _, hO, hEf, _⟩ := hE;have HO := hid hO;have HRR := hid hR;obtain ⟨A, c, rfl, _⟩ := id hO;obtain ⟨Ar, cr, rfl, _⟩ := id hR;obtain ⟨L, hL⟩ : ∃ z, x.opers = z := ⟨_, rfl⟩;rw [hL] at HO hol hv ⊢;obtain ⟨n, hn⟩ : ∃ z, L.length = z := ⟨_, rfl⟩;obtain ⟨R, hRe⟩ : ∃ z, m.regs = z := ⟨_, rfl⟩;obtain ⟨nr, hnr⟩ : ∃ z, R.length = z := ⟨_, rfl⟩;have HN := hid hn;have HNR := hid hnr;rw [hn] at HO hol;rw [hn];rw [hRe] at HRR hrl hrn hm';rw [hRe];rw [hnr] at HRR hrl hm';rw [hnr];have hn4 : n <= 9223372036854775807 := by omega
 have hr4 : nr <= 9223372036854775807 := by omega
 obtain ⟨W1, hW1⟩ : ∃ W1, W1 = (w.alloc (.cells #[.string m.name, .int .i64 m.word, .int .i64 m.address, .slice Ar nr cr, sb, su, si] 27)).alloc (.cells #[.string x.name, .int .u64 (x.mask : Nat), .int .u64 (x.mtch : Nat), .slice A n c, se, .int .i64 x.unit, .int .i64 x.busy, .int .i64 x.lat, .int .i64 x.slots] 83) := ⟨_, rfl⟩;have HW1 := hid hW1;have hb1 : Below w.heap.size w W1 := by rw [hW1]; exact ((Below.refl _ _).alloc (Nat.le_refl _) _).alloc (by simp) _
 have hs1 : W1.heap.size = w.heap.size + 2 := by rw [hW1]; simp
 have hblk1 : W1.heap[w.heap.size]? = some (.cells #[.string m.name, .int .i64 m.word, .int .i64 m.address, .slice Ar nr cr, sb, su, si] 27) := by rw [hW1, Below.heap_alloc _ _ _ (by simp)]; exact heap_alloc_new _ _
 have hblk2 : W1.heap[w.heap.size + 1]? = some (.cells #[.string x.name, .int .u64 (x.mask : Nat), .int .u64 (x.mtch : Nat), .slice A n c, se, .int .i64 x.unit, .int .i64 x.busy, .int .i64 x.lat, .int .i64 x.slots] 83) := by rw [hW1];have := heap_alloc_new (w.alloc (.cells #[.string m.name, .int .i64 m.word, .int .i64 m.address, .slice Ar nr cr, sb, su, si] 27)) (.cells #[.string x.name, .int .u64 (x.mask : Nat), .int .u64 (x.mtch : Nat), .slice A n c, se, .int .i64 x.unit, .int .i64 x.busy, .int .i64 x.lat, .int .i64 x.slots] 83);simpa using this
 have HQ := hid (show ∀ X, Below W1.heap.size W1 X -> X.cell? ⟨w.heap.size, 0, none⟩ = some (.string m.name) /\ X.cell? ⟨w.heap.size, 1, none⟩ = some (.int .i64 m.word) /\ X.cell? ⟨w.heap.size, 2, none⟩ = some (.int .i64 m.address) /\ X.cell? ⟨w.heap.size, 3, none⟩ = some (.slice Ar nr cr) /\ X.cell? ⟨w.heap.size, 4, none⟩ = some sb /\ X.cell? ⟨w.heap.size, 5, none⟩ = some su /\ X.cell? ⟨w.heap.size, 6, none⟩ = some si /\ X.cell? ⟨w.heap.size + 1, 3, none⟩ = some (.slice A n c) from fun X hX => by have e1 := (hX.block _ (by omega)).trans hblk1;have e2 := (hX.block _ (by omega)).trans hblk2;exact ⟨zb e1 rfl, zb e1 rfl, zb e1 rfl, zb e1 rfl, zb e1 rfl, zb e1 rfl, zb e1 rfl, zb e2 rfl⟩)
 have HGR := hid (show ∀ X, Below W1.heap.size W1 X -> Below w.heap.size w X from fun X hX => hb1.trans (hX.mono hb1.size));have HRF := hid (Below.refl W1.heap.size W1);obtain ⟨wf, hwf⟩ : ∃ wf, zu m.address m.regs m.banks = wf := ⟨_, rfl⟩;obtain ⟨r, hr⟩ : ∃ r, z8g m L s wd = r := ⟨_, rfl⟩;have HR0 := hid (show (if (s.toList == z1a.toList) = true then decide (wd = m.address) else varO wf s wd R (L.drop 0)) = r by rw [<- hr, <- hwf, List.drop_zero]; unfold z8g; rw [hRe]);rw [hr];have HWD := hid (show ∀ (y : MOper) (k : Nat), L[k]? = some y -> ∀ (cs : List Value), z1g w cs y -> ∀ X, Below W1.heap.size W1 X -> Calls prog 128 #[.agg #[.string m.name, .int .i64 m.word, .int .i64 m.address, .slice Ar nr cr, sb, su, si], .agg cs.toArray] X fun e w' => e = .returned (.int .i64 (wf y)) /\ Below X.heap.size X w' from fun y k hy cs hcs X hX => by rw [<- hwf];exact z9w X _ m (hm'.kept (HGR.out X hX)) y cs (z1g.kept hcs (HGR.out X hX)) (hv y (List.mem_of_getElem? hy)))
 have HCO := hid (show ∀ (i : Nat) (y : MOper), L[i]? = some y -> ∃ b o sv, A = some ⟨b, o, none⟩ /\ z1g w [.string y.name, .int .u8 (y.kind : Nat), .int .i64 y.bank, .int .i64 y.scale, sv, .int .i64 y.tied] y /\ (∀ X, Below W1.heap.size W1 X -> X.cell? ⟨b, o + i * 6, none⟩ = some (.string y.name) /\ X.cell? ⟨b, o + i * 6 + 1, none⟩ = some (.int .u8 (y.kind : Nat)) /\ X.cell? ⟨b, o + i * 6 + 2, none⟩ = some (.int .i64 y.bank) /\ X.cell? ⟨b, o + i * 6 + 3, none⟩ = some (.int .i64 y.scale) /\ X.cell? ⟨b, o + i * 6 + 4, none⟩ = some sv /\ X.cell? ⟨b, o + i * 6 + 5, none⟩ = some (.int .i64 y.tied)) from fun i y hy => by
  obtain ⟨A', c', e1, _, _, _, hall⟩ := HO.out;obtain ⟨b, o, cs, e2, hb, hcl, hcell, hE'⟩ := hall i y hy;obtain ⟨rfl, rfl⟩ : A = A' /\ c = c' := by cases e1; exact ⟨rfl, rfl⟩
  have hE2 := hE';obtain ⟨sv, rfl, _⟩ := hE';refine ⟨b, o, sv, e2, hE2, fun X hX => ?_⟩;have hbw := HGR.out X hX;exact ⟨by rw [hbw.cell hb]; simpa using hcell 0 _ rfl, by rw [hbw.cell hb]; exact hcell 1 _ rfl, by rw [hbw.cell hb]; exact hcell 2 _ rfl, by rw [hbw.cell hb]; exact hcell 3 _ rfl, by rw [hbw.cell hb]; exact hcell 4 _ rfl, by rw [hbw.cell hb]; exact hcell 5 _ rfl⟩)
 have HCG := hid (show ∀ (i : Nat) (y : MReg), R[i]? = some y -> ∃ b o, Ar = some ⟨b, o, none⟩ /\ y.name.size <= 24 /\ (∀ X, Below W1.heap.size W1 X -> X.cell? ⟨b, o + i * 4, none⟩ = some (.string y.name) /\ X.cell? ⟨b, o + i * 4 + 1, none⟩ = some (.int .i64 y.width)) from fun i y hy => by
  obtain ⟨A', c', e1, _, _, _, hall⟩ := HRR.out;obtain ⟨b, o, cs, e2, hb, hcl, hcell, hE'⟩ := hall i y hy;obtain ⟨rfl, rfl⟩ : Ar = A' /\ cr = c' := by cases e1; exact ⟨rfl, rfl⟩
  obtain ⟨rfl, _⟩ := hE';refine ⟨b, o, e2, hrn y (List.mem_of_getElem? hy), fun X hX => ?_⟩;have hbw := HGR.out X hX;exact ⟨by rw [hbw.cell hb]; simpa using hcell 0 _ rfl, by rw [hbw.cell hb]; exact hcell 1 _ rfl⟩)
 obtain ⟨d0, d1, d2, d3, d4, d5, d6, d7⟩ := HQ.out W1 HRF.out;rw [hW1] at d2;clear hcs h1 h2 h3 hR hB hU hI hb1 hs1 hblk1 hblk2 hW1 hn hL hr hO hEf hwf hRe hnr hv hrn hm' d0 d1 d3 d4 d5 d6 d7;show Calls prog 169 #[.agg #[.string m.name, .int .i64 m.word, .int .i64 m.address, .slice Ar nr cr, sb, su, si], .agg #[.string x.name, .int .u64 (x.mask : Nat), .int .u64 (x.mtch : Nat), .slice A n c, se, .int .i64 x.unit, .int .i64 x.busy, .int .i64 x.lat, .int .i64 x.slots], .string s, .int .i64 wd] w _;obtain ⟨ad, had⟩ : ∃ z, m.address = z := ⟨_, rfl⟩;rw [had] at HR0 HQ HWD HW1 d2;rw [had];clear had;obtain ⟨qp, hqp⟩ : ∃ q, (s.toList == z1a.toList) = q := ⟨_, rfl⟩;rw [hqp] at HR0;have hqp2 : (s.toList == [112, 99]) = qp := by rw [<- hqp, show z1a.toList = [112, 99] by rw [ByteArray.toList_eq]; rfl]
 cases qp with
 | true =>
   have hr := HR0.out;rw [if_pos rfl] at hr;have hr2 : r = ((wd : Int) == ad) := by rw [<- hr]; by_cases h : wd = ad <;> simp [h]
   subst hr2;clear hr HR0;go_enter Tryz.func169, Tryz.ntmps169
   go_wp2
   go_ret
   exact ⟨rfl, by rw [<- HW1.out]; exact HGR.out _ HRF.out⟩
 | false =>
   clear d2;have HR1 := hid (show varO wf s wd R (L.drop 0) = r by have := HR0.out; rw [if_neg (by decide)] at this; exact this);go_enter Tryz.func169, Tryz.ntmps169
   go_wp2
   rw [<- HW1.out];go_loopw [9] (fun vi wr => ∃ (i : Nat), vi = .int .i64 i /\ i <= n /\ Hid (Below W1.heap.size W1 wr /\ varO wf s wd R (L.drop i) = r)) (fun vi _ => n - (intOf vi).toNat)
   case atStart => exact ⟨0, rfl, Nat.zero_le _, hid ⟨HRF.out, HR1.out⟩⟩
   case round =>
    obtain ⟨i, rfl, hi, HI⟩ := hrel;obtain ⟨hbx, hg⟩ := HI.out;obtain ⟨d0, d1, d2, d3, d4, d5, d6, d7⟩ := HQ.out _ hbx;have HBX := hid hbx;by_cases hlt : i < n
    ·obtain ⟨y, hy⟩ : ∃ p, L[i]? = some p := ⟨_, List.getElem?_eq_getElem (by rw [HN.out]; exact hlt)⟩;obtain ⟨b, o, sv, e2, hoe, hce⟩ := HCO.out i y hy;subst e2;obtain ⟨p0, p1, p2, p3, p4, p5⟩ := hce _ hbx;rw [z1j hy] at hg;have hg2 : (if (y.name.toList == s.toList) = true then decide (wd = wf y) else varO wf s wd R (L.drop (i + 1))) = r := hg;obtain ⟨q, hq⟩ : ∃ q, (y.name.toList == s.toList) = q := ⟨_, rfl⟩;rw [hq] at hg2;have HLT := hid hlt;have hin : (i : Int) < (n : Int) := (by omega);have hi0 : (0 : Int) <= (i : Int) := Int.natCast_nonneg _
     cases q with
     | false =>
       have HG2 := hid (show varO wf s wd R (L.drop (i + 1)) = r by rw [if_neg (by decide)] at hg2; exact hg2);clear hg hg2 hy hoe hce HI hbx hlt;go_wp2
       refine ⟨⟨i + 1, by first | rfl | go_num | (congr 1), by have := HLT.out; omega, hid ⟨HBX.out, HG2.out⟩⟩, by simp only [intOf]; have := HLT.out; omega⟩
     | true =>
       have hr : r = decide (wd = wf y) := (by rw [if_pos rfl] at hg2; exact hg2.symm);have IW := hid (show ∀ d os, Calls prog 128 #[.agg #[.string m.name, .int .i64 m.word, .int .i64 ad, .slice Ar nr cr, sb, su, si], .agg #[.string y.name, .int .u8 (y.kind : Nat), .int .i64 y.bank, .int .i64 y.scale, sv, .int .i64 y.tied]] (grow (redrawn wr d) os) fun e w'' => e = .returned (.int .i64 (wf y)) /\ ∃ p : Regrown, w'' = grow (redrawn wr p.d) p.os from fun d os => Calls.regrown_of (w := wr) (d := d) (os := os) (HWD.out y i hy _ hoe _ (hbx.trans ((below_regrown wr d os).mono hbx.size))));have hr2 : r = ((wd : Int) == wf y) := (by rw [hr]; by_cases h : wd = wf y <;> simp [h]);obtain ⟨yw, hyw⟩ : ∃ z, wf y = z := ⟨_, rfl⟩;rw [hyw] at IW hr2;subst hr2;have K0 := cell_regrown d0;have K1 := cell_regrown d1;have K2 := cell_regrown d2;have K3 := cell_regrown d3;have K4 := cell_regrown d4;have K5 := cell_regrown d5;have K6 := cell_regrown d6;have K7 := cell_regrown d7;have J0 := cell_regrown p0;have J1 := cell_regrown p1;have J2 := cell_regrown p2;have J3 := cell_regrown p3;have J4 := cell_regrown p4;have J5 := cell_regrown p5;clear hg hg2 hy hoe hce HI hbx hlt hr hyw;go_wp2_with fail
       clear d0 d1 d2 d3 d4 d5 d6 d7 p0 p1 p2 p3 p4 p5;refine wp_region_quiet_below (by kernel_rfl) (by kernel_rfl) ?_;repeat (first | go_big_quiet_step (with_reducible exact IW.out _ _) | quiet_step (with_reducible exact IW.out _ _))
       refine wpQuiet_nil ?_;intro G hG;have hbG : Below W1.heap.size W1 G := (by obtain ⟨p, rfl⟩ := hG; exact HBX.out.trans ((below_regrown wr _ _).mono HBX.out.size));clear hG K0 K1 K2 K3 K4 K5 K6 K7 J0 J1 J2 J3 J4 J5;go_wp2
       go_ret
       exact ⟨rfl, HGR.out _ hbG⟩
    ·obtain rfl : i = n := by omega
     rw [List.drop_eq_nil_of_le (by rw [HN.out]; exact Nat.le_refl _)] at hg;have HG2 := hid (show varG s wd (R.drop 0) = r from hg);clear hg HI hbx;go_wp2
     clear d0 d1 d2 d3 d4 d5 d6 d7;go_loopw [10] (fun vi wr => ∃ (j : Nat), vi = .int .i64 j /\ j <= nr /\ Hid (Below W1.heap.size W1 wr /\ varG s wd (R.drop j) = r)) (fun vi _ => nr - (intOf vi).toNat)
     case atStart => exact ⟨0, rfl, Nat.zero_le _, hid ⟨HBX.out, HG2.out⟩⟩
     case round =>
      obtain ⟨j, rfl, hj, HI⟩ := hrel;obtain ⟨hbx, hg⟩ := HI.out;obtain ⟨_, _, _, d3, _, _, _, _⟩ := HQ.out _ hbx;have HBX2 := hid hbx;by_cases hlt : j < nr
      ·obtain ⟨y, hy⟩ : ∃ p, R[j]? = some p := ⟨_, List.getElem?_eq_getElem (by rw [HNR.out]; exact hlt)⟩;obtain ⟨b, o, e2, hsz, hce⟩ := HCG.out j y hy;subst e2;obtain ⟨p0, p1⟩ := hce _ hbx;rw [z1j hy] at hg;have hg2 : (if ((rDot y.name).toList == s.toList) = true then decide (wd = y.width) else varG s wd (R.drop (j + 1))) = r := hg;obtain ⟨nm, hnm⟩ : ∃ z, y.name = z := ⟨_, rfl⟩;obtain ⟨yw, hyw⟩ : ∃ z, y.width = z := ⟨_, rfl⟩;rw [hnm] at hg2 p0 hsz;rw [hyw] at hg2 p1;have hrun := fun X => zb8 nm hsz X;obtain ⟨rn, hrn⟩ : ∃ z, rDot nm = z := ⟨_, rfl⟩;rw [hrn] at hg2;simp only [hrn] at hrun;obtain ⟨q, hq⟩ : ∃ q, (rn.toList == s.toList) = q := ⟨_, rfl⟩;rw [hq] at hg2;have HLT := hid hlt;have hin : (j : Int) < (nr : Int) := (by omega);have hj0 : (0 : Int) <= (j : Int) := Int.natCast_nonneg _
       cases q with
       | false =>
         have HG3 := hid (show varG s wd (R.drop (j + 1)) = r by rw [if_neg (by decide)] at hg2; exact hg2);clear hg hg2 hy hce HI hbx hlt hnm hyw hrn hsz;go_wp2
         refine ⟨⟨j + 1, by first | rfl | go_num | (congr 1), by have := HLT.out; omega, hid ⟨HBX2.out, HG3.out⟩⟩, by simp only [intOf]; have := HLT.out; omega⟩
       | true =>
         have hr2 : r = ((wd : Int) == yw) := (by rw [if_pos rfl] at hg2; rw [<- hg2]; by_cases h : wd = yw <;> simp [h]);subst hr2;clear hg hg2 hy hce HI hbx hlt hnm hyw hrn hsz;go_wp2
         go_ret
         exact ⟨rfl, HGR.out _ HBX2.out⟩
      ·obtain rfl : j = nr := by omega
       rw [List.drop_eq_nil_of_le (by rw [HNR.out]; exact Nat.le_refl _)] at hg;obtain rfl : false = r := hg;clear HI hbx;go_wp2
       go_ret
       exact ⟨rfl, HGR.out _ HBX2.out⟩
mutual
def z2s (V : ByteArray -> Int -> Bool) (ad : Int) : Tm -> Bool
 | .mk k w _ s _ l => (!(decide (k = 2)) || V s w) && ((!(decide (k = 24)) || decide ((l.headD default).width = ad)) && z2j V ad l)
def z2j (V : ByteArray -> Int -> Bool) (ad : Int) : List Tm -> Bool
 | [] => true
 | t :: l => z2s V ad t && z2j V ad l
end
mutual
def ldT : Tm -> Bool
 | .mk k _ _ _ _ l => (!(decide (k = 24)) || decide (0 < l.length)) && ldL l
def ldL : List Tm -> Bool
 | [] => true
 | t :: l => ldT t && ldL l
end
theorem ze0 (V : ByteArray -> Int -> Bool) (ad : Int) (t : Tm) : z2s V ad t = ((!(decide (t.kind = 2)) || V t.name t.width) && ((!(decide (t.kind = 24)) || decide ((t.sub.headD default).width = ad)) && z2j V ad t.sub)) := by cases t; rfl
theorem zh9 (t : Tm) : ldT t = ((!(decide (t.kind = 24)) || decide (0 < t.sub.length)) && ldL t.sub) := by cases t; rfl
theorem ze4 : ∀ {l : List Tm}, ldL l = true -> ∀ u ∈ l, ldT u = true
 | [], _, u, hu => by simp at hu
 | t :: l, h, u, hu => by
   unfold ldL at h;rw [Bool.and_eq_true] at h;rcases List.mem_cons.1 hu with rfl | hu
   ·exact h.1
   ·exact ze4 h.2 u hu
theorem zc2 (w0 : World) (V : ByteArray -> Int -> Bool) (n0 i0 : ByteArray) (m1 ad i1 i2 i5 i6 i7 i8 : Int) (a3 a4 a5 a6 a7 a8 : Option Addr) (b3 c3 b4 c4 b5 c5 b6 c6 b7 c7 b8 c8 : Nat)
 (HV : Hid (∀ (s : ByteArray) (wd : Int) X, Below w0.heap.size w0 X -> Calls prog 169 #[.agg #[.string n0, .int .i64 m1, .int .i64 ad, .slice a3 b3 c3, .slice a4 b4 c4, .slice a5 b5 c5, .slice a6 b6 c6], .agg #[.string i0, .int .u64 i1, .int .u64 i2, .slice a7 b7 c7, .slice a8 b8 c8, .int .i64 i5, .int .i64 i6, .int .i64 i7, .int .i64 i8], .string s, .int .i64 wd] X fun e w' => e = .returned (.bool (V s wd)) /\ Below X.heap.size X w')) :
 ∀ (z : Nat) (t : Tm), t.sz <= z -> z <= 9000 -> ldT t = true -> ∀ (sv : Value) (B : Nat) (W : World), B <= W.heap.size -> SubAt W B sv t.sub -> Below w0.heap.size w0 W ->
 Calls prog 155 #[.agg #[.string n0, .int .i64 m1, .int .i64 ad, .slice a3 b3 c3, .slice a4 b4 c4, .slice a5 b5 c5, .slice a6 b6 c6], .agg #[.string i0, .int .u64 i1, .int .u64 i2, .slice a7 b7 c7, .slice a8 b8 c8, .int .i64 i5, .int .i64 i6, .int .i64 i7, .int .i64 i8], .agg (Tm.cells t sv).toArray] W fun e w' => e = .returned (.bool (z2s V ad t)) /\ Below W.heap.size W w' := by
 intro z
 induction z with
 | zero => intro t ht; rw [Tm.sz_eq] at ht; omega
 | succ z ih =>
   intro t ht hz hld sv B W hB hs hW0;obtain ⟨p, nn, cap, S, rfl, hlen, hmax, _, hcells, hsubs⟩ := hs.inv;obtain ⟨Wa, hWa⟩ : ∃ z, z = W.alloc (.cells #[.string n0, .int .i64 m1, .int .i64 ad, .slice a3 b3 c3, .slice a4 b4 c4, .slice a5 b5 c5, .slice a6 b6 c6] 27) := ⟨_, rfl⟩;obtain ⟨Wb, hWb⟩ : ∃ z, z = Wa.alloc (.cells #[.string i0, .int .u64 i1, .int .u64 i2, .slice a7 b7 c7, .slice a8 b8 c8, .int .i64 i5, .int .i64 i6, .int .i64 i7, .int .i64 i8] 83) := ⟨_, rfl⟩;obtain ⟨W1, hW1⟩ : ∃ z, z = Wb.alloc (.cells #[.int .u8 t.kind, .int .i64 t.width, .int .u64 t.bits, .string t.name, .int .i64 t.low, .slice p nn cap] 90) := ⟨_, rfl⟩;have sa : Wa.heap.size = W.heap.size + 1 := by rw [hWa]; simp
   have sb : Wb.heap.size = W.heap.size + 2 := by rw [hWb]; simp [sa]
   have hs1 : W1.heap.size = W.heap.size + 3 := by rw [hW1]; simp [sb]
   have ba : Below W.heap.size W Wa := by rw [hWa]; exact (Below.refl _ _).alloc (Nat.le_refl _) _
   have bb : Below Wa.heap.size Wa Wb := by rw [hWb]; exact (Below.refl _ _).alloc (Nat.le_refl _) _
   have bc : Below Wb.heap.size Wb W1 := by rw [hW1]; exact (Below.refl _ _).alloc (Nat.le_refl _) _
   have hb1 : Below W.heap.size W W1 := (ba.trans (bb.mono ba.size)).trans (bc.mono (by omega));have hblk1 : W1.heap[W.heap.size]? = some (.cells #[.string n0, .int .i64 m1, .int .i64 ad, .slice a3 b3 c3, .slice a4 b4 c4, .slice a5 b5 c5, .slice a6 b6 c6] 27) := by rw [bc.block _ (by omega), bb.block _ (by omega), hWa]; exact heap_alloc_new _ _
   have hblk2 : W1.heap[W.heap.size + 1]? = some (.cells #[.string i0, .int .u64 i1, .int .u64 i2, .slice a7 b7 c7, .slice a8 b8 c8, .int .i64 i5, .int .i64 i6, .int .i64 i7, .int .i64 i8] 83) := by rw [bc.block _ (by omega), hWb, <- sa]; exact heap_alloc_new _ _
   have hblk3 : W1.heap[W.heap.size + 2]? = some (.cells #[.int .u8 t.kind, .int .i64 t.width, .int .u64 t.bits, .string t.name, .int .i64 t.low, .slice p nn cap] 90) := by rw [hW1, <- sb]; exact heap_alloc_new _ _
   have HW := hid (show W1 = ((W.alloc (.cells #[.string n0, .int .i64 m1, .int .i64 ad, .slice a3 b3 c3, .slice a4 b4 c4, .slice a5 b5 c5, .slice a6 b6 c6] 27)).alloc (.cells #[.string i0, .int .u64 i1, .int .u64 i2, .slice a7 b7 c7, .slice a8 b8 c8, .int .i64 i5, .int .i64 i6, .int .i64 i7, .int .i64 i8] 83)).alloc (.cells #[.int .u8 t.kind, .int .i64 t.width, .int .u64 t.bits, .string t.name, .int .i64 t.low, .slice p nn cap] 90) by rw [hW1, hWb, hWa])
   have HQ := hid (show ∀ X, Below W1.heap.size W1 X -> (X.cell? ⟨W.heap.size, 0, none⟩ = some (.string n0) /\ X.cell? ⟨W.heap.size, 1, none⟩ = some (.int .i64 m1) /\ X.cell? ⟨W.heap.size, 2, none⟩ = some (.int .i64 ad) /\ X.cell? ⟨W.heap.size, 3, none⟩ = some (.slice a3 b3 c3) /\ X.cell? ⟨W.heap.size, 4, none⟩ = some (.slice a4 b4 c4) /\ X.cell? ⟨W.heap.size, 5, none⟩ = some (.slice a5 b5 c5) /\ X.cell? ⟨W.heap.size, 6, none⟩ = some (.slice a6 b6 c6)) /\
    (X.cell? ⟨W.heap.size + 1, 0, none⟩ = some (.string i0) /\ X.cell? ⟨W.heap.size + 1, 1, none⟩ = some (.int .u64 i1) /\ X.cell? ⟨W.heap.size + 1, 2, none⟩ = some (.int .u64 i2) /\ X.cell? ⟨W.heap.size + 1, 3, none⟩ = some (.slice a7 b7 c7) /\ X.cell? ⟨W.heap.size + 1, 4, none⟩ = some (.slice a8 b8 c8) /\ X.cell? ⟨W.heap.size + 1, 5, none⟩ = some (.int .i64 i5) /\ X.cell? ⟨W.heap.size + 1, 6, none⟩ = some (.int .i64 i6) /\ X.cell? ⟨W.heap.size + 1, 7, none⟩ = some (.int .i64 i7) /\ X.cell? ⟨W.heap.size + 1, 8, none⟩ = some (.int .i64 i8)) /\
    (X.cell? ⟨W.heap.size + 2, 0, none⟩ = some (.int .u8 t.kind) /\ X.cell? ⟨W.heap.size + 2, 1, none⟩ = some (.int .i64 t.width) /\ X.cell? ⟨W.heap.size + 2, 3, none⟩ = some (.string t.name) /\ X.cell? ⟨W.heap.size + 2, 5, none⟩ = some (.slice p nn cap)) from fun X hX => by
    have e1 := (hX.block _ (by omega)).trans hblk1;have e2 := (hX.block _ (by omega)).trans hblk2;have e3 := (hX.block _ (by omega)).trans hblk3;exact ⟨⟨zb e1 rfl, zb e1 rfl, zb e1 rfl, zb e1 rfl, zb e1 rfl, zb e1 rfl, zb e1 rfl⟩, ⟨zb e2 rfl, zb e2 rfl, zb e2 rfl, zb e2 rfl, zb e2 rfl, zb e2 rfl, zb e2 rfl, zb e2 rfl, zb e2 rfl⟩, ⟨zb e3 rfl, zb e3 rfl, zb e3 rfl, zb e3 rfl⟩⟩)
   have HGR := hid (show ∀ X, Below W1.heap.size W1 X -> Below W.heap.size W X from fun X hX => hb1.trans (hX.mono hb1.size));have HG0 := hid (show ∀ X, Below W1.heap.size W1 X -> Below w0.heap.size w0 X from fun X hX => hW0.trans ((hb1.trans (hX.mono hb1.size)).mono hW0.size));have HF1 := hid (Below.refl W1.heap.size W1);rw [zh9, Bool.and_eq_true] at hld
   have HSUB := hid (show ∀ (k : Nat) (u : Tm), t.sub[k]? = some u -> ∃ b o, p = some ⟨b, o, none⟩ /\ u.sz < t.sz /\ (∀ X, Below W1.heap.size W1 X -> (X.cell? ⟨b, o + k * 6, none⟩ = some (.int .u8 u.kind) /\ X.cell? ⟨b, o + k * 6 + 1, none⟩ = some (.int .i64 u.width) /\ X.cell? ⟨b, o + k * 6 + 2, none⟩ = some (.int .u64 u.bits) /\ X.cell? ⟨b, o + k * 6 + 3, none⟩ = some (.string u.name) /\ X.cell? ⟨b, o + k * 6 + 4, none⟩ = some (.int .i64 u.low) /\ X.cell? ⟨b, o + k * 6 + 5, none⟩ = some (S k)) /\
    Calls prog 155 #[.agg #[.string n0, .int .i64 m1, .int .i64 ad, .slice a3 b3 c3, .slice a4 b4 c4, .slice a5 b5 c5, .slice a6 b6 c6], .agg #[.string i0, .int .u64 i1, .int .u64 i2, .slice a7 b7 c7, .slice a8 b8 c8, .int .i64 i5, .int .i64 i6, .int .i64 i7, .int .i64 i8], .agg (Tm.cells u (S k)).toArray] X fun e w' => e = .returned (.bool (z2s V ad u)) /\ Below X.heap.size X w') from fun k u hu => by
    obtain ⟨b, o, rfl, hbn, q0, q1, q2, q3, q4, q5⟩ := hcells k u hu;have hsz := Tm.sz_mem (List.mem_of_getElem? hu);have hsz2 := Tm.sz_eq t;refine ⟨b, o, rfl, by omega, fun X hX => ?_⟩;have hWX := HGR.out X hX;have hlt : b < W.heap.size := Nat.lt_of_lt_of_le hbn hB;exact ⟨⟨by rw [hWX.cell hlt]; exact q0, by rw [hWX.cell hlt]; exact q1, by rw [hWX.cell hlt]; exact q2, by rw [hWX.cell hlt]; exact q3, by rw [hWX.cell hlt]; exact q4, by rw [hWX.cell hlt]; exact q5⟩, ih u (by omega) (by omega) (ze4 hld.2 u (List.mem_of_getElem? hu)) (S k) B X (Nat.le_trans hB hWX.size) ((hsubs k u hu).kept (hWX.mono hB)) (HG0.out X hX)⟩)
   have HLD := hid hld.1;have HLEN := hid hlen;obtain ⟨r, hr⟩ : ∃ r, z2s V ad t = r := ⟨_, rfl⟩;have hr2 := hr;rw [ze0] at hr2;have HR := hid hr2;rw [hr];simp only [Tm.cells];obtain ⟨kd, hkd⟩ : ∃ z, t.kind = z := ⟨_, rfl⟩;rw [hkd] at HW HQ HR HLD;rw [hkd];have hmx : maxLen <= 9223372036854775807 := by decide
   have hnn : nn <= 9223372036854775807 := by omega
   obtain ⟨y0, y1, y2⟩ := HQ.out W1 HF1.out;rw [HW.out] at y0 y1 y2;obtain ⟨x0, x1, x2, x3, x4, x5, x6⟩ := y0;obtain ⟨j0, j1, j2, j3, j4, j5, j6, j7, j8⟩ := y1;obtain ⟨t0, t1, t3, t5⟩ := y2;obtain ⟨nm, hnm⟩ : ∃ z, t.name = z := ⟨_, rfl⟩;obtain ⟨tw, htw⟩ : ∃ z, t.width = z := ⟨_, rfl⟩;rw [hnm] at t3 HQ HR HW;rw [htw] at t1 HQ HR HW;rw [hnm, htw];clear hWa hWb hW1 sa sb hs1 ba bb bc hb1 hblk1 hblk2 hblk3 hcells hsubs hs hr hr2 hld hkd hlen hmax hmx hnm htw ih ht;by_cases hk2 : kd = 2
   ·have g1 : ((kd : Int) == 2) = true := (by simp [hk2]);have g2 : ((kd : Int) == 24) = false := (by simp [hk2]);have HKD := hid hk2;clear hk2;have hv := HV.out nm tw;obtain ⟨qv, hqv⟩ : ∃ q, V nm tw = q := ⟨_, rfl⟩;rw [hqv] at hv HR;have HVC := hid (show ∀ X, Below W1.heap.size W1 X -> Calls prog 169 #[.agg #[.string n0, .int .i64 m1, .int .i64 ad, .slice a3 b3 c3, .slice a4 b4 c4, .slice a5 b5 c5, .slice a6 b6 c6], .agg #[.string i0, .int .u64 i1, .int .u64 i2, .slice a7 b7 c7, .slice a8 b8 c8, .int .i64 i5, .int .i64 i6, .int .i64 i7, .int .i64 i8], .string nm, .int .i64 tw] X fun e w' => e = .returned (.bool qv) /\ Below W1.heap.size W1 w' from fun X hX => (hv X (HG0.out X hX)).mono fun e w' ⟨g1, g2⟩ => ⟨g1, hX.trans (g2.mono hX.size)⟩);clear hv hqv
    cases qv with
    | false =>
      obtain rfl : false = r := by have := HR.out; simpa [HKD.out] using this
      go_enter Tryz.func155, Tryz.ntmps155
      go_wp2_with (go_at_call 169; (with_reducible refine (HVC.out _ (by rw [<- HW.out]; exact HF1.out)).mono ?_); rintro e w5 ⟨rfl, hb5⟩)
      go_ret
      exact ⟨rfl, HGR.out _ hb5⟩
    | true =>
      have HG1 := hid (show z2j V ad (t.sub.drop 0) = r by have := HR.out; rw [List.drop_zero]; simpa [HKD.out] using this);go_enter Tryz.func155, Tryz.ntmps155
      go_wp2_with (go_at_call 169; (with_reducible refine (HVC.out _ (by rw [<- HW.out]; exact HF1.out)).mono ?_); rintro e w5 ⟨rfl, hb5⟩)
      have HBC := hid hb5;clear x0 x1 x2 x3 x4 x5 x6 j0 j1 j2 j3 j4 j5 j6 j7 j8 t0 t1 t3 t5;obtain ⟨_, _, t0, _, _, _⟩ := HQ.out _ hb5;have KT := cell_regrown t0;clear t0 hb5;refine wp_region_quiet_below (by kernel_rfl) (by kernel_rfl) ?_;repeat (first | go_big_quiet_step (fail) | quiet_step (fail))
      refine wpQuiet_nil ?_;intro G hG;have hbG : Below W1.heap.size W1 G := (by obtain ⟨p, rfl⟩ := hG; exact HBC.out.trans ((below_regrown _ _ _).mono HBC.out.size));clear hG KT;have HBG := hid hbG;clear hbG;go_wp2
      go_loopw [7] (fun vi wr => ∃ (k : Nat), vi = .int .i64 k /\ k <= nn /\ Hid (Below W1.heap.size W1 wr /\ z2j V ad (t.sub.drop k) = r)) (fun vi _ => nn - (intOf vi).toNat)
      case atStart => exact ⟨0, rfl, Nat.zero_le _, hid ⟨HBG.out, HG1.out⟩⟩
      case round =>
       obtain ⟨k, rfl, hk, HI⟩ := hrel;obtain ⟨hbx, hg⟩ := HI.out;obtain ⟨⟨x0, x1, x2, x3, x4, x5, x6⟩, ⟨j0, j1, j2, j3, j4, j5, j6, j7, j8⟩, t0, t1, t3, t5⟩ := HQ.out _ hbx;have HBX := hid hbx;by_cases hlt : k < nn
       ·obtain ⟨u, hu⟩ : ∃ u, t.sub[k]? = some u := ⟨_, List.getElem?_eq_getElem (by rw [HLEN.out]; exact hlt)⟩;obtain ⟨b, o, e2, _, hsu⟩ := HSUB.out k u hu;subst e2;obtain ⟨⟨u0, u1, u2, u3, u4, u5⟩, _⟩ := hsu _ hbx;rw [z1j hu] at hg;have hg2 : (z2s V ad u && z2j V ad (t.sub.drop (k + 1))) = r := hg;obtain ⟨q, hq⟩ : ∃ q, z2s V ad u = q := ⟨_, rfl⟩;rw [hq] at hg2;have IK := hid (show ∀ d os, Calls prog 155 #[.agg #[.string n0, .int .i64 m1, .int .i64 ad, .slice a3 b3 c3, .slice a4 b4 c4, .slice a5 b5 c5, .slice a6 b6 c6], .agg #[.string i0, .int .u64 i1, .int .u64 i2, .slice a7 b7 c7, .slice a8 b8 c8, .int .i64 i5, .int .i64 i6, .int .i64 i7, .int .i64 i8], .agg #[.int .u8 u.kind, .int .i64 u.width, .int .u64 u.bits, .string u.name, .int .i64 u.low, S k]] (grow (redrawn wr d) os) fun e w'' => e = .returned (.bool q) /\ ∃ p : Regrown, w'' = grow (redrawn wr p.d) p.os from fun d os => Calls.regrown_of (w := wr) (d := d) (os := os) (by
         have := (hsu _ (hbx.trans ((below_regrown wr d os).mono hbx.size))).2;rw [hq] at this;exact this))
        have HLT := hid hlt;have hin : (k : Int) < (nn : Int) := (by omega);have hk0 : (0 : Int) <= (k : Int) := Int.natCast_nonneg _;have X0 := cell_regrown x0;have X1 := cell_regrown x1;have X2 := cell_regrown x2;have X3 := cell_regrown x3;have X4 := cell_regrown x4;have X5 := cell_regrown x5;have X6 := cell_regrown x6;have Y0 := cell_regrown j0;have Y1 := cell_regrown j1;have Y2 := cell_regrown j2;have Y3 := cell_regrown j3;have Y4 := cell_regrown j4;have Y5 := cell_regrown j5;have Y6 := cell_regrown j6;have Y7 := cell_regrown j7;have Y8 := cell_regrown j8;have T5 := cell_regrown t5;have U0 := cell_regrown u0;have U1 := cell_regrown u1;have U2 := cell_regrown u2;have U3 := cell_regrown u3;have U4 := cell_regrown u4;have U5 := cell_regrown u5;have HG2 := hid hg2;clear hg hg2 hsu hu HI hbx hlt hq;go_wp2_with fail
        clear x0 x1 x2 x3 x4 x5 x6 j0 j1 j2 j3 j4 j5 j6 j7 j8 t0 t1 t3 t5 u0 u1 u2 u3 u4 u5;refine wp_region_quiet_below (by kernel_rfl) (by kernel_rfl) ?_;repeat (first | go_big_quiet_step (with_reducible exact IK.out _ _) | quiet_step (with_reducible exact IK.out _ _))
        refine wpQuiet_nil ?_;intro G2 hG;have hbG : Below W1.heap.size W1 G2 := (by obtain ⟨p, rfl⟩ := hG; exact HBX.out.trans ((below_regrown wr _ _).mono HBX.out.size));clear hG X0 X1 X2 X3 X4 X5 X6 Y0 Y1 Y2 Y3 Y4 Y5 Y6 Y7 Y8 T5 U0 U1 U2 U3 U4 U5;have HBG2 := hid hbG;clear hbG
        cases q with
        | false =>
          obtain rfl : false = r := by have := HG2.out; simpa using this
          go_wp2
          go_ret
          exact ⟨rfl, HGR.out _ HBG2.out⟩
        | true =>
          have HG3 := hid (show z2j V ad (t.sub.drop (k + 1)) = r by have := HG2.out; rw [Bool.true_and] at this; exact this);go_wp2
          refine ⟨⟨k + 1, by first | rfl | go_num | (congr 1), by have := HLT.out; omega, hid ⟨HBG2.out, HG3.out⟩⟩, by simp only [intOf]; have := HLT.out; omega⟩
       ·obtain rfl : k = nn := by omega
        rw [List.drop_eq_nil_of_le (by rw [HLEN.out]; exact Nat.le_refl _)] at hg;obtain rfl : true = r := hg;clear HI hbx;go_wp2
        go_ret
        exact ⟨rfl, HGR.out _ HBX.out⟩
   ·by_cases hk24 : kd = 24
    ·have g1 : ((kd : Int) == 2) = false := (by simp [hk24]);have g2 : ((kd : Int) == 24) = true := (by simp [hk24]);have HKD := hid hk24;have hl0 : 0 < nn := (by have := HLD.out; rw [HLEN.out] at this; simpa [hk24] using this);clear hk24 hk2;obtain ⟨u, hu⟩ : ∃ u, t.sub[0]? = some u := ⟨_, List.getElem?_eq_getElem (by rw [HLEN.out]; exact hl0)⟩;obtain ⟨bq, oq, e2, _, hsu⟩ := HSUB.out 0 u hu;obtain ⟨⟨_, v1, _, _, _, _⟩, _⟩ := hsu W1 HF1.out;have hhd : t.sub.headD default = u := by
      cases hh : t.sub with
      | nil => rw [hh] at hu; simp at hu
      | cons a l => rw [hh] at hu; simpa using hu
     rw [hhd] at HR;have hln0 : (0 : Int) < (nn : Int) := (by omega);have v1' : W1.cell? ⟨bq, oq + 1, none⟩ = some (.int .i64 u.width) := (by simpa using v1);obtain ⟨uw, huw⟩ : ∃ z, u.width = z := ⟨_, rfl⟩;rw [huw] at HR v1';clear hu hsu v1 hhd huw;obtain ⟨⟨_, _, z2, _, _, _, _⟩, _, z0, _, _, z5⟩ := HQ.out W1 HF1.out;rw [e2] at z5;have KT := And.intro (cell_regrown z0) (And.intro (cell_regrown z5) (And.intro (cell_regrown z2) (fun d os => cell_regrown v1' d os)));have HBC := HF1;obtain ⟨qd, hqd⟩ : ∃ q, (uw != ad) = q := ⟨_, rfl⟩;have HQD := hid hqd;clear z0 z5 z2 v1' e2;go_enter Tryz.func155, Tryz.ntmps155
     go_wp2_with fail
     rw [<- HW.out];clear x0 x1 x2 x3 x4 x5 x6 j0 j1 j2 j3 j4 j5 j6 j7 j8 t0 t1 t3 t5;obtain ⟨K1, K2, K3, K4⟩ := KT;have KT := True.intro;refine wp_region_quiet_below (by kernel_rfl) (by kernel_rfl) ?_;repeat (first | go_big_quiet_step (fail) | quiet_step (fail))
     refine wpQuiet_nil ?_;intro G hG;have hbG : Below W1.heap.size W1 G := (by obtain ⟨p, rfl⟩ := hG; exact HBC.out.trans ((below_regrown _ _ _).mono HBC.out.size));clear hG KT K1 K2 K3 K4;have HBG := hid hbG;clear hbG
     cases qd with
     | true =>
       obtain rfl : false = r := by have h9 := HQD.out;have := HR.out;rw [decide_eq_false (show ¬ uw = ad from fun e => by subst e; simp at h9)] at this;simpa [HKD.out] using this
       go_wp2
       go_ret
       exact ⟨rfl, HGR.out _ HBG.out⟩
     | false =>
       have HG1 := hid (show z2j V ad (t.sub.drop 0) = r by have h9 := HQD.out;have := HR.out;rw [decide_eq_true (show uw = ad by simpa using h9)] at this;rw [List.drop_zero];simpa [HKD.out] using this)
       go_wp2
       go_loopw [7] (fun vi wr => ∃ (k : Nat), vi = .int .i64 k /\ k <= nn /\ Hid (Below W1.heap.size W1 wr /\ z2j V ad (t.sub.drop k) = r)) (fun vi _ => nn - (intOf vi).toNat)
       case atStart => exact ⟨0, rfl, Nat.zero_le _, hid ⟨HBG.out, HG1.out⟩⟩
       case round =>
        obtain ⟨k, rfl, hk, HI⟩ := hrel;obtain ⟨hbx, hg⟩ := HI.out;obtain ⟨⟨x0, x1, x2, x3, x4, x5, x6⟩, ⟨j0, j1, j2, j3, j4, j5, j6, j7, j8⟩, t0, t1, t3, t5⟩ := HQ.out _ hbx;have HBX := hid hbx;by_cases hlt : k < nn
        ·obtain ⟨u, hu⟩ : ∃ u, t.sub[k]? = some u := ⟨_, List.getElem?_eq_getElem (by rw [HLEN.out]; exact hlt)⟩;obtain ⟨b, o, e2, _, hsu⟩ := HSUB.out k u hu;subst e2;obtain ⟨⟨u0, u1, u2, u3, u4, u5⟩, _⟩ := hsu _ hbx;rw [z1j hu] at hg;have hg2 : (z2s V ad u && z2j V ad (t.sub.drop (k + 1))) = r := hg;obtain ⟨q, hq⟩ : ∃ q, z2s V ad u = q := ⟨_, rfl⟩;rw [hq] at hg2;have IK := hid (show ∀ d os, Calls prog 155 #[.agg #[.string n0, .int .i64 m1, .int .i64 ad, .slice a3 b3 c3, .slice a4 b4 c4, .slice a5 b5 c5, .slice a6 b6 c6], .agg #[.string i0, .int .u64 i1, .int .u64 i2, .slice a7 b7 c7, .slice a8 b8 c8, .int .i64 i5, .int .i64 i6, .int .i64 i7, .int .i64 i8], .agg #[.int .u8 u.kind, .int .i64 u.width, .int .u64 u.bits, .string u.name, .int .i64 u.low, S k]] (grow (redrawn wr d) os) fun e w'' => e = .returned (.bool q) /\ ∃ p : Regrown, w'' = grow (redrawn wr p.d) p.os from fun d os => Calls.regrown_of (w := wr) (d := d) (os := os) (by
          have := (hsu _ (hbx.trans ((below_regrown wr d os).mono hbx.size))).2;rw [hq] at this;exact this))
         have HLT := hid hlt;have hin : (k : Int) < (nn : Int) := (by omega);have hk0 : (0 : Int) <= (k : Int) := Int.natCast_nonneg _;have X0 := cell_regrown x0;have X1 := cell_regrown x1;have X2 := cell_regrown x2;have X3 := cell_regrown x3;have X4 := cell_regrown x4;have X5 := cell_regrown x5;have X6 := cell_regrown x6;have Y0 := cell_regrown j0;have Y1 := cell_regrown j1;have Y2 := cell_regrown j2;have Y3 := cell_regrown j3;have Y4 := cell_regrown j4;have Y5 := cell_regrown j5;have Y6 := cell_regrown j6;have Y7 := cell_regrown j7;have Y8 := cell_regrown j8;have T5 := cell_regrown t5;have U0 := cell_regrown u0;have U1 := cell_regrown u1;have U2 := cell_regrown u2;have U3 := cell_regrown u3;have U4 := cell_regrown u4;have U5 := cell_regrown u5;have HG2 := hid hg2;clear hg hg2 hsu hu HI hbx hlt hq;go_wp2_with fail
         clear x0 x1 x2 x3 x4 x5 x6 j0 j1 j2 j3 j4 j5 j6 j7 j8 t0 t1 t3 t5 u0 u1 u2 u3 u4 u5;refine wp_region_quiet_below (by kernel_rfl) (by kernel_rfl) ?_;repeat (first | go_big_quiet_step (with_reducible exact IK.out _ _) | quiet_step (with_reducible exact IK.out _ _))
         refine wpQuiet_nil ?_;intro G2 hG;have hbG : Below W1.heap.size W1 G2 := (by obtain ⟨p, rfl⟩ := hG; exact HBX.out.trans ((below_regrown wr _ _).mono HBX.out.size));clear hG X0 X1 X2 X3 X4 X5 X6 Y0 Y1 Y2 Y3 Y4 Y5 Y6 Y7 Y8 T5 U0 U1 U2 U3 U4 U5;have HBG2 := hid hbG;clear hbG
         cases q with
         | false =>
           obtain rfl : false = r := by have := HG2.out; simpa using this
           go_wp2
           go_ret
           exact ⟨rfl, HGR.out _ HBG2.out⟩
         | true =>
           have HG3 := hid (show z2j V ad (t.sub.drop (k + 1)) = r by have := HG2.out; rw [Bool.true_and] at this; exact this);go_wp2
           refine ⟨⟨k + 1, by first | rfl | go_num | (congr 1), by have := HLT.out; omega, hid ⟨HBG2.out, HG3.out⟩⟩, by simp only [intOf]; have := HLT.out; omega⟩
        ·obtain rfl : k = nn := by omega
         rw [List.drop_eq_nil_of_le (by rw [HLEN.out]; exact Nat.le_refl _)] at hg;obtain rfl : true = r := hg;clear HI hbx;go_wp2
         go_ret
         exact ⟨rfl, HGR.out _ HBX.out⟩
    ·have g1 : ((kd : Int) == 2) = false := (by simp; omega);have g2 : ((kd : Int) == 24) = false := (by simp; omega);have HG1 := hid (show z2j V ad (t.sub.drop 0) = r by have := HR.out; rw [List.drop_zero]; simpa [hk2, hk24] using this);have HBC := HF1;obtain ⟨_, _, z0, _, _, _⟩ := HQ.out W1 HF1.out;have KT := cell_regrown z0;clear z0;go_enter Tryz.func155, Tryz.ntmps155
     go_wp2_with fail
     rw [<- HW.out];clear x0 x1 x2 x3 x4 x5 x6 j0 j1 j2 j3 j4 j5 j6 j7 j8 t0 t1 t3 t5;refine wp_region_quiet_below (by kernel_rfl) (by kernel_rfl) ?_;repeat (first | go_big_quiet_step (fail) | quiet_step (fail))
     refine wpQuiet_nil ?_;intro G hG;have hbG : Below W1.heap.size W1 G := (by obtain ⟨p, rfl⟩ := hG; exact HBC.out.trans ((below_regrown _ _ _).mono HBC.out.size));clear hG KT;have HBG := hid hbG;clear hbG;go_wp2
     go_loopw [7] (fun vi wr => ∃ (k : Nat), vi = .int .i64 k /\ k <= nn /\ Hid (Below W1.heap.size W1 wr /\ z2j V ad (t.sub.drop k) = r)) (fun vi _ => nn - (intOf vi).toNat)
     case atStart => exact ⟨0, rfl, Nat.zero_le _, hid ⟨HBG.out, HG1.out⟩⟩
     case round =>
      obtain ⟨k, rfl, hk, HI⟩ := hrel;obtain ⟨hbx, hg⟩ := HI.out;obtain ⟨⟨x0, x1, x2, x3, x4, x5, x6⟩, ⟨j0, j1, j2, j3, j4, j5, j6, j7, j8⟩, t0, t1, t3, t5⟩ := HQ.out _ hbx;have HBX := hid hbx;by_cases hlt : k < nn
      ·obtain ⟨u, hu⟩ : ∃ u, t.sub[k]? = some u := ⟨_, List.getElem?_eq_getElem (by rw [HLEN.out]; exact hlt)⟩;obtain ⟨b, o, e2, _, hsu⟩ := HSUB.out k u hu;subst e2;obtain ⟨⟨u0, u1, u2, u3, u4, u5⟩, _⟩ := hsu _ hbx;rw [z1j hu] at hg;have hg2 : (z2s V ad u && z2j V ad (t.sub.drop (k + 1))) = r := hg;obtain ⟨q, hq⟩ : ∃ q, z2s V ad u = q := ⟨_, rfl⟩;rw [hq] at hg2;have IK := hid (show ∀ d os, Calls prog 155 #[.agg #[.string n0, .int .i64 m1, .int .i64 ad, .slice a3 b3 c3, .slice a4 b4 c4, .slice a5 b5 c5, .slice a6 b6 c6], .agg #[.string i0, .int .u64 i1, .int .u64 i2, .slice a7 b7 c7, .slice a8 b8 c8, .int .i64 i5, .int .i64 i6, .int .i64 i7, .int .i64 i8], .agg #[.int .u8 u.kind, .int .i64 u.width, .int .u64 u.bits, .string u.name, .int .i64 u.low, S k]] (grow (redrawn wr d) os) fun e w'' => e = .returned (.bool q) /\ ∃ p : Regrown, w'' = grow (redrawn wr p.d) p.os from fun d os => Calls.regrown_of (w := wr) (d := d) (os := os) (by
        have := (hsu _ (hbx.trans ((below_regrown wr d os).mono hbx.size))).2;rw [hq] at this;exact this))
       have HLT := hid hlt;have hin : (k : Int) < (nn : Int) := (by omega);have hk0 : (0 : Int) <= (k : Int) := Int.natCast_nonneg _;have X0 := cell_regrown x0;have X1 := cell_regrown x1;have X2 := cell_regrown x2;have X3 := cell_regrown x3;have X4 := cell_regrown x4;have X5 := cell_regrown x5;have X6 := cell_regrown x6;have Y0 := cell_regrown j0;have Y1 := cell_regrown j1;have Y2 := cell_regrown j2;have Y3 := cell_regrown j3;have Y4 := cell_regrown j4;have Y5 := cell_regrown j5;have Y6 := cell_regrown j6;have Y7 := cell_regrown j7;have Y8 := cell_regrown j8;have T5 := cell_regrown t5;have U0 := cell_regrown u0;have U1 := cell_regrown u1;have U2 := cell_regrown u2;have U3 := cell_regrown u3;have U4 := cell_regrown u4;have U5 := cell_regrown u5;have HG2 := hid hg2;clear hg hg2 hsu hu HI hbx hlt hq;go_wp2_with fail
       clear x0 x1 x2 x3 x4 x5 x6 j0 j1 j2 j3 j4 j5 j6 j7 j8 t0 t1 t3 t5 u0 u1 u2 u3 u4 u5;refine wp_region_quiet_below (by kernel_rfl) (by kernel_rfl) ?_;repeat (first | go_big_quiet_step (with_reducible exact IK.out _ _) | quiet_step (with_reducible exact IK.out _ _))
       refine wpQuiet_nil ?_;intro G2 hG;have hbG : Below W1.heap.size W1 G2 := (by obtain ⟨p, rfl⟩ := hG; exact HBX.out.trans ((below_regrown wr _ _).mono HBX.out.size));clear hG X0 X1 X2 X3 X4 X5 X6 Y0 Y1 Y2 Y3 Y4 Y5 Y6 Y7 Y8 T5 U0 U1 U2 U3 U4 U5;have HBG2 := hid hbG;clear hbG
       cases q with
       | false =>
         obtain rfl : false = r := by have := HG2.out; simpa using this
         go_wp2
         go_ret
         exact ⟨rfl, HGR.out _ HBG2.out⟩
       | true =>
         have HG3 := hid (show z2j V ad (t.sub.drop (k + 1)) = r by have := HG2.out; rw [Bool.true_and] at this; exact this);go_wp2
         refine ⟨⟨k + 1, by first | rfl | go_num | (congr 1), by have := HLT.out; omega, hid ⟨HBG2.out, HG3.out⟩⟩, by simp only [intOf]; have := HLT.out; omega⟩
      ·obtain rfl : k = nn := by omega
       rw [List.drop_eq_nil_of_le (by rw [HLEN.out]; exact Nat.le_refl _)] at hg;obtain rfl : true = r := hg;clear HI hbx;go_wp2
       go_ret
       exact ⟨rfl, HGR.out _ HBX.out⟩
end Go.Proofs.YtdmadnfadgggcaaGreatDoor
