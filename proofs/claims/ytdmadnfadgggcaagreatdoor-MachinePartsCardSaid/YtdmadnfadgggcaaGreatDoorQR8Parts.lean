import Derived.Test.YtdmadnfadgggcaaGreatDoorPk
import Derived.Test.YtdmadnfadgggcaaGreatDoorQR8Check
import Derived.Test.YtdmadnfadgggcaaGreatDoorPe
set_option linter.unusedVariables false
set_option linter.unusedSimpArgs false
set_option warningAsError false
set_option maxHeartbeats 2000000
open Go.Lib (hid)
open Go.Proofs.Tryz (prog)
namespace Go.Proofs.YtdmadnfadgggcaaGreatDoor
open Go.RowKit Go.Instr Go.Sort
set_option maxRecDepth 100000
theorem z8d (w : World) (v : Value) (m : Mach) (hm : zz w v m) (hs : MachSmall m) (s : ByteArray) :
 Calls prog 9 #[v, .string s] w fun e w' => e = .returned (.tuple #[.int .i64 (z2b m (fun x : MReg => x.name.toList == s.toList) m.regs), .int .i64 (z1s m (fun x : MReg => x.name.toList == s.toList) m.regs)]) /\ Below w.heap.size w w' := by
 have hm' := hm;obtain ⟨cs0, rfl, sr, sb, su, si, hcs, h1, h2, h3, hR, hB, hU, hI⟩ := hm;obtain rfl : cs0 = #[.string m.name, .int .i64 m.word, .int .i64 m.address, sr, sb, su, si] := by cases cs0; simp_all
 obtain ⟨A3, c3, rfl, _⟩ := id hR;obtain ⟨A6, c6, rfl, _⟩ := id hI;obtain ⟨n, hn⟩ : ∃ z, m.regs.length = z := ⟨_, rfl⟩;obtain ⟨k, hk⟩ : ∃ z, m.instrs.length = z := ⟨_, rfl⟩;have HN := hid hn;have HK := hid hk;rw [hn] at hm';rw [hk] at hm';rw [hn, hk];have hn4 : n <= 9223372036854775807 := by have := hs.regs; omega
 have hk4 : k <= 9223372036854775807 := by have := hs.instrs; omega
 have hn100 : n <= 100 := by have := hs.regs; omega
 obtain ⟨W1, hW1⟩ : ∃ W1, W1 = w.alloc (.cells #[.string m.name, .int .i64 m.word, .int .i64 m.address, .slice A3 n c3, sb, su, .slice A6 k c6] 27) := ⟨_, rfl⟩;have hb1 : Below w.heap.size w W1 := by rw [hW1]; exact (Below.refl _ _).alloc (Nat.le_refl _) _
 have hl1 : w.heap.size < W1.heap.size := by rw [hW1]; simp
 have hblk1 : W1.heap[w.heap.size]? = some (.cells #[.string m.name, .int .i64 m.word, .int .i64 m.address, .slice A3 n c3, sb, su, .slice A6 k c6] 27) := by rw [hW1]; exact heap_alloc_new _ _
 have HQ := hid (show ∀ X, Below W1.heap.size W1 X -> X.cell? ⟨w.heap.size, 0, none⟩ = some (.string m.name) /\ X.cell? ⟨w.heap.size, 1, none⟩ = some (.int .i64 m.word) /\ X.cell? ⟨w.heap.size, 2, none⟩ = some (.int .i64 m.address) /\ X.cell? ⟨w.heap.size, 3, none⟩ = some (.slice A3 n c3) /\ X.cell? ⟨w.heap.size, 4, none⟩ = some sb /\ X.cell? ⟨w.heap.size, 5, none⟩ = some su /\ X.cell? ⟨w.heap.size, 6, none⟩ = some (.slice A6 k c6) from fun X hX => by have e1 := (hX.block _ hl1).trans hblk1;exact ⟨zb e1 rfl, zb e1 rfl, zb e1 rfl, zb e1 rfl, zb e1 rfl, zb e1 rfl, zb e1 rfl⟩)
 have HGR := hid (show ∀ X, Below W1.heap.size W1 X -> Below w.heap.size w X from fun X hX => hb1.trans (hX.mono hb1.size));have HMV := hid (show ∀ X, Below W1.heap.size W1 X -> zz X (.agg #[.string m.name, .int .i64 m.word, .int .i64 m.address, .slice A3 n c3, sb, su, .slice A6 k c6]) m from fun X hX => hm'.kept (HGR.out X hX));obtain ⟨ce, hce⟩ : ∃ z, chkR m = z := ⟨_, rfl⟩;have HCK := hid ((z2a W1 (.agg #[.string m.name, .int .i64 m.word, .int .i64 m.address, .slice A3 n c3, sb, su, .slice A6 k c6]) m (hm'.kept hb1) hs).mono (R' := fun e w' => e = .returned (.int .i64 ce) /\ Below W1.heap.size W1 w') fun e w' ⟨h1, h2⟩ => ⟨by rw [h1, hce], h2⟩);rw [hW1] at HCK;have HW1 := hid hW1;have HCE := hid hce;have HRR := hid (show zf 4 regE w (.slice A3 n c3) m.regs by rw [hn] at hR; exact hR);obtain ⟨at_, hat⟩ : ∃ z, z2b m (fun x : MReg => x.name.toList == s.toList) m.regs = z := ⟨_, rfl⟩;obtain ⟨er, her⟩ : ∃ z, z1s m (fun x : MReg => x.name.toList == s.toList) m.regs = z := ⟨_, rfl⟩;rw [hat, her];have HAT := hid hat;have HER := hid her;obtain ⟨L, hL⟩ : ∃ z, m.regs = z := ⟨_, rfl⟩;rw [hL] at HRR HAT HER;have HLN := hid (show L.length = n by rw [<- hL]; exact hn);have hq : ce = 0 ∨ ce ≠ 0 := by omega
 rcases hq with rfl | hne
 ·clear hR hB hU hI hcs hW1 hblk1 hl1 hb1 hm' hn hk hs hat her hL hce;go_enter Tryz.func9, Tryz.ntmps9
  go_wp2_with (go_at_call 38; (with_reducible refine HCK.out.mono ?_); rintro e w3 ⟨rfl, hb3⟩; rw [<- HW1.out] at hb3; obtain ⟨x0, x1, x2, x3, x4, x5, x6⟩ := HQ.out _ hb3)
  have HB3 := hid hb3;clear x0 x1 x2 x3 x4 x5 x6 hb3;go_loopw [7] (fun vi wr => ∃ i : Nat, vi = .int .i64 i /\ i <= n /\ Hid (Below W1.heap.size W1 wr /\ ∀ j y, j < i -> L[j]? = some y -> (y.name.toList == s.toList) = false)) (fun vi _ => n - (intOf vi).toNat)
  case atStart => exact ⟨0, rfl, Nat.zero_le _, hid ⟨HB3.out, fun j y hj => absurd hj (Nat.not_lt_zero _)⟩⟩
  case round =>
   obtain ⟨i, rfl, hi, HJ⟩ := hrel;obtain ⟨hbx, hmet⟩ := HJ.out;obtain ⟨x0, x1, x2, x3, x4, x5, x6⟩ := HQ.out _ hbx;have HBX := hid hbx;by_cases hlt : i < n
   ·obtain ⟨y, hy⟩ : ∃ y, L[i]? = some y := ⟨_, List.getElem?_eq_getElem (by rw [HLN.out]; exact hlt)⟩;obtain ⟨A', c', e1, _, _, _, hall⟩ := HRR.out;obtain ⟨b, o, cs, e2, hb, _, hcell, hE⟩ := hall i y hy;obtain ⟨rfl, rfl⟩ : A3 = A' /\ c3 = c' := by cases e1; exact ⟨rfl, rfl⟩
    subst e2;have p0 : wr.cell? ⟨b, o + i * 4, none⟩ = some (.string y.name) := by rw [(HGR.out _ hbx).cell hb];obtain ⟨rfl, _⟩ := hE;simpa using hcell 0 _ rfl
    obtain ⟨yn, hyn⟩ : ∃ z, y.name = z := ⟨_, rfl⟩;rw [hyn] at p0;obtain ⟨q, hq⟩ : ∃ q, (yn.toList == s.toList) = q := ⟨_, rfl⟩;have hin : (i : Int) < (n : Int) := (by omega);have hi0 : (0 : Int) <= (i : Int) := Int.natCast_nonneg _;have HLT := hid hlt
    cases q with
    | true =>
      have hix : ixF (fun x : MReg => x.name.toList == s.toList) L = (i : Int) := z32 hy (by rw [hyn]; exact hq) hmet;obtain rfl : (i : Int) = at_ := by rw [<- HAT.out];unfold z2b;rw [if_pos HCE.out, hix, if_pos (Int.natCast_nonneg _)]
      obtain rfl : 0 = er := by rw [<- HER.out];unfold z1s;rw [if_pos HCE.out, hix, if_pos (Int.natCast_nonneg _)]
      clear hmet HJ hbx hall hcell hy e1 hyn hlt hix hE;go_wp2
      exact bodyPost_ret (v := .tuple #[.int .i64 (i : Nat), .int .i64 0]) (by simp [results, Tryz.results9, go_sem]) rfl ⟨rfl, HGR.out _ HBX.out⟩
    | false =>
      have HM := hid (show ∀ j u, j < i + 1 -> L[j]? = some u -> (u.name.toList == s.toList) = false from fun j u hj hu => by
       rcases Nat.lt_or_ge j i with h | h
       ·exact hmet j u h hu
       ·obtain rfl : j = i := by omega
        rw [hy] at hu;obtain rfl := Option.some.inj hu;rw [hyn];exact hq)
      clear hmet HJ hbx hall hcell hy e1 hyn hlt hE;go_wp2
      refine ⟨⟨i + 1, by first | rfl | go_num | (congr 1), by have := HLT.out; omega, hid ⟨HBX.out, HM.out⟩⟩, by simp only [intOf]; have := HLT.out; omega⟩
   ·obtain rfl : i = n := by omega
    have hix : ixF (fun x : MReg => x.name.toList == s.toList) L = -1 := z2d fun j u hj hu => hmet j u (by rw [<- HLN.out]; exact hj) hu;obtain rfl : 0 = at_ := by rw [<- HAT.out];unfold z2b;rw [if_pos HCE.out, hix];rfl
    obtain rfl : 6 = er := by rw [<- HER.out];unfold z1s;rw [if_pos HCE.out, hix];rfl
    clear hmet HJ hbx hix;go_wp2
    exact bodyPost_ret (v := .tuple #[.int .i64 0, .int .i64 6]) (by simp [results, Tryz.results9, go_sem]) rfl ⟨rfl, HGR.out _ HBX.out⟩
 ·have g : (ce != 0) = true := by simp [hne]
  obtain rfl : 0 = at_ := by rw [<- HAT.out];unfold z2b;rw [if_neg (by rw [HCE.out]; exact hne)]
  obtain rfl : ce = er := by rw [<- HER.out];unfold z1s;rw [if_neg (by rw [HCE.out]; exact hne), HCE.out]
  clear hR hB hU hI hcs hW1 hblk1 hl1 hb1 hm' hn hk hs hat her hL hce hne;go_enter Tryz.func9, Tryz.ntmps9
  go_wp2_with (go_at_call 38; (with_reducible refine HCK.out.mono ?_); rintro e w3 ⟨rfl, hb3⟩; rw [<- HW1.out] at hb3; obtain ⟨x0, x1, x2, x3, x4, x5, x6⟩ := HQ.out _ hb3)
  exact bodyPost_ret (v := .tuple #[.int .i64 0, .int .i64 ce]) (by simp [results, Tryz.results9, go_sem]) rfl ⟨rfl, HGR.out _ hb3⟩
theorem z5y (w : World) (v : Value) (m : Mach) (hm : zz w v m) (hs : MachSmall m) (s : ByteArray) :
 Calls prog 11 #[v, .string s] w fun e w' => e = .returned (.tuple #[.int .i64 (z2b m (fun x : MIns => x.name.toList == s.toList) m.instrs), .int .i64 (z1s m (fun x : MIns => x.name.toList == s.toList) m.instrs)]) /\ Below w.heap.size w w' := by
 have hm' := hm;obtain ⟨cs0, rfl, sr, sb, su, si, hcs, h1, h2, h3, hR, hB, hU, hI⟩ := hm;obtain rfl : cs0 = #[.string m.name, .int .i64 m.word, .int .i64 m.address, sr, sb, su, si] := by cases cs0; simp_all
 obtain ⟨A3, c3, rfl, _⟩ := id hR;obtain ⟨A6, c6, rfl, _⟩ := id hI;obtain ⟨n, hn⟩ : ∃ z, m.regs.length = z := ⟨_, rfl⟩;obtain ⟨k, hk⟩ : ∃ z, m.instrs.length = z := ⟨_, rfl⟩;have HN := hid hn;have HK := hid hk;rw [hn] at hm';rw [hk] at hm';rw [hn, hk];have hn4 : n <= 9223372036854775807 := by have := hs.regs; omega
 have hk4 : k <= 9223372036854775807 := by have := hs.instrs; omega
 have hn100 : n <= 100 := by have := hs.regs; omega
 obtain ⟨W1, hW1⟩ : ∃ W1, W1 = w.alloc (.cells #[.string m.name, .int .i64 m.word, .int .i64 m.address, .slice A3 n c3, sb, su, .slice A6 k c6] 27) := ⟨_, rfl⟩;have hb1 : Below w.heap.size w W1 := by rw [hW1]; exact (Below.refl _ _).alloc (Nat.le_refl _) _
 have hl1 : w.heap.size < W1.heap.size := by rw [hW1]; simp
 have hblk1 : W1.heap[w.heap.size]? = some (.cells #[.string m.name, .int .i64 m.word, .int .i64 m.address, .slice A3 n c3, sb, su, .slice A6 k c6] 27) := by rw [hW1]; exact heap_alloc_new _ _
 have HQ := hid (show ∀ X, Below W1.heap.size W1 X -> X.cell? ⟨w.heap.size, 0, none⟩ = some (.string m.name) /\ X.cell? ⟨w.heap.size, 1, none⟩ = some (.int .i64 m.word) /\ X.cell? ⟨w.heap.size, 2, none⟩ = some (.int .i64 m.address) /\ X.cell? ⟨w.heap.size, 3, none⟩ = some (.slice A3 n c3) /\ X.cell? ⟨w.heap.size, 4, none⟩ = some sb /\ X.cell? ⟨w.heap.size, 5, none⟩ = some su /\ X.cell? ⟨w.heap.size, 6, none⟩ = some (.slice A6 k c6) from fun X hX => by have e1 := (hX.block _ hl1).trans hblk1;exact ⟨zb e1 rfl, zb e1 rfl, zb e1 rfl, zb e1 rfl, zb e1 rfl, zb e1 rfl, zb e1 rfl⟩)
 have HGR := hid (show ∀ X, Below W1.heap.size W1 X -> Below w.heap.size w X from fun X hX => hb1.trans (hX.mono hb1.size));have HMV := hid (show ∀ X, Below W1.heap.size W1 X -> zz X (.agg #[.string m.name, .int .i64 m.word, .int .i64 m.address, .slice A3 n c3, sb, su, .slice A6 k c6]) m from fun X hX => hm'.kept (HGR.out X hX));obtain ⟨ce, hce⟩ : ∃ z, chkR m = z := ⟨_, rfl⟩;have HCK := hid ((z2a W1 (.agg #[.string m.name, .int .i64 m.word, .int .i64 m.address, .slice A3 n c3, sb, su, .slice A6 k c6]) m (hm'.kept hb1) hs).mono (R' := fun e w' => e = .returned (.int .i64 ce) /\ Below W1.heap.size W1 w') fun e w' ⟨h1, h2⟩ => ⟨by rw [h1, hce], h2⟩);rw [hW1] at HCK;have HW1 := hid hW1;have HCE := hid hce;have HRR := hid (show zf 9 insE w (.slice A6 k c6) m.instrs by rw [hk] at hI; exact hI);obtain ⟨at_, hat⟩ : ∃ z, z2b m (fun x : MIns => x.name.toList == s.toList) m.instrs = z := ⟨_, rfl⟩;obtain ⟨er, her⟩ : ∃ z, z1s m (fun x : MIns => x.name.toList == s.toList) m.instrs = z := ⟨_, rfl⟩;rw [hat, her];have HAT := hid hat;have HER := hid her;obtain ⟨L, hL⟩ : ∃ z, m.instrs = z := ⟨_, rfl⟩;rw [hL] at HRR HAT HER;have HLN := hid (show L.length = k by rw [<- hL]; exact hk);have hq : ce = 0 ∨ ce ≠ 0 := by omega
 rcases hq with rfl | hne
 ·clear hR hB hU hI hcs hW1 hblk1 hl1 hb1 hm' hn hk hs hat her hL hce;go_enter Tryz.func11, Tryz.ntmps11
  go_wp2_with (go_at_call 38; (with_reducible refine HCK.out.mono ?_); rintro e w3 ⟨rfl, hb3⟩; rw [<- HW1.out] at hb3; obtain ⟨x0, x1, x2, x3, x4, x5, x6⟩ := HQ.out _ hb3)
  have HB3 := hid hb3;clear x0 x1 x2 x3 x4 x5 x6 hb3;go_loopw [7] (fun vi wr => ∃ i : Nat, vi = .int .i64 i /\ i <= k /\ Hid (Below W1.heap.size W1 wr /\ ∀ j y, j < i -> L[j]? = some y -> (y.name.toList == s.toList) = false)) (fun vi _ => k - (intOf vi).toNat)
  case atStart => exact ⟨0, rfl, Nat.zero_le _, hid ⟨HB3.out, fun j y hj => absurd hj (Nat.not_lt_zero _)⟩⟩
  case round =>
   obtain ⟨i, rfl, hi, HJ⟩ := hrel;obtain ⟨hbx, hmet⟩ := HJ.out;obtain ⟨x0, x1, x2, x3, x4, x5, x6⟩ := HQ.out _ hbx;have HBX := hid hbx;by_cases hlt : i < k
   ·obtain ⟨y, hy⟩ : ∃ y, L[i]? = some y := ⟨_, List.getElem?_eq_getElem (by rw [HLN.out]; exact hlt)⟩;obtain ⟨A', c', e1, _, _, _, hall⟩ := HRR.out;obtain ⟨b, o, cs, e2, hb, _, hcell, hE⟩ := hall i y hy;obtain ⟨rfl, rfl⟩ : A6 = A' /\ c6 = c' := by cases e1; exact ⟨rfl, rfl⟩
    subst e2;have p0 : wr.cell? ⟨b, o + i * 9, none⟩ = some (.string y.name) := by rw [(HGR.out _ hbx).cell hb];obtain ⟨_, _, rfl, _⟩ := hE;simpa using hcell 0 _ rfl
    obtain ⟨yn, hyn⟩ : ∃ z, y.name = z := ⟨_, rfl⟩;rw [hyn] at p0;obtain ⟨q, hq⟩ : ∃ q, (yn.toList == s.toList) = q := ⟨_, rfl⟩;have hin : (i : Int) < (k : Int) := (by omega);have hi0 : (0 : Int) <= (i : Int) := Int.natCast_nonneg _;have HLT := hid hlt
    cases q with
    | true =>
      have hix : ixF (fun x : MIns => x.name.toList == s.toList) L = (i : Int) := z32 hy (by rw [hyn]; exact hq) hmet;obtain rfl : (i : Int) = at_ := by rw [<- HAT.out];unfold z2b;rw [if_pos HCE.out, hix, if_pos (Int.natCast_nonneg _)]
      obtain rfl : 0 = er := by rw [<- HER.out];unfold z1s;rw [if_pos HCE.out, hix, if_pos (Int.natCast_nonneg _)]
      clear hmet HJ hbx hall hcell hy e1 hyn hlt hix hE;go_wp2
      exact bodyPost_ret (v := .tuple #[.int .i64 (i : Nat), .int .i64 0]) (by simp [results, Tryz.results11, go_sem]) rfl ⟨rfl, HGR.out _ HBX.out⟩
    | false =>
      have HM := hid (show ∀ j u, j < i + 1 -> L[j]? = some u -> (u.name.toList == s.toList) = false from fun j u hj hu => by
       rcases Nat.lt_or_ge j i with h | h
       ·exact hmet j u h hu
       ·obtain rfl : j = i := by omega
        rw [hy] at hu;obtain rfl := Option.some.inj hu;rw [hyn];exact hq)
      clear hmet HJ hbx hall hcell hy e1 hyn hlt hE;go_wp2
      refine ⟨⟨i + 1, by first | rfl | go_num | (congr 1), by have := HLT.out; omega, hid ⟨HBX.out, HM.out⟩⟩, by simp only [intOf]; have := HLT.out; omega⟩
   ·obtain rfl : i = k := by omega
    have hix : ixF (fun x : MIns => x.name.toList == s.toList) L = -1 := z2d fun j u hj hu => hmet j u (by rw [<- HLN.out]; exact hj) hu;obtain rfl : 0 = at_ := by rw [<- HAT.out];unfold z2b;rw [if_pos HCE.out, hix];rfl
    obtain rfl : 6 = er := by rw [<- HER.out];unfold z1s;rw [if_pos HCE.out, hix];rfl
    clear hmet HJ hbx hix;go_wp2
    exact bodyPost_ret (v := .tuple #[.int .i64 0, .int .i64 6]) (by simp [results, Tryz.results11, go_sem]) rfl ⟨rfl, HGR.out _ HBX.out⟩
 ·have g : (ce != 0) = true := by simp [hne]
  obtain rfl : 0 = at_ := by rw [<- HAT.out];unfold z2b;rw [if_neg (by rw [HCE.out]; exact hne)]
  obtain rfl : ce = er := by rw [<- HER.out];unfold z1s;rw [if_neg (by rw [HCE.out]; exact hne), HCE.out]
  clear hR hB hU hI hcs hW1 hblk1 hl1 hb1 hm' hn hk hs hat her hL hce hne;go_enter Tryz.func11, Tryz.ntmps11
  go_wp2_with (go_at_call 38; (with_reducible refine HCK.out.mono ?_); rintro e w3 ⟨rfl, hb3⟩; rw [<- HW1.out] at hb3; obtain ⟨x0, x1, x2, x3, x4, x5, x6⟩ := HQ.out _ hb3)
  exact bodyPost_ret (v := .tuple #[.int .i64 0, .int .i64 ce]) (by simp [results, Tryz.results11, go_sem]) rfl ⟨rfl, HGR.out _ hb3⟩
theorem zcl (w : World) (v : Value) (m : Mach) (hm : zz w v m) (hs : MachSmall m) :
 Calls prog 13 #[v] w fun e w' => ∃ sv, e = .returned (.tuple #[sv, .int .i64 (chkR m)]) /\ (chkR m = 0 -> zf 1 intE w' sv ((z29 m.regs).map fun (z : Nat) => (z : Int))) /\ (chkR m ≠ 0 -> sv = .slice none 0 0) /\ Below w.heap.size w w' := by
 have hm' := hm;obtain ⟨cs0, rfl, sr, sb, su, si, hcs, h1, h2, h3, hR, hB, hU, hI⟩ := hm;obtain rfl : cs0 = #[.string m.name, .int .i64 m.word, .int .i64 m.address, sr, sb, su, si] := by cases cs0; simp_all
 obtain ⟨A3, c3, rfl, _⟩ := id hR;obtain ⟨A6, c6, rfl, _⟩ := id hI;obtain ⟨n, hn⟩ : ∃ z, m.regs.length = z := ⟨_, rfl⟩;obtain ⟨k, hk⟩ : ∃ z, m.instrs.length = z := ⟨_, rfl⟩;have HN := hid hn;have HK := hid hk;rw [hn] at hm';rw [hk] at hm';rw [hn, hk];have hn4 : n <= 9223372036854775807 := by have := hs.regs; omega
 have hk4 : k <= 9223372036854775807 := by have := hs.instrs; omega
 have hn100 : n <= 100 := by have := hs.regs; omega
 obtain ⟨W1, hW1⟩ : ∃ W1, W1 = w.alloc (.cells #[.string m.name, .int .i64 m.word, .int .i64 m.address, .slice A3 n c3, sb, su, .slice A6 k c6] 27) := ⟨_, rfl⟩;have hb1 : Below w.heap.size w W1 := by rw [hW1]; exact (Below.refl _ _).alloc (Nat.le_refl _) _
 have hl1 : w.heap.size < W1.heap.size := by rw [hW1]; simp
 have hblk1 : W1.heap[w.heap.size]? = some (.cells #[.string m.name, .int .i64 m.word, .int .i64 m.address, .slice A3 n c3, sb, su, .slice A6 k c6] 27) := by rw [hW1]; exact heap_alloc_new _ _
 have HQ := hid (show ∀ X, Below W1.heap.size W1 X -> X.cell? ⟨w.heap.size, 0, none⟩ = some (.string m.name) /\ X.cell? ⟨w.heap.size, 1, none⟩ = some (.int .i64 m.word) /\ X.cell? ⟨w.heap.size, 2, none⟩ = some (.int .i64 m.address) /\ X.cell? ⟨w.heap.size, 3, none⟩ = some (.slice A3 n c3) /\ X.cell? ⟨w.heap.size, 4, none⟩ = some sb /\ X.cell? ⟨w.heap.size, 5, none⟩ = some su /\ X.cell? ⟨w.heap.size, 6, none⟩ = some (.slice A6 k c6) from fun X hX => by have e1 := (hX.block _ hl1).trans hblk1;exact ⟨zb e1 rfl, zb e1 rfl, zb e1 rfl, zb e1 rfl, zb e1 rfl, zb e1 rfl, zb e1 rfl⟩)
 have HGR := hid (show ∀ X, Below W1.heap.size W1 X -> Below w.heap.size w X from fun X hX => hb1.trans (hX.mono hb1.size));have HMV := hid (show ∀ X, Below W1.heap.size W1 X -> zz X (.agg #[.string m.name, .int .i64 m.word, .int .i64 m.address, .slice A3 n c3, sb, su, .slice A6 k c6]) m from fun X hX => hm'.kept (HGR.out X hX));obtain ⟨ce, hce⟩ : ∃ z, chkR m = z := ⟨_, rfl⟩;have HCK := hid ((z2a W1 (.agg #[.string m.name, .int .i64 m.word, .int .i64 m.address, .slice A3 n c3, sb, su, .slice A6 k c6]) m (hm'.kept hb1) hs).mono (R' := fun e w' => e = .returned (.int .i64 ce) /\ Below W1.heap.size W1 w') fun e w' ⟨h1, h2⟩ => ⟨by rw [h1, hce], h2⟩);rw [hW1] at HCK;have HW1 := hid hW1;have HCE := hid hce;rw [hce];have hq : ce = 0 ∨ ce ≠ 0 := by omega
 rcases hq with rfl | hne
 ·have hreg := (z3f hce).2.2.1;have HTP := hid (show ∀ X, Below W1.heap.size W1 X -> Calls prog 43 #[.agg #[.string m.name, .int .i64 m.word, .int .i64 m.address, .slice A3 n c3, sb, su, .slice A6 k c6]] X fun e w' => ∃ sv, e = .returned sv /\ zf 1 intE w' sv ((z29 m.regs).map fun (z : Nat) => (z : Int)) /\ Below W1.heap.size W1 w' from fun X hX => (z5a X _ m (HMV.out X hX) (by omega) hreg).mono fun e w' ⟨sv, g1, g2, g3⟩ => ⟨sv, g1, g2, hX.trans (g3.mono hX.size)⟩);clear hR hB hU hI hcs hW1 hblk1 hl1 hb1 hm' hn hk hs hce hreg;go_enter Tryz.func13, Tryz.ntmps13
  go_wp2_with (first
   | (go_at_call 38; (with_reducible refine HCK.out.mono ?_); rintro e w3 ⟨rfl, hb3⟩; rw [<- HW1.out] at hb3; obtain ⟨x0, x1, x2, x3, x4, x5, x6⟩ := HQ.out _ hb3)
   | (go_at_call 43; (with_reducible refine (HTP.out _ hb3).mono ?_); rintro e w4 ⟨sv, rfl, hrow, hb4⟩))
  exact bodyPost_ret (v := .tuple #[sv, .int .i64 0]) (by simp [results, Tryz.results13, go_sem]) rfl ⟨sv, rfl, fun _ => hrow, fun h => absurd rfl h, HGR.out _ hb4⟩
 ·have g : (ce != 0) = true := by simp [hne]
  have HNE := hid hne;clear hR hB hU hI hcs hW1 hblk1 hl1 hb1 hm' hn hk hs hce hne;go_enter Tryz.func13, Tryz.ntmps13
  go_wp2_with (go_at_call 38; (with_reducible refine HCK.out.mono ?_); rintro e w3 ⟨rfl, hb3⟩; rw [<- HW1.out] at hb3; obtain ⟨x0, x1, x2, x3, x4, x5, x6⟩ := HQ.out _ hb3)
  exact bodyPost_ret (v := .tuple #[.slice none 0 0, .int .i64 ce]) (by simp [results, Tryz.results13, go_sem]) rfl ⟨_, rfl, fun h => absurd h HNE.out, fun _ => rfl, HGR.out _ hb3⟩
theorem zel (w : World) (v : Value) (m : Mach) (hm : zz w v m) (hs : MachSmall m) (a : Int) :
 Calls prog 15 #[v, .int .i64 a] w fun e w' => e = .returned (.tuple #[.int .i64 (z1y m a).1, .int .i64 (z1y m a).2.1, .int .i64 (z1y m a).2.2, .int .i64 (zy m [a])]) /\ Below w.heap.size w w' := by
 have hm' := hm;obtain ⟨cs0, rfl, sr, sb, su, si, hcs, h1, h2, h3, hR, hB, hU, hI⟩ := hm;obtain rfl : cs0 = #[.string m.name, .int .i64 m.word, .int .i64 m.address, sr, sb, su, si] := by cases cs0; simp_all
 obtain ⟨A3, c3, rfl, _⟩ := id hR;obtain ⟨A6, c6, rfl, _⟩ := id hI;obtain ⟨n, hn⟩ : ∃ z, m.regs.length = z := ⟨_, rfl⟩;obtain ⟨k, hk⟩ : ∃ z, m.instrs.length = z := ⟨_, rfl⟩;have HN := hid hn;have HK := hid hk;rw [hn] at hm';rw [hk] at hm';rw [hn, hk];have hn4 : n <= 9223372036854775807 := by have := hs.regs; omega
 have hk4 : k <= 9223372036854775807 := by have := hs.instrs; omega
 have hn100 : n <= 100 := by have := hs.regs; omega
 obtain ⟨W1, hW1⟩ : ∃ W1, W1 = w.alloc (.cells #[.string m.name, .int .i64 m.word, .int .i64 m.address, .slice A3 n c3, sb, su, .slice A6 k c6] 27) := ⟨_, rfl⟩;have hb1 : Below w.heap.size w W1 := by rw [hW1]; exact (Below.refl _ _).alloc (Nat.le_refl _) _
 have hl1 : w.heap.size < W1.heap.size := by rw [hW1]; simp
 have hblk1 : W1.heap[w.heap.size]? = some (.cells #[.string m.name, .int .i64 m.word, .int .i64 m.address, .slice A3 n c3, sb, su, .slice A6 k c6] 27) := by rw [hW1]; exact heap_alloc_new _ _
 have HQ := hid (show ∀ X, Below W1.heap.size W1 X -> X.cell? ⟨w.heap.size, 0, none⟩ = some (.string m.name) /\ X.cell? ⟨w.heap.size, 1, none⟩ = some (.int .i64 m.word) /\ X.cell? ⟨w.heap.size, 2, none⟩ = some (.int .i64 m.address) /\ X.cell? ⟨w.heap.size, 3, none⟩ = some (.slice A3 n c3) /\ X.cell? ⟨w.heap.size, 4, none⟩ = some sb /\ X.cell? ⟨w.heap.size, 5, none⟩ = some su /\ X.cell? ⟨w.heap.size, 6, none⟩ = some (.slice A6 k c6) from fun X hX => by have e1 := (hX.block _ hl1).trans hblk1;exact ⟨zb e1 rfl, zb e1 rfl, zb e1 rfl, zb e1 rfl, zb e1 rfl, zb e1 rfl, zb e1 rfl⟩)
 have HGR := hid (show ∀ X, Below W1.heap.size W1 X -> Below w.heap.size w X from fun X hX => hb1.trans (hX.mono hb1.size));have HMV := hid (show ∀ X, Below W1.heap.size W1 X -> zz X (.agg #[.string m.name, .int .i64 m.word, .int .i64 m.address, .slice A3 n c3, sb, su, .slice A6 k c6]) m from fun X hX => hm'.kept (HGR.out X hX));obtain ⟨ce, hce⟩ : ∃ z, chkR m = z := ⟨_, rfl⟩;have HCK := hid ((z2a W1 (.agg #[.string m.name, .int .i64 m.word, .int .i64 m.address, .slice A3 n c3, sb, su, .slice A6 k c6]) m (hm'.kept hb1) hs).mono (R' := fun e w' => e = .returned (.int .i64 ce) /\ Below W1.heap.size W1 w') fun e w' ⟨h1, h2⟩ => ⟨by rw [h1, hce], h2⟩);rw [hW1] at HCK;have HW1 := hid hW1;have HCE := hid hce;have hw1 : wrap64 ((n : Nat) - 1) = (n : Nat) - 1 := zd _ (by omega) (by omega);have HIN := hid (fun X => z1d X a 0 ((n : Nat) - 1));have hq : ce = 0 ∨ ce ≠ 0 := by omega
 rcases hq with rfl | hne
 ·by_cases hin : 0 <= a /\ a <= (n : Nat) - 1
  ·obtain ⟨i, rfl⟩ : ∃ i : Nat, a = (i : Int) := ⟨a.toNat, by omega⟩;obtain ⟨y, hy⟩ : ∃ y, m.regs[i]? = some y := ⟨_, List.getElem?_eq_getElem (by omega)⟩;have e0 : zy m [(i : Int)] = 0 := by
    unfold zy;rw [if_pos hce, if_pos];simp only [List.all_cons, List.all_nil, Bool.and_true];unfold idxM;exact decide_eq_true (by omega)
   have e1 : z1y m (i : Int) = (z1l m.regs i y, y.low, y.width) := by unfold z1y;rw [if_pos e0];simp only [Int.toNat_natCast, hy]
   rw [e0, e1];obtain ⟨P, hP⟩ : ∃ z, z1l m.regs i y = z := ⟨_, rfl⟩;obtain ⟨yl, hyl⟩ : ∃ z, y.low = z := ⟨_, rfl⟩;obtain ⟨yw, hyw⟩ : ∃ z, y.width = z := ⟨_, rfl⟩;have HPC := hid (show ∀ X, Below W1.heap.size W1 X -> Calls prog 47 #[.agg #[.string m.name, .int .i64 m.word, .int .i64 m.address, .slice A3 n c3, sb, su, .slice A6 k c6], .int .i64 (i : Nat)] X fun e w' => e = .returned (.tuple #[.int .i64 P, .int .i64 yl, .int .i64 yw]) /\ Below W1.heap.size W1 w' from fun X hX => (z3i X _ m (HMV.out X hX) hce i y hy).mono fun e w' ⟨g1, g2⟩ => ⟨by rw [g1, hP, hyl, hyw], hX.trans (g2.mono hX.size)⟩);rw [decide_eq_true hin] at HIN;simp only [hP, hyl, hyw];clear hR hB hU hI hcs hW1 hblk1 hl1 hb1 hm' hn hk hs hce hy e0 e1 hP hyl hyw hin;go_enter Tryz.func15, Tryz.ntmps15
   go_wp2_with (first
    | (go_at_call 38; (with_reducible refine HCK.out.mono ?_); rintro e w3 ⟨rfl, hb3⟩; rw [<- HW1.out] at hb3; obtain ⟨x0, x1, x2, x3, x4, x5, x6⟩ := HQ.out _ hb3)
    | (go_at_call 46; (with_reducible refine (HIN.out _).mono ?_); rintro e w4 ⟨rfl, rfl⟩)
    | (go_at_call 47; (with_reducible refine (HPC.out _ hb3).mono ?_); rintro e w5 ⟨rfl, hb5⟩))
   exact bodyPost_ret (v := .tuple #[.int .i64 P, .int .i64 yl, .int .i64 yw, .int .i64 0]) (by simp [results, Tryz.results15, go_sem]) rfl ⟨rfl, HGR.out _ hb5⟩
  ·have e0 : zy m [a] = 2 := by
    unfold zy;rw [if_pos hce, if_neg];simp only [List.all_cons, List.all_nil, Bool.and_true];unfold idxM;simp only [decide_eq_true_eq];omega
   have e1 : z1y m a = (0, 0, 0) := by unfold z1y;rw [if_neg (by rw [e0]; decide)]
   rw [e0, e1];rw [decide_eq_false hin] at HIN;clear hR hB hU hI hcs hW1 hblk1 hl1 hb1 hm' hn hk hs hce e0 e1 hin;go_enter Tryz.func15, Tryz.ntmps15
   go_wp2_with (first
    | (go_at_call 38; (with_reducible refine HCK.out.mono ?_); rintro e w3 ⟨rfl, hb3⟩; rw [<- HW1.out] at hb3; obtain ⟨x0, x1, x2, x3, x4, x5, x6⟩ := HQ.out _ hb3)
    | (go_at_call 46; (with_reducible refine (HIN.out _).mono ?_); rintro e w4 ⟨rfl, rfl⟩))
   exact bodyPost_ret (v := .tuple #[.int .i64 0, .int .i64 0, .int .i64 0, .int .i64 2]) (by simp [results, Tryz.results15, go_sem]) rfl ⟨rfl, HGR.out _ hb3⟩
 ·have g : (ce != 0) = true := by simp [hne]
  have g' : (ce == 0) = false := by simp [hne]
  have e0 : zy m [a] = ce := by unfold zy;rw [if_neg (by rw [hce]; exact hne), hce]
  have e1 : z1y m a = (0, 0, 0) := by unfold z1y;rw [if_neg (by rw [e0]; exact hne)]
  rw [e0, e1];clear hR hB hU hI hcs hW1 hblk1 hl1 hb1 hm' hn hk hs hce hne e0 e1;go_enter Tryz.func15, Tryz.ntmps15
  go_wp2_with (go_at_call 38; (with_reducible refine HCK.out.mono ?_); rintro e w3 ⟨rfl, hb3⟩; rw [<- HW1.out] at hb3; obtain ⟨x0, x1, x2, x3, x4, x5, x6⟩ := HQ.out _ hb3)
  exact bodyPost_ret (v := .tuple #[.int .i64 0, .int .i64 0, .int .i64 0, .int .i64 ce]) (by simp [results, Tryz.results15, go_sem]) rfl ⟨rfl, HGR.out _ hb3⟩
theorem z9h (w : World) (v : Value) (m : Mach) (hm : zz w v m) (hs : MachSmall m) (a b : Int) :
 Calls prog 17 #[v, .int .i64 a, .int .i64 b] w fun e w' => e = .returned (.tuple #[.bool (ovB m a b), .int .i64 (zy m [a, b])]) /\ Below w.heap.size w w' := by
 have hm' := hm;obtain ⟨cs0, rfl, sr, sb, su, si, hcs, h1, h2, h3, hR, hB, hU, hI⟩ := hm;obtain rfl : cs0 = #[.string m.name, .int .i64 m.word, .int .i64 m.address, sr, sb, su, si] := by cases cs0; simp_all
 obtain ⟨A3, c3, rfl, _⟩ := id hR;obtain ⟨A6, c6, rfl, _⟩ := id hI;obtain ⟨n, hn⟩ : ∃ z, m.regs.length = z := ⟨_, rfl⟩;obtain ⟨k, hk⟩ : ∃ z, m.instrs.length = z := ⟨_, rfl⟩;have HN := hid hn;have HK := hid hk;rw [hn] at hm';rw [hk] at hm';rw [hn, hk];have hn4 : n <= 9223372036854775807 := by have := hs.regs; omega
 have hk4 : k <= 9223372036854775807 := by have := hs.instrs; omega
 have hn100 : n <= 100 := by have := hs.regs; omega
 obtain ⟨W1, hW1⟩ : ∃ W1, W1 = w.alloc (.cells #[.string m.name, .int .i64 m.word, .int .i64 m.address, .slice A3 n c3, sb, su, .slice A6 k c6] 27) := ⟨_, rfl⟩;have hb1 : Below w.heap.size w W1 := by rw [hW1]; exact (Below.refl _ _).alloc (Nat.le_refl _) _
 have hl1 : w.heap.size < W1.heap.size := by rw [hW1]; simp
 have hblk1 : W1.heap[w.heap.size]? = some (.cells #[.string m.name, .int .i64 m.word, .int .i64 m.address, .slice A3 n c3, sb, su, .slice A6 k c6] 27) := by rw [hW1]; exact heap_alloc_new _ _
 have HQ := hid (show ∀ X, Below W1.heap.size W1 X -> X.cell? ⟨w.heap.size, 0, none⟩ = some (.string m.name) /\ X.cell? ⟨w.heap.size, 1, none⟩ = some (.int .i64 m.word) /\ X.cell? ⟨w.heap.size, 2, none⟩ = some (.int .i64 m.address) /\ X.cell? ⟨w.heap.size, 3, none⟩ = some (.slice A3 n c3) /\ X.cell? ⟨w.heap.size, 4, none⟩ = some sb /\ X.cell? ⟨w.heap.size, 5, none⟩ = some su /\ X.cell? ⟨w.heap.size, 6, none⟩ = some (.slice A6 k c6) from fun X hX => by have e1 := (hX.block _ hl1).trans hblk1;exact ⟨zb e1 rfl, zb e1 rfl, zb e1 rfl, zb e1 rfl, zb e1 rfl, zb e1 rfl, zb e1 rfl⟩)
 have HGR := hid (show ∀ X, Below W1.heap.size W1 X -> Below w.heap.size w X from fun X hX => hb1.trans (hX.mono hb1.size));have HMV := hid (show ∀ X, Below W1.heap.size W1 X -> zz X (.agg #[.string m.name, .int .i64 m.word, .int .i64 m.address, .slice A3 n c3, sb, su, .slice A6 k c6]) m from fun X hX => hm'.kept (HGR.out X hX));obtain ⟨ce, hce⟩ : ∃ z, chkR m = z := ⟨_, rfl⟩;have HCK := hid ((z2a W1 (.agg #[.string m.name, .int .i64 m.word, .int .i64 m.address, .slice A3 n c3, sb, su, .slice A6 k c6]) m (hm'.kept hb1) hs).mono (R' := fun e w' => e = .returned (.int .i64 ce) /\ Below W1.heap.size W1 w') fun e w' ⟨h1, h2⟩ => ⟨by rw [h1, hce], h2⟩);rw [hW1] at HCK;have HW1 := hid hW1;have HCE := hid hce;have hw1 : wrap64 ((n : Nat) - 1) = (n : Nat) - 1 := zd _ (by omega) (by omega);have hq : ce = 0 ∨ ce ≠ 0 := by omega
 rcases hq with rfl | hne
 ·have HIA := hid (fun X => z1d X a 0 ((n : Nat) - 1));have HIB := hid (fun X => z1d X b 0 ((n : Nat) - 1));by_cases hin : (0 <= a /\ a <= (n : Nat) - 1) /\ (0 <= b /\ b <= (n : Nat) - 1)
  ·obtain ⟨i, rfl⟩ : ∃ i : Nat, a = (i : Int) := ⟨a.toNat, by omega⟩;obtain ⟨j, rfl⟩ : ∃ j : Nat, b = (j : Int) := ⟨b.toNat, by omega⟩;obtain ⟨x, hx⟩ : ∃ y, m.regs[i]? = some y := ⟨_, List.getElem?_eq_getElem (by omega)⟩;obtain ⟨y, hy⟩ : ∃ y, m.regs[j]? = some y := ⟨_, List.getElem?_eq_getElem (by omega)⟩;have e0 : zy m [(i : Int), (j : Int)] = 0 := by
    unfold zy;rw [if_pos hce, if_pos];simp only [List.all_cons, List.all_nil, Bool.and_true, Bool.and_eq_true];unfold idxM;exact ⟨decide_eq_true (by omega), decide_eq_true (by omega)⟩
   have hov : ovB m (i : Int) (j : Int) = zek m.regs i j x y := by unfold ovB;rw [if_pos e0];simp only [Int.toNat_natCast, hx, hy]
   obtain ⟨bx1, bx2, bx3, bx4⟩ := z21 hce x (List.mem_of_getElem? hx);obtain ⟨by1, by2, by3, by4⟩ := z21 hce y (List.mem_of_getElem? hy);rw [e0, hov];unfold zek;obtain ⟨pa, hpa⟩ : ∃ z, z1l m.regs i x = z := ⟨_, rfl⟩;obtain ⟨pb, hpb⟩ : ∃ z, z1l m.regs j y = z := ⟨_, rfl⟩;obtain ⟨xl, hxl⟩ : ∃ z, x.low = z := ⟨_, rfl⟩;obtain ⟨xw, hxw⟩ : ∃ z, x.width = z := ⟨_, rfl⟩;obtain ⟨yl, hyl⟩ : ∃ z, y.low = z := ⟨_, rfl⟩;obtain ⟨yw, hyw⟩ : ∃ z, y.width = z := ⟨_, rfl⟩;have HPA := hid (show ∀ X, Below W1.heap.size W1 X -> Calls prog 47 #[.agg #[.string m.name, .int .i64 m.word, .int .i64 m.address, .slice A3 n c3, sb, su, .slice A6 k c6], .int .i64 (i : Nat)] X fun e w' => e = .returned (.tuple #[.int .i64 pa, .int .i64 xl, .int .i64 xw]) /\ Below W1.heap.size W1 w' from fun X hX => (z3i X _ m (HMV.out X hX) hce i x hx).mono fun e w' ⟨g1, g2⟩ => ⟨by rw [g1, hpa, hxl, hxw], hX.trans (g2.mono hX.size)⟩);have HPB := hid (show ∀ X, Below W1.heap.size W1 X -> Calls prog 47 #[.agg #[.string m.name, .int .i64 m.word, .int .i64 m.address, .slice A3 n c3, sb, su, .slice A6 k c6], .int .i64 (j : Nat)] X fun e w' => e = .returned (.tuple #[.int .i64 pb, .int .i64 yl, .int .i64 yw]) /\ Below W1.heap.size W1 w' from fun X hX => (z3i X _ m (HMV.out X hX) hce j y hy).mono fun e w' ⟨g1, g2⟩ => ⟨by rw [g1, hpb, hyl, hyw], hX.trans (g2.mono hX.size)⟩);rw [hpa, hpb, hxl, hxw, hyl, hyw];rw [hxl, hxw] at bx4;rw [hxl] at bx3;rw [hxw] at bx1 bx2;rw [hyl, hyw] at by4;rw [hyl] at by3;rw [hyw] at by1 by2;have s1 : wrap64 (yl + yw) = yl + yw := zd _ (by omega) (by omega);have s2 : wrap64 (xl + xw) = xl + xw := zd _ (by omega) (by omega);obtain ⟨q1, g1⟩ : ∃ q, (pa == pb) = q := ⟨_, rfl⟩;obtain ⟨q2, g2⟩ : ∃ q, decide (xl < yl + yw) = q := ⟨_, rfl⟩;obtain ⟨q3, g3⟩ : ∃ q, decide (yl < xl + xw) = q := ⟨_, rfl⟩;rw [g1, g2, g3];rw [decide_eq_true hin.1] at HIA;rw [decide_eq_true hin.2] at HIB;clear hR hB hU hI hcs hW1 hblk1 hl1 hb1 hm' hn hk hs hce hx hy hov e0 hpa hpb hxl hxw hyl hyw bx1 bx2 bx3 bx4 by1 by2 by3 by4 hin;have hway : q1 = false ∨ (q1 = true /\ (q2 = false ∨ (q2 = true /\ True))) := by cases q1 <;> cases q2 <;> simp
   rcases hway with rfl | ⟨rfl, rfl | ⟨rfl, _⟩⟩
   all_goals
    try simp only [Bool.false_and, Bool.true_and]
    go_enter Tryz.func17, Tryz.ntmps17
    go_wp2_with (first
     | (go_at_call 38; (with_reducible refine HCK.out.mono ?_); rintro e w3 ⟨rfl, hb3⟩; rw [<- HW1.out] at hb3; obtain ⟨x0, x1, x2, x3, x4, x5, x6⟩ := HQ.out _ hb3)
     | (go_at_call 46; first
       | ((with_reducible refine (HIA.out _).mono ?_); rintro e w4 ⟨rfl, rfl⟩)
       | ((with_reducible refine (HIB.out _).mono ?_); rintro e w4 ⟨rfl, rfl⟩))
     | (go_at_call 47; first
       | ((with_reducible refine (HPB.out _ hb5).mono ?_); rintro e w6 ⟨rfl, hb6⟩)
       | ((with_reducible refine (HPA.out _ hb3).mono ?_); rintro e w5 ⟨rfl, hb5⟩; clear x0 x1 x2 x3 x4 x5 x6; obtain ⟨x0, x1, x2, x3, x4, x5, x6⟩ := HQ.out _ hb5)))
    first
     | exact bodyPost_ret (v := .tuple #[.bool false, .int .i64 0]) (by simp [results, Tryz.results17, go_sem]) rfl ⟨rfl, HGR.out _ hb6⟩
     | exact bodyPost_ret (v := .tuple #[.bool q3, .int .i64 0]) (by simp [results, Tryz.results17, go_sem]) rfl ⟨rfl, HGR.out _ hb6⟩
  ·have e0 : zy m [a, b] = 2 := by
    unfold zy;rw [if_pos hce, if_neg];simp only [List.all_cons, List.all_nil, Bool.and_true, Bool.and_eq_true];unfold idxM;simp only [decide_eq_true_eq];omega
   have hov : ovB m a b = false := by unfold ovB;rw [if_neg (by rw [e0]; decide)]
   rw [e0, hov];obtain ⟨qa, hqa⟩ : ∃ z, decide (0 <= a /\ a <= ((n : Nat) : Int) - 1) = z := ⟨_, rfl⟩;obtain ⟨qb, hqb⟩ : ∃ z, decide (0 <= b /\ b <= ((n : Nat) : Int) - 1) = z := ⟨_, rfl⟩;have hway : qa = false ∨ (qa = true /\ qb = false) := by
    rw [<- hqa, <- hqb];by_cases h1 : 0 <= a /\ a <= ((n : Nat) : Int) - 1
    ·exact .inr ⟨decide_eq_true h1, decide_eq_false fun h2 => hin ⟨h1, h2⟩⟩
    ·exact .inl (decide_eq_false h1)
   rw [hqa] at HIA;rw [hqb] at HIB;clear hR hB hU hI hcs hW1 hblk1 hl1 hb1 hm' hn hk hs hce e0 hov hin hqa hqb;rcases hway with rfl | ⟨rfl, rfl⟩
   all_goals
    go_enter Tryz.func17, Tryz.ntmps17
    go_wp2_with (first
     | (go_at_call 38; (with_reducible refine HCK.out.mono ?_); rintro e w3 ⟨rfl, hb3⟩; rw [<- HW1.out] at hb3; obtain ⟨x0, x1, x2, x3, x4, x5, x6⟩ := HQ.out _ hb3)
     | (go_at_call 46; first
       | ((with_reducible refine (HIA.out _).mono ?_); rintro e w4 ⟨rfl, rfl⟩)
       | ((with_reducible refine (HIB.out _).mono ?_); rintro e w4 ⟨rfl, rfl⟩)))
    exact bodyPost_ret (v := .tuple #[.bool false, .int .i64 2]) (by simp [results, Tryz.results17, go_sem]) rfl ⟨rfl, HGR.out _ hb3⟩
 ·have g : (ce != 0) = true := by simp [hne]
  have g' : (ce == 0) = false := by simp [hne]
  have e0 : zy m [a, b] = ce := by unfold zy;rw [if_neg (by rw [hce]; exact hne), hce]
  have e1 : ovB m a b = false := by unfold ovB;rw [if_neg (by rw [e0]; exact hne)]
  rw [e0, e1];clear hR hB hU hI hcs hW1 hblk1 hl1 hb1 hm' hn hk hs hce hne e0 e1;go_enter Tryz.func17, Tryz.ntmps17
  go_wp2_with (go_at_call 38; (with_reducible refine HCK.out.mono ?_); rintro e w3 ⟨rfl, hb3⟩; rw [<- HW1.out] at hb3; obtain ⟨x0, x1, x2, x3, x4, x5, x6⟩ := HQ.out _ hb3)
  exact bodyPost_ret (v := .tuple #[.bool false, .int .i64 ce]) (by simp [results, Tryz.results17, go_sem]) rfl ⟨rfl, HGR.out _ hb3⟩
end Go.Proofs.YtdmadnfadgggcaaGreatDoor
