import Derived.Test.YtdmadnfadgggcaaGreatDoorQR8Values
import Derived.Test.YtdmadnfadgggcaaGreatDoorQValuesLaid
import Derived.Test.YtdmadnfadgggcaaGreatDoorPe
import Derived.Test.YtdmadnfadgggcaaGreatDoorGr
import Derived.Deep.OwnRows
set_option linter.unusedVariables false
set_option linter.unusedSimpArgs false
set_option warningAsError false
set_option maxHeartbeats 8000000
open Go.Lib (hid)
open Go.Proofs.Tryz (prog)
namespace Go.Proofs.YtdmadnfadgggcaaGreatDoor.machineValues
open Go.RowKit Go.Instr Go.Sort Go.Lib
set_option maxRecDepth 100000
theorem zf3 {w : World} {base g n cap i : Nat} {l : List Nat} (h : w.ownsRow base 49 1 (.slice (some ⟨g, 0, none⟩) n cap) n (uRow l)) (hl : l.length = n) (hi : i < n) : base <= g /\ (∃ y : Nat, w.cell? ⟨g, i, none⟩ = some (.int .u64 (y : Nat))) /\ w.frozen? ⟨g, i, none⟩ = false := by
 obtain ⟨_, h | ⟨g', cap', cur, hv, hg, hh, _, _, _, ht⟩⟩ := h
 ·cases h.1
 ·cases hv;obtain ⟨y, hy⟩ : ∃ y, l[i]? = some y := ⟨_, List.getElem?_eq_getElem (by omega)⟩;refine ⟨hg, ⟨y, zb hh ?_⟩, by simp [World.frozen?, hh]⟩;have e4 : (cur.toList.take (n * 1))[i]? = some (.int .u64 (y : Nat)) := by rw [ht]; unfold uRow; rw [List.getElem?_map, hy]; rfl
  rw [List.getElem?_take] at e4;simp only [Nat.mul_one, hi, if_true] at e4;simpa using e4
theorem walk {H : Type} {enc : TypeId × Value -> H} {W : World} {base : Nat} (v0 v1 : Value) (a2 a3 : Int) {d0 d1 : DataW H} {p0 p1 : List MemPlace} (ok0 : Value.okWide prog W .any base 27 v0) (h0 : DataW.Trod enc prog W 0 (fun _ => true) true 27 v0 d0 p0)
 (ok1 : Value.okWide prog W .any base 48 v1) (h1 : DataW.Trod enc prog W 0 (fun _ => true) true 48 v1 d1 p1)
 (w2 : (Lit.int .i64 a2).wf = true) (w3 : (Lit.int .u64 a3).wf = true) (hL : laidMetH prog Rows.machineValuesRow.laid W) :
 Calls prog 4 #[v0, v1, .int .i64 a2, .int .u64 a3] W fun e w' => e = .returned (.bool true) /\ Below W.heap.size W w' := by
 obtain ⟨m, hm⟩ := z7n ok0 h0;obtain ⟨V, hV⟩ := zeh ok1 h1;have hz2 : -9223372036854775808 <= a2 /\ a2 <= 9223372036854775807 := ze3 w2;obtain ⟨u, rfl, hu⟩ := z94 w3;have hT := z8f W hL;clear ok0 h0 ok1 h1 w2 w3 hL;have hm' := hm;obtain ⟨cs0, rfl, sr, sb, su, si, hcs, h1, h2, h3, hR, hB, hU, hI⟩ := hm;obtain rfl : cs0 = #[.string m.name, .int .i64 m.word, .int .i64 m.address, sr, sb, su, si] := by cases cs0; simp_all
 have hVV := hV;obtain ⟨AV, cV, rfl, hvm, _, _, hvall⟩ := id hV;have hV64 : ∀ x ∈ V, x < 18446744073709551616 := fun x hx => by obtain ⟨j, hj⟩ := List.getElem?_of_mem hx;obtain ⟨_, _, _, _, _, _, _, hE⟩ := hvall j x hj;exact hE.2
 obtain ⟨nu, hnu⟩ : ∃ z, V.length = z := ⟨_, rfl⟩;rw [hnu] at hVV;rw [hnu];obtain ⟨W1, hW1⟩ : ∃ W1, W1 = W.alloc (.cells #[.string m.name, .int .i64 m.word, .int .i64 m.address, sr, sb, su, si] 27) := ⟨_, rfl⟩;have hb1 : Below W.heap.size W W1 := by rw [hW1]; exact (Below.refl _ _).alloc (Nat.le_refl _) _
 have hl1 : W.heap.size < W1.heap.size := by rw [hW1]; simp
 have hblk1 : W1.heap[W.heap.size]? = some (.cells #[.string m.name, .int .i64 m.word, .int .i64 m.address, sr, sb, su, si] 27) := by rw [hW1]; exact heap_alloc_new _ _
 have HQ := hid (show ∀ X, Below W1.heap.size W1 X -> X.cell? ⟨W.heap.size, 0, none⟩ = some (.string m.name) /\ X.cell? ⟨W.heap.size, 1, none⟩ = some (.int .i64 m.word) /\ X.cell? ⟨W.heap.size, 2, none⟩ = some (.int .i64 m.address) /\ X.cell? ⟨W.heap.size, 3, none⟩ = some sr /\ X.cell? ⟨W.heap.size, 4, none⟩ = some sb /\ X.cell? ⟨W.heap.size, 5, none⟩ = some su /\ X.cell? ⟨W.heap.size, 6, none⟩ = some si from fun X hX => by have e1 := (hX.block _ hl1).trans hblk1;exact ⟨zb e1 rfl, zb e1 rfl, zb e1 rfl, zb e1 rfl, zb e1 rfl, zb e1 rfl, zb e1 rfl⟩)
 have HGR := hid (show ∀ X, Below W1.heap.size W1 X -> Below W.heap.size W X from fun X hX => hb1.trans (hX.mono hb1.size));have HW1 := hid hW1;have HF1 := hid (Below.refl W1.heap.size W1);have hMV : ∀ X, Below W1.heap.size W1 X -> zz X (.agg #[.string m.name, .int .i64 m.word, .int .i64 m.address, sr, sb, su, si]) m := fun X hX => hm'.kept (HGR.out X hX);have hTX : ∀ X, Below W1.heap.size W1 X -> zs X := fun X hX => hT.below (HGR.out X hX);have hVX : ∀ X, Below W1.heap.size W1 X -> zf 1 u64E X (.slice AV nu cV) V := fun X hX => hVV.kept (fun cs x hx => u64E.kept hx (HGR.out X hX)) (HGR.out X hX);have HGT := hid (show ∀ X, Below W1.heap.size W1 X -> Calls prog 7 #[.agg #[.string m.name, .int .i64 m.word, .int .i64 m.address, sr, sb, su, si]] X fun e w' => GrE m e /\ Below W1.heap.size W1 w' from fun X hX => (z7h X _ m (hMV X hX)).mono fun e w' ⟨g1, g2⟩ => ⟨g1, hX.trans (g2.mono hX.size)⟩);obtain ⟨rd, hrd⟩ : ∃ z, z6q m V a2 = z := ⟨_, rfl⟩;obtain ⟨re, hre⟩ : ∃ z, z25 m V a2 = z := ⟨_, rfl⟩;obtain ⟨we, hwe⟩ : ∃ z, z5z m V a2 u = z := ⟨_, rfl⟩;obtain ⟨L, hL⟩ : ∃ z, wrL m V a2 u = z := ⟨_, rfl⟩;have hLl : L.length <= nu := by
  rw [<- hL];unfold wrL;split
  ·split
   ·rw [List.length_set]; omega
   ·simp
  ·simp
 have HRD := hid (fun (hs : MachSmall m) X (hX : Below W1.heap.size W1 X) => (zg6 X _ m (hMV X hX) (hTX X hX) hs.effs _ V (hVX X hX) a2 hz2).mono (R' := fun e w' => e = .returned (.tuple #[.int .u64 (rd : Nat), .int .i64 re]) /\ Below X.heap.size X w') fun e w' ⟨g1, g2⟩ => ⟨by rw [g1, hrd, hre], g2⟩);have HRD8 := hid (fun (hs : MachSmall m) (hn : nu <= 100) X (hX : Below W1.heap.size W1 X) => (zeq X _ m (hMV X hX) hs _ V (hVX X hX) (by omega) a2).mono (R' := fun e w' => e = .returned (.tuple #[.int .u64 (rd : Nat), .int .i64 re]) /\ Below X.heap.size X w') fun e w' ⟨g1, g2⟩ => ⟨by rw [g1, hrd, hre], g2⟩);have HWR := hid (fun (hs : MachSmall m) X (hX : Below W1.heap.size W1 X) => (zf0 X _ m (hMV X hX) (hTX X hX) hs.effs _ V (hVX X hX) a2 hz2 u hu).mono (R' := fun e w' => ∃ v', e = .returned (.tuple #[v', .int .i64 we]) /\ zf 1 u64E w' v' L /\ w'.ownsRow X.heap.size 49 1 v' L.length (uRow L) /\ Below X.heap.size X w') fun e w' ⟨v', g1, g2, g3⟩ => ⟨v', by rw [g1, hwe], by rw [<- hL]; exact g2.1, by rw [<- hL]; exact g2.2, g3⟩);have HWR8 := hid (fun (hs : MachSmall m) (hn : nu <= 100) X (hX : Below W1.heap.size W1 X) => (zct X _ m (hMV X hX) hs _ V (hVX X hX) (by omega) a2 u hu).mono (R' := fun e w' => ∃ v', e = .returned (.tuple #[v', .int .i64 we]) /\ zf 1 u64E w' v' L /\ Below X.heap.size X w') fun e w' ⟨v', g1, g2, g3⟩ => ⟨v', by rw [g1, hwe], by rw [<- hL]; exact g2, g3⟩);obtain ⟨i0, hi0, hz0, hz1, hz2'⟩ := info_parts z8e;have HI0 := hid hi0;have HZ0 := hid hz0;have HZ1 := hid hz1;have HZ2 := hid hz2';have HSR := hid (show ∀ X, Below W1.heap.size W1 X -> z7t X AV nu 1 (fun j => .int .u64 (((V[j]?).getD 0 : Nat) : Int)) from fun X hX => by have h := zat (V := V) (by rw [hnu]; exact hVX X hX);rw [hnu] at h;exact h)
 have HUR := hid (show (List.range (nu * 1)).map (fun j => Value.int .u64 (((V[j]?).getD 0 : Nat) : Int)) = uRow V by rw [<- hnu]; exact z5s V);have HVX := hid hVX;have HV64 := hid hV64;have HNU := hid hnu;have HLL := hid hLl;have hmx : maxLen <= 9223372036854775807 := by decide
 have hnu4 : nu <= 9223372036854775807 := by rw [<- hnu]; exact Nat.le_trans hvm hmx
 obtain ⟨x0, x1, x2, x3, x4, x5, x6⟩ := HQ.out W1 HF1.out;rw [hW1] at x0 x1 x2 x3 x4 x5 x6;clear hcs h1 h2 h3 hR hB hU hI hm' hMV hTX hT hVX hV hVV hvall hvm hV64 hW1 hb1 hl1 hblk1 hrd hre hwe hL hLl hz2 hu hnu hi0 hz0 hz1 hz2' hmx;go_enter Tryz.func4, Tryz.ntmps4
 go_wp2_with (first
  | (go_at_call 7; (with_reducible refine (HGT.out _ (by rw [<- HW1.out]; exact HF1.out)).mono ?_); rintro e w4 ⟨⟨g, rfl, hg⟩, hb4⟩; have HG := hid hg; clear hg x0 x1 x2 x3 x4 x5 x6; obtain ⟨x0, x1, x2, x3, x4, x5, x6⟩ := HQ.out _ hb4)
  | (at_builtin; refine Hid.out ?_))
 ·exact bodyPost_ret (v := .bool true) (by simp [results, Tryz.results4, go_sem]) rfl ⟨rfl, HGR.out _ hb4⟩
 ·exact bodyPost_ret (v := .bool true) (by simp [results, Tryz.results4, go_sem]) rfl ⟨rfl, HGR.out _ hb4⟩
 refine hid ?_;have hn100 : nu <= 100 := by omega
 have hsm : MachSmall m := HG.out (by first | assumption | simp_all);have HSM := hid hsm;have HNL := hid hn100;have hba : Below W1.heap.size W1 (w4.alloc (.cells #[] 49)) := hb4.alloc hb4.size _;refine z1v rfl _ _ 48 rfl W1.heap.size 49 i0 (.int .u64 0) 1 8 Tryz.underlying48 HI0.out HZ0.out HZ1.out HZ2.out rfl (by decide) _ 0 [] rfl (z7g w4 W1.heap.size hb4.size) AV nu cV (fun j => .int .u64 (((V[j]?).getD 0 : Nat) : Int)) rfl (HSR.out _ hba) (fun _ => rfl) (by unfold maxLen; omega) (by omega) hba.size ?_;intro v6 w6 hown6 hg6;rw [List.nil_append, Nat.zero_add, HUR.out] at hown6;have hb6 : Below W1.heap.size W1 w6 := hba.grown hg6 hba.size (fun k hk => by cases hk; exact hb4.size);have HR6 := hid (show zf 1 u64E w6 v6 V from z4s (base := W1.heap.size) (by rw [HNU.out]; exact hown6) (by rw [HNU.out]; unfold maxLen; omega) HV64.out);have HB6 := hid hb6;clear hown6 hg6 hba hb4 hsm hn100 x0 x1 x2 x3 x4 x5 x6;obtain ⟨x0, x1, x2, x3, x4, x5, x6⟩ := HQ.out _ hb6
 go_wp2_with (first
  | (go_at_call 18; (with_reducible refine (HRD.out HSM.out _ hb6).mono ?_); rintro e w7 ⟨rfl, hc7⟩; have HC7 := hid hc7; have hb7 := hb6.trans (hc7.mono hb6.size); clear hc7 x0 x1 x2 x3 x4 x5 x6; obtain ⟨x0, x1, x2, x3, x4, x5, x6⟩ := HQ.out _ hb7)
  | (go_at_call 19; (with_reducible refine (HRD8.out HSM.out HNL.out _ hb7).mono ?_); rintro e w8 ⟨rfl, hc8⟩; have HB7 := hid (HC7.out.trans (hc8.mono HC7.out.size)); have hb8 := hb7.trans (hc8.mono hb7.size); clear hc8 x0 x1 x2 x3 x4 x5 x6; obtain ⟨x0, x1, x2, x3, x4, x5, x6⟩ := HQ.out _ hb8)
  | (go_at_call 20; (with_reducible refine (HWR.out HSM.out _ hb8).mono ?_); rintro e w9 ⟨v9, rfl, hr9, ho9, hc9⟩; have HR9 := hid hr9; have HO9 := hid ho9; have HC9 := hid hc9; have hb9 := hb8.trans (hc9.mono hb8.size); obtain ⟨A9, c9, rfl, _⟩ := hr9; clear ho9 hc9 x0 x1 x2 x3 x4 x5 x6; obtain ⟨x0, x1, x2, x3, x4, x5, x6⟩ := HQ.out _ hb9)
  | (go_at_call 21; (with_reducible refine (HWR8.out HSM.out HNL.out _ hb9).mono ?_); rintro e w10 ⟨v10, rfl, hr10, hc10⟩; have HR10 := hid hr10; have HC10 := hid hc10; have hb10 := hb9.trans (hc10.mono hb9.size); clear hr10 hc10 x0 x1 x2 x3 x4 x5 x6)
  | (go_at_call 22; (with_reducible refine (z4m _ _ _ L (HR9.out.kept (fun cs x hx => u64E.kept hx HC10.out) HC10.out) HR10.out (by have := HLL.out; have := HNL.out; omega)).mono ?_); rintro e w11 ⟨rfl, hc11⟩; have HC11 := hid hc11; clear hc11))
 obtain ⟨ln, hln⟩ : ∃ z, L.length = z := ⟨_, rfl⟩;have hl4 : ln <= 9223372036854775807 := by have := HLL.out; have := HNL.out; omega
 have ho9 := HO9.out;rw [hln] at ho9;rw [hln];have hc10 := HC9.out.trans (HC10.out.mono HC9.out.size);have HB11 := hid (show Below w8.heap.size w8 w11 from hc10.trans (HC11.out.mono hc10.size));have HO11 := hid (z52 ho9 (HC10.out.trans (HC11.out.mono HC10.out.size)));have HB8 := hid hb8;have HL := hid hln;clear hc10 ho9 hln hb6 hb7 hb8 hb9 hb10;go_loopw [19] (fun vi wr => ∃ i : Nat, vi = .int .i64 i /\ i <= ln /\ Hid (Below w8.heap.size w8 wr /\ ∃ l : List Nat, l.length = ln /\ wr.ownsRow w8.heap.size 49 1 (.slice A9 ln c9) ln (uRow l))) (fun vi _ => ln - (intOf vi).toNat)
 case atStart => exact ⟨0, rfl, Nat.zero_le _, hid ⟨HB11.out, L, HL.out, HO11.out⟩⟩
 case round =>
  obtain ⟨i, rfl, hi, HJ⟩ := hrel;by_cases hlt : i < ln
  ·obtain ⟨hbj, l, hll, hoj⟩ := HJ.out;obtain ⟨g, rfl⟩ : ∃ g, A9 = some ⟨g, 0, none⟩ := by
    obtain ⟨_, h | ⟨g, cap, _, hv, _⟩⟩ := hoj
    ·exfalso; have := h.2; omega
    ·cases hv; exact ⟨g, rfl⟩
   obtain ⟨hg0, ⟨y, q0⟩, q1⟩ := zf3 hoj hll hlt;have hin : (i : Int) < (ln : Int) := by omega
   have hi0 : (0 : Int) <= (i : Int) := Int.natCast_nonneg _;have HN := hid (show Below w8.heap.size w8 (wr.setCell ⟨g, i, none⟩ (.int .u64 7)) /\ ∃ l : List Nat, l.length = ln /\ (wr.setCell ⟨g, i, none⟩ (.int .u64 7)).ownsRow w8.heap.size 49 1 (.slice (some ⟨g, 0, none⟩) ln c9) ln (uRow l) from by refine ⟨hbj.setCell hg0 _, l.set i 7, by rw [List.length_set]; exact hll, ?_⟩;have h1 := z8b hoj hlt (.int .u64 7);have h2 : (uRow l).set i (.int .u64 7) = uRow (l.set i 7) := (by unfold uRow; rw [List.map_set]; rfl);rw [h2] at h1;exact h1)
   have HLT := hid hlt;clear hbj hll hoj hg0 hlt HJ;go_wp2
   refine ⟨⟨i + 1, by first | rfl | go_num | (congr 1), by have := HLT.out; omega, HN⟩, by simp only [intOf]; have := HLT.out; omega⟩
  ·obtain rfl : i = ln := by omega
   have hbj := HJ.out.1;have HJ1 := hid (HB8.out.trans (hbj.mono HB8.out.size));have HJ6 := hid (show Below w6.heap.size w6 wr from by have := HB7.out;exact (this.trans (hbj.mono this.size)))
   clear hbj HJ;go_wp2_with (go_at_call 22; (with_reducible refine (z4m _ _ _ V (HVX.out _ HJ1.out) (HR6.out.kept (fun cs x hx => u64E.kept hx HJ6.out) HJ6.out) (by have := HNU.out; have := HNL.out; omega)).mono ?_); rintro e w12 ⟨rfl, hc12⟩)
   exact bodyPost_ret (v := .bool true) (by simp [results, Tryz.results4, go_sem]) rfl ⟨rfl, (HGR.out _ HJ1.out).trans (hc12.mono (HGR.out _ HJ1.out).size)⟩
end Go.Proofs.YtdmadnfadgggcaaGreatDoor.machineValues
