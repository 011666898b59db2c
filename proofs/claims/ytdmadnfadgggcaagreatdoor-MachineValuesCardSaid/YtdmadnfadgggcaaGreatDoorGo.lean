import Derived.Test.YtdmadnfadgggcaaGreatDoorGn
import Derived.Test.YtdmadnfadgggcaaGreatDoorGd
set_option linter.unusedVariables false
set_option linter.unusedSimpArgs false
set_option warningAsError false
set_option maxHeartbeats 2000000
open Go.Lib (hid)
open Go.Proofs.Tryz (prog)
namespace Go.Proofs.YtdmadnfadgggcaaGreatDoor
open Go.RowKit Go.Instr Go.Sort
set_option maxRecDepth 100000
def z3w (t : Tm) : Prop := t.sz <= 500 /\ t.dp <= 80 /\ t.long = false
def z60 (f : MEff) : Prop := z3w f.addr /\ z3w f.value /\ z3w f.cond
def z4a (x : MIns) : Prop := x.opers.length <= 14 /\ x.effs.length <= 14 /\ (∀ o ∈ x.opers, o.pieces.length <= 14) /\ ∀ f ∈ x.effs, z60 f
structure MachSmall (m : Mach) : Prop where
 name : m.name.size <= 100
 regs : m.regs.length <= 74
 banks : m.banks.length <= 26
 units : m.units.length <= 18
 instrs : m.instrs.length <= 74
 bank : ∀ b ∈ m.banks, b.regs.length <= 74
 ins : ∀ x ∈ m.instrs, z4a x
theorem z3w.ok {t : Tm} (h : z3w t) : TmOk t := ⟨h.2.2, by have := h.2.1; omega⟩
theorem MachSmall.effs {m : Mach} (h : MachSmall m) : ∀ x ∈ m.instrs, ∀ f ∈ x.effs, z3v f := fun x hx f hf => by obtain ⟨a, b, c⟩ := (h.ins x hx).2.2.2 f hf;exact ⟨a.ok, b.ok, c.ok⟩
theorem z3n {α : Type} {L : List α} {n : Nat} {p : α -> Prop} (hn : L.length = n) (h : ∀ j x, j < n -> L[j]? = some x -> p x) : ∀ x ∈ L, p x := fun x hx => by obtain ⟨i, hi⟩ := List.mem_iff_getElem?.1 hx;exact h i x (by have := (List.getElem?_eq_some_iff.1 hi).1; omega) hi
theorem zce (w : World) (v : Value) (m : Mach) (hm : zz w v m) (hs : ∀ x ∈ m.instrs, z4a x) (hlen : m.instrs.length <= 74) :
 Calls prog 35 #[v] w fun e w' => (∃ z, e = .returned (.int .i64 z)) /\ Below w.heap.size w w' := by
 obtain ⟨cs0, rfl, sr, sb, su, si, hcs, h1, h2, h3, hR, hB, hU, hI⟩ := hm;obtain rfl : cs0 = #[.string m.name, .int .i64 m.word, .int .i64 m.address, sr, sb, su, si] := by cases cs0; simp_all
 have HI := hid hI;obtain ⟨Ai, ci, rfl, hi1, _⟩ := id hI;obtain ⟨n, hn⟩ : ∃ z, m.instrs.length = z := ⟨_, rfl⟩;have HN := hid hn;rw [hn] at HI hi1 hlen;rw [hn];have hn4 : n <= 9223372036854775807 := by omega
 obtain ⟨W1, hW1⟩ : ∃ W1, W1 = w.alloc (.cells #[.string m.name, .int .i64 m.word, .int .i64 m.address, sr, sb, su, .slice Ai n ci] 27) := ⟨_, rfl⟩;have HW1 := hid hW1;have hb1 : Below w.heap.size w W1 := by rw [hW1]; exact (Below.refl _ _).alloc (Nat.le_refl _) _
 have HB1 := hid hb1;have hlt1 : w.heap.size < W1.heap.size := by rw [hW1]; simp
 have hq6 : W1.cell? ⟨w.heap.size, 6, none⟩ = some (.slice Ai n ci) := by rw [hW1]; exact zl rfl rfl
 have HQ6 := hid (show ∀ X, Below W1.heap.size W1 X -> X.cell? ⟨w.heap.size, 6, none⟩ = some (.slice Ai n ci) from fun X hX => (hX.cell (p := ⟨w.heap.size, 6, none⟩) hlt1).trans hq6);have HRF := hid (Below.refl W1.heap.size W1)
 obtain ⟨Z, hZs, hZ⟩ : ∃ Z : Array Value, Z.size = 21 /\ ∀ w, (Instr.alloc 92 true (.tuple #[])).run prog w = .ok (.pointer (some ⟨w.heap.size, 0, none⟩)) (w.alloc (.cells Z 92)) :=
  ⟨#[.int .u8 0, .int .i64 0, .int .i64 0, .int .u8 0, .int .i64 0, .int .u64 0, .string ⟨#[]⟩, .int .i64 0, .slice none 0 0, .int .u8 0, .int .i64 0, .int .u64 0, .string ⟨#[]⟩, .int .i64 0, .slice none 0 0, .int .u8 0, .int .i64 0, .int .u64 0, .string ⟨#[]⟩, .int .i64 0, .slice none 0 0], rfl, fun w => by kernel_rfl⟩
 have HZ := hid hZ;have HZS := hid hZs;have HS := hid hs;clear hZ hZs hR hB hU hI hn hb1 hW1 hs hcs hq6 hlt1;go_enter Tryz.func35, Tryz.ntmps35
 go_wp2
 rw [<- HW1.out];go_loopw [3, 4] (fun vz vi wr => ∃ (z : Int) (i : Nat), vz = .int .i64 z /\ vi = .int .i64 i /\ i <= n /\ Hid (Below W1.heap.size W1 wr)) (fun _ vi _ => n - (intOf vi).toNat)
 case atStart => exact ⟨0, 0, rfl, rfl, Nat.zero_le _, HRF⟩
 case round =>
  obtain ⟨z, i, rfl, rfl, hi, HJ⟩ := hrel;have q6 := HQ6.out _ HJ.out;by_cases hlt : i < n
  ·obtain ⟨x, hx⟩ : ∃ x, m.instrs[i]? = some x := ⟨_, List.getElem?_eq_getElem (by rw [HN.out]; exact hlt)⟩;have hbw := HB1.out.trans (HJ.out.mono HB1.out.size);obtain ⟨A', c', e1, _, _, _, hall⟩ := HI.out.kept (fun cs x hx => insE.kept hx hbw) hbw;obtain ⟨b, o, cs, e2, hb, hcl, hcell, hE⟩ := hall i x hx;obtain ⟨rfl, rfl⟩ : Ai = A' /\ ci = c' := by cases e1; exact ⟨rfl, rfl⟩
   subst e2;obtain ⟨so, se, rfl, _, _, _, hso, hse, _⟩ := hE;have HSE := hid hse;obtain ⟨Ae, ce, rfl, he1, _⟩ := hse;have hsm := HS.out x (List.mem_of_getElem? hx);have HSM := hid hsm;obtain ⟨ne, hne⟩ : ∃ z, x.effs.length = z := ⟨_, rfl⟩;have HNE := hid hne;rw [hne] at HSE he1;have r4 : wr.cell? ⟨b, o + i * 9 + 4, none⟩ = some (.slice Ae ne ce) := by rw [<- hne]; exact hcell 4 _ rfl
   have hne4 : ne <= 9223372036854775807 := by have := hsm.2.1; omega
   have hblt : b < wr.heap.size := hb;have HR4 := hid (show ∀ X, Below wr.heap.size wr X -> X.cell? ⟨b, o + i * 9 + 4, none⟩ = some (.slice Ae ne ce) from fun X hX => (hX.cell (p := ⟨b, o + i * 9 + 4, none⟩) hblt).trans r4);have HRW := hid (Below.refl wr.heap.size wr);have HLT := hid hlt;have hin : (i : Int) < (n : Int) := by omega
   clear hall hcell hx e1 hso hsm hne r4 hcl hbw;have HBW := hid (HB1.out.trans (HJ.out.mono HB1.out.size));have HJ1 := hid HJ.out;have HX := hid (show ∀ X, Below wr.heap.size wr X -> Below W1.heap.size W1 X from fun X hX => HJ1.out.trans (hX.mono HJ1.out.size));clear HJ;go_wp2
   go_loopw [3, 5] (fun vz vj wq => ∃ (z : Int) (j : Nat), vz = .int .i64 z /\ vj = .int .i64 j /\ j <= ne /\ Hid (Below wr.heap.size wr wq)) (fun _ vj _ => ne - (intOf vj).toNat)
   case atStart => exact ⟨z, 0, rfl, rfl, Nat.zero_le _, HRW⟩
   case round =>
    obtain ⟨z2, j, rfl, rfl, hj, HJ⟩ := hrel;have q6 := HQ6.out _ (HX.out _ HJ.out);have r4 := HR4.out _ HJ.out;by_cases hltj : j < ne
    ·obtain ⟨f, hf⟩ : ∃ z, x.effs[j]? = some z := ⟨_, List.getElem?_eq_getElem (by rw [HNE.out]; exact hltj)⟩;have hbw := HBW.out.trans (HJ.out.mono HBW.out.size);obtain ⟨A', c', e1, _, _, _, hall⟩ := HSE.out.kept (fun cs x hx => effE.kept hx HJ.out) HJ.out;obtain ⟨b2, o2, cs, e2, hb2, hcl, hcell, hE⟩ := hall j f hf;obtain ⟨rfl, rfl⟩ : Ae = A' /\ ce = c' := by cases e1; exact ⟨rfl, rfl⟩
     subst e2;have hsf := HSM.out.2.2.2 f (List.mem_of_getElem? hf);obtain ⟨sa, sv, sc, rfl, _, _, _, hfa, hs1, hfv, hs2, hfc, hs3⟩ := hE;have hS : ∀ (t : Tm) (s : Value), SubAt wr wr.heap.size s t.sub -> z3w t -> ∀ X, Below wr.heap.size wr X -> Calls prog 73 #[.agg (Tm.cells t s).toArray] X fun e w' => e = .returned (.int .i64 (t.sz : Nat)) /\ Below X.heap.size X w' := fun t s ht hst X hX => z6r t.sz t (Nat.le_refl _) (by have := hst.1; omega) s X.heap.size X (Nat.le_refl _) (zr ht hX);have hS1 := hS f.addr sa hs1 hsf.1;have hS2 := hS f.value sv hs2 hsf.2.1;have hS3 := hS f.cond sc hs3 hsf.2.2;obtain ⟨S1, n1, z1, _, rfl, _⟩ := hs1.inv;obtain ⟨S2, n2, z2', _, rfl, _⟩ := hs2.inv;obtain ⟨S3, n3, z3, _, rfl, _⟩ := hs3.inv;obtain ⟨CF, hCF⟩ : ∃ CF : Array Value, CF = (([.int .u8 f.kind, .int .i64 f.oper, .int .i64 f.reg] : List Value) ++ Tm.cells f.addr (.slice S1 n1 z1) ++ Tm.cells f.value (.slice S2 n2 z2') ++ Tm.cells f.cond (.slice S3 n3 z3)).toArray := ⟨_, rfl⟩;have hCl : CF.size = 21 := (by rw [hCF]; rfl);have HI79 := hid (show (prog.info? 92).map (·.size) = some CF.size by rw [hCl]; kernel_rfl);have HZ2 := hid (show Z.size = CF.size by rw [hCl]; exact HZS.out);have HONE := hid (show CF.all (·.oneCell') = true by rw [hCF]; simp [Tm.cells, Value.oneCell']);have HCC := hid (show ∀ q v, CF[q]? = some v -> wr.cell? ⟨b2, o2 + j * 21 + q, none⟩ = some v from fun q v hq => hcell q v (by rw [hCF] at hq; simpa using hq));obtain ⟨W2, hW2⟩ : ∃ W2, W2 = wr.alloc (.cells CF 92) := ⟨_, rfl⟩;have HW2 := hid hW2;have hb3 : Below wr.heap.size wr W2 := (by rw [hW2]; exact (Below.refl _ _).alloc (Nat.le_refl _) _);have hnew : ∀ q v, CF[q]? = some v -> W2.cell? ⟨wr.heap.size, q, none⟩ = some v := fun q v hq => by rw [hW2]; exact zl rfl hq
     have hgv : ∀ q : Nat, q < 18 -> ∃ v, W2.cell? ⟨wr.heap.size, 3 + q, none⟩ = some v /\ CF[3 + q]? = some v := fun q hq => ⟨CF[3 + q]'(by omega), hnew _ _ (Array.getElem?_eq_getElem (by omega)), Array.getElem?_eq_getElem (by omega)⟩;have HBR := hid (zg hb3 hb3.size);have i1 := fun d os => Calls.regrown_of (hS1 _ (HBR.out d os));have i2 := fun d os => Calls.regrown_of (hS2 _ (HBR.out d os));have i3 := fun d os => Calls.regrown_of (hS3 _ (HBR.out d os));simp only [Tm.cells] at i1 i2 i3;rw [hCF] at hnew;have k3 : W2.cell? ⟨wr.heap.size, 3, none⟩ = some (.int .u8 (f.addr.kind : Nat)) := hnew 3 _ rfl;have K3 := cell_regrown k3;have k4 : W2.cell? ⟨wr.heap.size, 4, none⟩ = some (.int .i64 f.addr.width) := hnew 4 _ rfl;have K4 := cell_regrown k4;have k5 : W2.cell? ⟨wr.heap.size, 5, none⟩ = some (.int .u64 (f.addr.bits : Nat)) := hnew 5 _ rfl;have K5 := cell_regrown k5;have k6 : W2.cell? ⟨wr.heap.size, 6, none⟩ = some (.string f.addr.name) := hnew 6 _ rfl;have K6 := cell_regrown k6;have k7 : W2.cell? ⟨wr.heap.size, 7, none⟩ = some (.int .i64 f.addr.low) := hnew 7 _ rfl;have K7 := cell_regrown k7;have k8 : W2.cell? ⟨wr.heap.size, 8, none⟩ = some ((.slice S1 n1 z1)) := hnew 8 _ rfl;have K8 := cell_regrown k8;have k9 : W2.cell? ⟨wr.heap.size, 9, none⟩ = some (.int .u8 (f.value.kind : Nat)) := hnew 9 _ rfl;have K9 := cell_regrown k9;have k10 : W2.cell? ⟨wr.heap.size, 10, none⟩ = some (.int .i64 f.value.width) := hnew 10 _ rfl;have K10 := cell_regrown k10;have k11 : W2.cell? ⟨wr.heap.size, 11, none⟩ = some (.int .u64 (f.value.bits : Nat)) := hnew 11 _ rfl;have K11 := cell_regrown k11;have k12 : W2.cell? ⟨wr.heap.size, 12, none⟩ = some (.string f.value.name) := hnew 12 _ rfl;have K12 := cell_regrown k12;have k13 : W2.cell? ⟨wr.heap.size, 13, none⟩ = some (.int .i64 f.value.low) := hnew 13 _ rfl;have K13 := cell_regrown k13;have k14 : W2.cell? ⟨wr.heap.size, 14, none⟩ = some ((.slice S2 n2 z2')) := hnew 14 _ rfl;have K14 := cell_regrown k14;have k15 : W2.cell? ⟨wr.heap.size, 15, none⟩ = some (.int .u8 (f.cond.kind : Nat)) := hnew 15 _ rfl;have K15 := cell_regrown k15;have k16 : W2.cell? ⟨wr.heap.size, 16, none⟩ = some (.int .i64 f.cond.width) := hnew 16 _ rfl;have K16 := cell_regrown k16;have k17 : W2.cell? ⟨wr.heap.size, 17, none⟩ = some (.int .u64 (f.cond.bits : Nat)) := hnew 17 _ rfl;have K17 := cell_regrown k17;have k18 : W2.cell? ⟨wr.heap.size, 18, none⟩ = some (.string f.cond.name) := hnew 18 _ rfl;have K18 := cell_regrown k18;have k19 : W2.cell? ⟨wr.heap.size, 19, none⟩ = some (.int .i64 f.cond.low) := hnew 19 _ rfl;have K19 := cell_regrown k19;have k20 : W2.cell? ⟨wr.heap.size, 20, none⟩ = some ((.slice S3 n3 z3)) := hnew 20 _ rfl;have K20 := cell_regrown k20;have I1 := hid i1;have I2 := hid i2;have I3 := hid i3;have HLJ := hid hltj;have hjn : (j : Int) < (ne : Int) := (by omega);clear i1 i2 i3 hS1 hS2 hS3 hS hall hcell hf e1 hs1 hs2 hs3 hsf hCF hCl hnew hgv hW2 hbw hb3
     go_wp2_with (first
      | (refine z1k rfl 92 _ rfl b2 (o2 + j * 21) rfl CF _ Tryz.underlying92 rfl HI79.out HCC.out ?_)
      | (refine z3d rfl 92 rfl Z HZ.out ?_)
      | (refine z3e rfl 92 _ _ rfl Z CF rfl rfl HI79.out HZ2.out HONE.out ?_))
     rw [<- HW2.out];refine wp_region_quiet_below (by kernel_rfl) (by kernel_rfl) ?_;repeat (first | go_big_quiet_step (first | (with_reducible exact I1.out _ _) | (with_reducible exact I2.out _ _) | (with_reducible exact I3.out _ _)) | quiet_step (first | (with_reducible exact I1.out _ _) | (with_reducible exact I2.out _ _) | (with_reducible exact I3.out _ _)))
     refine wpQuiet_nil ?_;intro G hG;have hbG : Below wr.heap.size wr G := (by obtain ⟨p, rfl⟩ := hG; exact HBR.out _ _);have HG := hid (HJ.out.trans (hbG.mono HJ.out.size));clear hG hbG k3 K3 k4 K4 k5 K5 k6 K6 k7 K7 k8 K8 k9 K9 k10 K10 k11 K11 k12 K12 k13 K13 k14 K14 k15 K15 k16 K16 k17 K17 k18 K18 k19 K19 k20 K20;go_wp2
     go_roundw
     case rel => exact ⟨_, j + 1, rfl, by first | rfl | go_num | (congr 1), by have := HLJ.out; omega, HG⟩
     case measure => simp only [intOf]; have := HLJ.out; omega
    ·obtain rfl : j = ne := by omega
     have HG := hid (HX.out _ HJ.out);go_wp2
     go_roundw
     case rel => exact ⟨z2, i + 1, rfl, by first | rfl | go_num | (congr 1), by have := HLT.out; omega, HG⟩
     case measure => simp only [intOf]; have := HLT.out; omega
  ·obtain rfl : i = n := by omega
   go_wp2
   go_ret
   exact ⟨⟨_, rfl⟩, HB1.out.trans (HJ.out.mono HB1.out.size)⟩
def GrE (m : Mach) (e : Ending) : Prop := ∃ g, e = .returned (.bool g) /\ (g = false -> MachSmall m)
theorem z7h (w : World) (v : Value) (m : Mach) (hm : zz w v m) :
 Calls prog 7 #[v] w fun e w' => GrE m e /\ Below w.heap.size w w' := by
 have hm' := hm;obtain ⟨cs0, rfl, sr, sb, su, si, hcs, h1, h2, h3, hR, hB, hU, hI⟩ := hm;obtain rfl : cs0 = #[.string m.name, .int .i64 m.word, .int .i64 m.address, sr, sb, su, si] := by cases cs0; simp_all
 have HI := hid hI;have HBA := hid hB;obtain ⟨Ai, ci, rfl, hi1, _⟩ := id hI;obtain ⟨Ab, cb, rfl, hbb1, _⟩ := id hB;obtain ⟨Ar, cr, rfl, _⟩ := id hR;obtain ⟨Au, cu, rfl, _⟩ := id hU;obtain ⟨ni, hni⟩ : ∃ z, m.instrs.length = z := ⟨_, rfl⟩;obtain ⟨nb, hnb⟩ : ∃ z, m.banks.length = z := ⟨_, rfl⟩;obtain ⟨nr, hnr⟩ : ∃ z, m.regs.length = z := ⟨_, rfl⟩;obtain ⟨nu, hnu⟩ : ∃ z, m.units.length = z := ⟨_, rfl⟩;obtain ⟨L, hL⟩ : ∃ z, m.name.size = z := ⟨_, rfl⟩;have HNI := hid hni;have HNB := hid hnb;rw [hni] at HI hi1;rw [hnb] at HBA hbb1;have hm2 : ∀ X, Below w.heap.size w X -> zz X (.agg #[.string m.name, .int .i64 m.word, .int .i64 m.address, .slice Ar nr cr, .slice Ab nb cb, .slice Au nu cu, .slice Ai ni ci]) m := fun X hX => by rw [<- hni, <- hnb, <- hnr, <- hnu];exact hm'.kept hX
 have HMV := hid hm2;rw [hni, hnb, hnr, hnu];obtain ⟨W1, hW1⟩ : ∃ W1, W1 = w.alloc (.cells #[.string m.name, .int .i64 m.word, .int .i64 m.address, .slice Ar nr cr, .slice Ab nb cb, .slice Au nu cu, .slice Ai ni ci] 27) := ⟨_, rfl⟩;have HW1 := hid hW1;have hb1 : Below w.heap.size w W1 := by rw [hW1]; exact (Below.refl _ _).alloc (Nat.le_refl _) _
 have HB1 := hid hb1;have hlt1 : w.heap.size < W1.heap.size := by rw [hW1]; simp
 have hblk : W1.heap[w.heap.size]? = some (.cells #[.string m.name, .int .i64 m.word, .int .i64 m.address, .slice Ar nr cr, .slice Ab nb cb, .slice Au nu cu, .slice Ai ni ci] 27) := by rw [hW1]; exact heap_alloc_new _ _
 have HQ := hid (show ∀ X, Below W1.heap.size W1 X -> X.cell? ⟨w.heap.size, 0, none⟩ = some (.string m.name) /\ X.cell? ⟨w.heap.size, 1, none⟩ = some (.int .i64 m.word) /\ X.cell? ⟨w.heap.size, 2, none⟩ = some (.int .i64 m.address) /\ X.cell? ⟨w.heap.size, 3, none⟩ = some (.slice Ar nr cr) /\ X.cell? ⟨w.heap.size, 4, none⟩ = some (.slice Ab nb cb) /\ X.cell? ⟨w.heap.size, 5, none⟩ = some (.slice Au nu cu) /\ X.cell? ⟨w.heap.size, 6, none⟩ = some (.slice Ai ni ci) from fun X hX => by have e := (hX.block _ hlt1).trans hblk;exact ⟨zb e rfl, zb e rfl, zb e rfl, zb e rfl, zb e rfl, zb e rfl, zb e rfl⟩)
 have HRF := hid (Below.refl W1.heap.size W1);have hgr : ∀ X, Below W1.heap.size W1 X -> Below w.heap.size w X := fun X hX => hb1.trans (hX.mono hb1.size);have HGR := hid hgr;have HM0 := hid (show m.name.size <= 100 -> m.regs.length <= 74 -> m.banks.length <= 26 -> m.units.length <= 18 -> m.instrs.length <= 74 -> (∀ b ∈ m.banks, b.regs.length <= 74) -> (∀ x ∈ m.instrs, z4a x) -> MachSmall m from fun a b c d e f g => ⟨a, b, c, d, e, f, g⟩)
 have hHN : ∀ X, Below W1.heap.size W1 X -> (∀ x ∈ m.instrs, z4a x) -> ni <= 74 -> Calls prog 35 #[.agg #[.string m.name, .int .i64 m.word, .int .i64 m.address, .slice Ar nr cr, .slice Ab nb cb, .slice Au nu cu, .slice Ai ni ci]] X fun e w' => (∃ z, e = .returned (.int .i64 z)) /\ Below w.heap.size w w' := fun X hX hs hl =>
  (zce X _ m (hm2 X (hgr X hX)) hs (by omega)).mono fun e w' ⟨h1, h2⟩ => ⟨h1, (hgr X hX).trans (h2.mono (hgr X hX).size)⟩
 have HND := hid hHN;rw [hnr, hnb, hnu, hni, hL] at HM0;clear hHN hgr hblk hlt1 hb1 hW1 hm2 hm' hR hB hU hI hcs hni hnb hnr hnu;have HL := hid hL;by_cases c1 : 100 < L
 ·have c1' : (100 : Int) < ((m.name.size : Nat) : Int) := by omega
  clear hL;go_enter Tryz.func7, Tryz.ntmps7
  go_wp2
  go_ret
  exact ⟨⟨true, rfl, fun h => by cases h⟩, by rw [<- HW1.out]; exact HB1.out⟩
 ·have c1' : ¬ (100 : Int) < ((m.name.size : Nat) : Int) := by omega
  by_cases c2 : 74 < nr
  ·have c2' : (74 : Int) < ((nr : Nat) : Int) := by omega
   clear hL;go_enter Tryz.func7, Tryz.ntmps7
   go_wp2
   go_ret
   exact ⟨⟨true, rfl, fun h => by cases h⟩, by rw [<- HW1.out]; exact HB1.out⟩
  ·have c2' : ¬ (74 : Int) < ((nr : Nat) : Int) := by omega
   by_cases c3 : 26 < nb
   ·have c3' : (26 : Int) < ((nb : Nat) : Int) := (by omega);clear hL;go_enter Tryz.func7, Tryz.ntmps7
    go_wp2
    go_ret
    exact ⟨⟨true, rfl, fun h => by cases h⟩, by rw [<- HW1.out]; exact HB1.out⟩
   ·have c3' : ¬ (26 : Int) < ((nb : Nat) : Int) := (by omega);by_cases c4 : 18 < nu
    ·have c4' : (18 : Int) < ((nu : Nat) : Int) := (by omega);clear hL;go_enter Tryz.func7, Tryz.ntmps7
     go_wp2
     go_ret
     exact ⟨⟨true, rfl, fun h => by cases h⟩, by rw [<- HW1.out]; exact HB1.out⟩
    ·have c4' : ¬ (18 : Int) < ((nu : Nat) : Int) := (by omega);by_cases c5 : 74 < ni
     ·have c5' : (74 : Int) < ((ni : Nat) : Int) := (by omega);clear hL;go_enter Tryz.func7, Tryz.ntmps7
      go_wp2
      go_ret
      exact ⟨⟨true, rfl, fun h => by cases h⟩, by rw [<- HW1.out]; exact HB1.out⟩
     ·have c5' : ¬ (74 : Int) < ((ni : Nat) : Int) := (by omega);have hni4 : ni <= 9223372036854775807 := (by omega);have hnb4 : nb <= 9223372036854775807 := (by omega);have HCL := hid (show L <= 100 /\ nr <= 74 /\ nb <= 26 /\ nu <= 18 /\ ni <= 74 by omega)
      obtain ⟨Z, hZs, hZ⟩ : ∃ Z : Array Value, Z.size = 9 /\ ∀ w, (Instr.alloc 83 true (.tuple #[])).run prog w = .ok (.pointer (some ⟨w.heap.size, 0, none⟩)) (w.alloc (.cells Z 83)) :=
       ⟨#[.string ⟨#[]⟩, .int .u64 0, .int .u64 0, .slice none 0 0, .slice none 0 0, .int .i64 0, .int .i64 0, .int .i64 0, .int .i64 0], rfl, fun w => by kernel_rfl⟩
      have HZ := hid hZ;have HZS := hid hZs;clear hZ hZs hL;go_enter Tryz.func7, Tryz.ntmps7
      go_wp2
      rw [<- HW1.out];clear c1 c2 c3 c4 c5 c1' c2' c3' c4' c5';go_loopw [3] (fun vi wr => ∃ i : Nat, vi = .int .i64 i /\ i <= nb /\ Hid (Below W1.heap.size W1 wr /\ ∀ j b, j < i -> m.banks[j]? = some b -> b.regs.length <= 74)) (fun vi _ => nb - (intOf vi).toNat)
      case atStart => exact ⟨0, rfl, Nat.zero_le _, hid ⟨HRF.out, fun j b hj => absurd hj (Nat.not_lt_zero _)⟩⟩
      case round =>
       obtain ⟨i, rfl, hi, HJ⟩ := hrel;obtain ⟨q0, q1, q2, q3, q4, q5, q6⟩ := HQ.out _ HJ.out.1;by_cases hlt : i < nb
       ·obtain ⟨y, hy⟩ : ∃ z, m.banks[i]? = some z := ⟨_, List.getElem?_eq_getElem (by rw [HNB.out]; exact hlt)⟩;have hbw := HGR.out _ HJ.out.1;obtain ⟨A', c', e1, _, _, _, hall⟩ := HBA.out.kept (fun cs x hx => z1m.kept hx hbw) hbw;obtain ⟨b, o, cs, e2, hb, hcl, hcell, hE⟩ := hall i y hy;obtain ⟨rfl, rfl⟩ : Ab = A' /\ cb = c' := by cases e1; exact ⟨rfl, rfl⟩
        subst e2;obtain ⟨sv, rfl, _, Av, cv, rfl, _⟩ := hE;have r0 : wr.cell? ⟨b, o + i * 2, none⟩ = some (.string y.name) := (by simpa using hcell 0 _ rfl);have r1 : wr.cell? ⟨b, o + i * 2 + 1, none⟩ = some (.slice Av y.regs.length cv) := hcell 1 _ rfl;obtain ⟨nv, hnv⟩ : ∃ z, y.regs.length = z := ⟨_, rfl⟩;obtain ⟨YN, hYN⟩ : ∃ z, y.name = z := ⟨_, rfl⟩;rw [hnv] at r1;rw [hYN] at r0;have HLT := hid hlt;have HY := hid hy;have HNV := hid hnv;have hin : (i : Int) < (nb : Int) := (by omega);clear hall hcell hy e1 hbw hnv hYN hcl;by_cases d1 : 74 < nv
        ·have d1' : (74 : Int) < (nv : Int) := (by omega);go_wp2
         go_ret
         exact ⟨⟨true, rfl, fun h => by cases h⟩, HGR.out _ HJ.out.1⟩
        ·have d1' : ¬ (74 : Int) < (nv : Int) := (by omega);by_cases d2 : 100 < YN.size
         ·have d2' : (100 : Int) < (YN.size : Int) := (by omega);go_wp2
          go_ret
          exact ⟨⟨true, rfl, fun h => by cases h⟩, HGR.out _ HJ.out.1⟩
         ·have d2' : ¬ (100 : Int) < (YN.size : Int) := (by omega);have HD1 := hid d1;clear d1 d2;go_wp2
          go_roundw
          case rel =>
           refine ⟨i + 1, by first | rfl | go_num | (congr 1), by have := HLT.out; omega, hid ⟨HJ.out.1, fun j b hj hb => ?_⟩⟩;by_cases e : j = i
           ·subst e;rw [HY.out] at hb;obtain rfl := Option.some.inj hb;have h1 := HD1.out;have h2 := HNV.out;omega
           ·exact HJ.out.2 j b (by omega) hb
          case measure => simp only [intOf]; have := HLT.out; omega
       ·obtain rfl : i = nb := by omega
        have HBK := hid (z3n (p := fun b : MBank => b.regs.length <= 74) HNB.out HJ.out.2);have HJ1 := hid HJ.out.1;clear HJ hlt hi;go_wp2
        go_loopw [4] (fun vi wr => ∃ j : Nat, vi = .int .i64 j /\ j <= ni /\ Hid (Below W1.heap.size W1 wr /\ ∀ q x, q < j -> m.instrs[q]? = some x -> z4a x)) (fun vi _ => ni - (intOf vi).toNat)
        case atStart => exact ⟨0, rfl, Nat.zero_le _, hid ⟨HJ1.out, fun j b hj => absurd hj (Nat.not_lt_zero _)⟩⟩
        case round =>
         clear q0 q1 q2 q3 q4 q5 q6;obtain ⟨j, rfl, hj, HJ⟩ := hrel;obtain ⟨q0, q1, q2, q3, q4, q5, q6⟩ := HQ.out _ HJ.out.1;by_cases hltj : j < ni
         ·obtain ⟨x, hx⟩ : ∃ z, m.instrs[j]? = some z := ⟨_, List.getElem?_eq_getElem (by rw [HNI.out]; exact hltj)⟩;have hbw := HGR.out _ HJ.out.1;obtain ⟨A', c', e1, _, _, _, hall⟩ := HI.out.kept (fun cs x hx => insE.kept hx hbw) hbw;obtain ⟨b, o, cs, e2, hb, hcl, hcell, hE⟩ := hall j x hx;obtain ⟨rfl, rfl⟩ : Ai = A' /\ ci = c' := by cases e1; exact ⟨rfl, rfl⟩
          subst e2;obtain ⟨so, se, rfl, _, _, _, hso, hse, _⟩ := hE;have HSO := hid hso;have HSE := hid hse;obtain ⟨So, zo, rfl, ho1, _⟩ := hso;obtain ⟨Se, ze, rfl, he1, _⟩ := hse;obtain ⟨no, hno⟩ : ∃ z, x.opers.length = z := ⟨_, rfl⟩;obtain ⟨ne, hne⟩ : ∃ z, x.effs.length = z := ⟨_, rfl⟩;obtain ⟨XN, hXN⟩ : ∃ z, x.name = z := ⟨_, rfl⟩;have HNO := hid hno;have HNE := hid hne;rw [hno] at HSO ho1;rw [hne] at HSE he1;obtain ⟨x1, hx1⟩ : ∃ z : Int, ((x.mask : Nat) : Int) = z := ⟨_, rfl⟩;obtain ⟨x2, hx2⟩ : ∃ z : Int, ((x.mtch : Nat) : Int) = z := ⟨_, rfl⟩;obtain ⟨CX, hCX⟩ : ∃ CX : Array Value, CX = ([.string x.name, .int .u64 (x.mask : Nat), .int .u64 (x.mtch : Nat), .slice So no zo, .slice Se ne ze, .int .i64 x.unit, .int .i64 x.busy, .int .i64 x.lat, .int .i64 x.slots] : List Value).toArray := ⟨_, rfl⟩;rw [hno, hne] at hcell;have r0 : wr.cell? ⟨b, o + j * 9, none⟩ = some (.string XN) := (by have h9 := hcell 0 _ rfl; first | (simp only [hXN, hx1, hx2, Nat.add_zero] at h9; exact h9) | exact h9);have r1 : wr.cell? ⟨b, o + j * 9 + 1, none⟩ = some (.int .u64 x1) := (by have h9 := hcell 1 _ rfl; first | (simp only [hXN, hx1, hx2, Nat.add_zero] at h9; exact h9) | exact h9);have r2 : wr.cell? ⟨b, o + j * 9 + 2, none⟩ = some (.int .u64 x2) := (by have h9 := hcell 2 _ rfl; first | (simp only [hXN, hx1, hx2, Nat.add_zero] at h9; exact h9) | exact h9);have r3 : wr.cell? ⟨b, o + j * 9 + 3, none⟩ = some (.slice So no zo) := (by have h9 := hcell 3 _ rfl; first | (simp only [hXN, hx1, hx2, Nat.add_zero] at h9; exact h9) | exact h9);have r4 : wr.cell? ⟨b, o + j * 9 + 4, none⟩ = some (.slice Se ne ze) := (by have h9 := hcell 4 _ rfl; first | (simp only [hXN, hx1, hx2, Nat.add_zero] at h9; exact h9) | exact h9);have r5 : wr.cell? ⟨b, o + j * 9 + 5, none⟩ = some (.int .i64 x.unit) := (by have h9 := hcell 5 _ rfl; first | (simp only [hXN, hx1, hx2, Nat.add_zero] at h9; exact h9) | exact h9);have r6 : wr.cell? ⟨b, o + j * 9 + 6, none⟩ = some (.int .i64 x.busy) := (by have h9 := hcell 6 _ rfl; first | (simp only [hXN, hx1, hx2, Nat.add_zero] at h9; exact h9) | exact h9);have r7 : wr.cell? ⟨b, o + j * 9 + 7, none⟩ = some (.int .i64 x.lat) := (by have h9 := hcell 7 _ rfl; first | (simp only [hXN, hx1, hx2, Nat.add_zero] at h9; exact h9) | exact h9);have r8 : wr.cell? ⟨b, o + j * 9 + 8, none⟩ = some (.int .i64 x.slots) := (by have h9 := hcell 8 _ rfl; first | (simp only [hXN, hx1, hx2, Nat.add_zero] at h9; exact h9) | exact h9);have hCE : CX = #[.string XN, .int .u64 x1, .int .u64 x2, .slice So no zo, .slice Se ne ze, .int .i64 x.unit, .int .i64 x.busy, .int .i64 x.lat, .int .i64 x.slots] := (by rw [hCX, hXN, hx1, hx2]);obtain ⟨W2, hW2⟩ : ∃ W2, W2 = wr.alloc (.cells CX 83) := ⟨_, rfl⟩;have HW2 := hid (hCE ▸ hW2 : W2 = wr.alloc (.cells #[.string XN, .int .u64 x1, .int .u64 x2, .slice So no zo, .slice Se ne ze, .int .i64 x.unit, .int .i64 x.busy, .int .i64 x.lat, .int .i64 x.slots] 83));have hb2 : Below wr.heap.size wr W2 := (by rw [hW2]; exact (Below.refl _ _).alloc (Nat.le_refl _) _);have hl2 : wr.heap.size < W2.heap.size := (by rw [hW2]; simp);have hblk2 : W2.heap[wr.heap.size]? = some (.cells CX 83) := (by rw [hW2]; exact heap_alloc_new _ _);have HC9 := hid (show ∀ X, Below W2.heap.size W2 X -> X.cell? ⟨wr.heap.size, 0, none⟩ = some (.string XN) /\ X.cell? ⟨wr.heap.size, 3, none⟩ = some (.slice So no zo) /\ X.cell? ⟨wr.heap.size, 4, none⟩ = some (.slice Se ne ze) from fun X hX => by have e := (hX.block _ hl2).trans hblk2;exact ⟨zb e (by rw [hCE]; rfl), zb e (by rw [hCE]; rfl), zb e (by rw [hCE]; rfl)⟩)
          have HX1 := hid (show ∀ X, Below W2.heap.size W2 X -> Below W1.heap.size W1 X from fun X hX => HJ.out.1.trans ((hb2.trans (hX.mono hb2.size)).mono HJ.out.1.size));have HXE := hid (show ∀ X, Below W2.heap.size W2 X -> zf 6 z1g X (.slice So no zo) x.opers /\ zf 21 effE X (.slice Se ne ze) x.effs from fun X hX => by have hbX := hb2.trans (hX.mono hb2.size);exact ⟨HSO.out.kept (fun cs x hx => z1g.kept hx hbX) hbX, HSE.out.kept (fun cs x hx => effE.kept hx hbX) hbX⟩)
          have HR2 := hid (Below.refl W2.heap.size W2);have HXX := hid hx;have HLT := hid hltj;have hin : (j : Int) < (ni : Int) := (by omega);have HJ2 := hid HJ.out.2;have HT1 := hid (show Below w.heap.size w W2 from HGR.out _ (HX1.out _ (Below.refl _ _)));clear hall hcell hx e1 hbw hno hne hCX hCE hx1 hx2 hXN hblk2 hl2 hb2 hW2 hcl HJ;by_cases d1 : 14 < no
          ·have d1' : (14 : Int) < (no : Int) := (by omega);go_wp2
           go_ret
           exact ⟨⟨true, rfl, fun h => by cases h⟩, by rw [<- HW2.out]; exact HT1.out⟩
          ·have d1' : ¬ (14 : Int) < (no : Int) := (by omega);by_cases d2 : 14 < ne
           ·have d2' : (14 : Int) < (ne : Int) := (by omega);go_wp2
            go_ret
            exact ⟨⟨true, rfl, fun h => by cases h⟩, by rw [<- HW2.out]; exact HT1.out⟩
           ·have d2' : ¬ (14 : Int) < (ne : Int) := (by omega);by_cases d3 : 100 < XN.size
            ·have d3' : (100 : Int) < (XN.size : Int) := (by omega);go_wp2
             go_ret
             exact ⟨⟨true, rfl, fun h => by cases h⟩, by rw [<- HW2.out]; exact HT1.out⟩
            ·have d3' : ¬ (100 : Int) < (XN.size : Int) := (by omega);have HD := hid (show no <= 14 /\ ne <= 14 by omega);have hno4 : no <= 9223372036854775807 := (by omega);have hne4 : ne <= 9223372036854775807 := (by omega);go_wp2
             rw [<- HW2.out];clear r0 r1 r2 r3 r4 r5 r6 r7 r8 d1 d2 d3 d1' d2' d3';go_loopw [6] (fun vi wr => ∃ a : Nat, vi = .int .i64 a /\ a <= no /\ Hid (Below W2.heap.size W2 wr /\ ∀ q o, q < a -> x.opers[q]? = some o -> o.pieces.length <= 14)) (fun vi _ => no - (intOf vi).toNat)
             case atStart => exact ⟨0, rfl, Nat.zero_le _, hid ⟨HR2.out, fun j b hj => absurd hj (Nat.not_lt_zero _)⟩⟩
             case round =>
              clear q0 q1 q2 q3 q4 q5 q6;obtain ⟨a, rfl, ha, HJ⟩ := hrel;obtain ⟨s0, s3, s4⟩ := HC9.out _ HJ.out.1;by_cases hlta : a < no
              ·obtain ⟨y, hy⟩ : ∃ z, x.opers[a]? = some z := ⟨_, List.getElem?_eq_getElem (by rw [HNO.out]; exact hlta)⟩;obtain ⟨A', c', e1, _, _, _, hall⟩ := (HXE.out _ HJ.out.1).1;obtain ⟨b2, o2, cs, e2, hb2, hcl, hcell, hE⟩ := hall a y hy;obtain ⟨rfl, rfl⟩ : So = A' /\ zo = c' := by cases e1; exact ⟨rfl, rfl⟩
               subst e2;obtain ⟨sv, rfl, _, _, _, _, hsp, _⟩ := hE;obtain ⟨Av, cv, rfl, _⟩ := hsp;have r0 : wr.cell? ⟨b2, o2 + a * 6, none⟩ = some (.string y.name) := (by simpa using hcell 0 _ rfl);have r4 : wr.cell? ⟨b2, o2 + a * 6 + 4, none⟩ = some (.slice Av y.pieces.length cv) := hcell 4 _ rfl;obtain ⟨nv, hnv⟩ : ∃ z, y.pieces.length = z := ⟨_, rfl⟩;obtain ⟨YN, hYN⟩ : ∃ z, y.name = z := ⟨_, rfl⟩;rw [hnv] at r4;rw [hYN] at r0;have HLA := hid hlta;have HY := hid hy;have HNV := hid hnv;have han : (a : Int) < (no : Int) := (by omega);clear hall hcell hy e1 hnv hYN hcl;by_cases d1 : 14 < nv
               ·have d1' : (14 : Int) < (nv : Int) := (by omega);go_wp2
                go_ret
                exact ⟨⟨true, rfl, fun h => by cases h⟩, HGR.out _ (HX1.out _ HJ.out.1)⟩
               ·have d1' : ¬ (14 : Int) < (nv : Int) := (by omega);by_cases d2 : 100 < YN.size
                ·have d2' : (100 : Int) < (YN.size : Int) := (by omega);go_wp2
                 go_ret
                 exact ⟨⟨true, rfl, fun h => by cases h⟩, HGR.out _ (HX1.out _ HJ.out.1)⟩
                ·have d2' : ¬ (100 : Int) < (YN.size : Int) := (by omega);have HD1 := hid d1;clear d1 d2;go_wp2
                 go_roundw
                 case rel =>
                  refine ⟨a + 1, by first | rfl | go_num | (congr 1), by have := HLA.out; omega, hid ⟨HJ.out.1, fun j b hj hb => ?_⟩⟩;by_cases e : j = a
                  ·subst e;rw [HY.out] at hb;obtain rfl := Option.some.inj hb;have h1 := HD1.out;have h2 := HNV.out;omega
                  ·exact HJ.out.2 j b (by omega) hb
                 case measure => simp only [intOf]; have := HLA.out; omega
              ·obtain rfl : a = no := by omega
               have HOK := hid (z3n (p := fun o : MOper => o.pieces.length <= 14) HNO.out HJ.out.2);have HJ4 := hid HJ.out.1;clear HJ hlta ha;go_wp2
               go_loopw [7] (fun vi wr => ∃ d : Nat, vi = .int .i64 d /\ d <= ne /\ Hid (Below W2.heap.size W2 wr /\ ∀ q f, q < d -> x.effs[q]? = some f -> z60 f)) (fun vi _ => ne - (intOf vi).toNat)
               case atStart => exact ⟨0, rfl, Nat.zero_le _, hid ⟨HJ4.out, fun j b hj => absurd hj (Nat.not_lt_zero _)⟩⟩
               case round =>
                clear s0 s3 s4;obtain ⟨d, rfl, hd, HJ⟩ := hrel;obtain ⟨s0, s3, s4⟩ := HC9.out _ HJ.out.1;by_cases hltd : d < ne
                ·obtain ⟨f, hf⟩ : ∃ z, x.effs[d]? = some z := ⟨_, List.getElem?_eq_getElem (by rw [HNE.out]; exact hltd)⟩;obtain ⟨A', c', e1, _, _, _, hall⟩ := (HXE.out _ HJ.out.1).2;obtain ⟨b2, o2, cs, e2, hb2, hcl, hcell, hE⟩ := hall d f hf;obtain ⟨rfl, rfl⟩ : Se = A' /\ ze = c' := by cases e1; exact ⟨rfl, rfl⟩
                 subst e2;obtain ⟨sa, sv, sc, rfl, _, _, _, hfa, hs1, hfv, hs2, hfc, hs3⟩ := hE;have hS : ∀ (t : Tm) (s : Value), SubAt wr wr.heap.size s t.sub -> ∀ X, Below wr.heap.size wr X -> Calls prog 34 #[.agg (Tm.cells t s).toArray] X fun e w' => (∃ g, e = .returned (.bool g) /\ (g = false -> z3w t)) /\ Below wr.heap.size wr w' /\ Below W2.heap.size W2 w' := fun t s ht X hX => (zdq t s X.heap.size X (Nat.le_refl _) (zr ht hX)).mono fun e w' ⟨h1, h2⟩ => ⟨h1, hX.trans (h2.mono hX.size), HJ.out.1.trans ((hX.trans (h2.mono hX.size)).mono HJ.out.1.size)⟩;have HS1 := hid (hS f.addr sa hs1);have HS2 := hid (hS f.value sv hs2);have HS3 := hid (hS f.cond sc hs3);simp only [Tm.cells] at HS1 HS2 HS3;have hbl2 : b2 < wr.heap.size := hb2;have HCE := hid (show ∀ X, Below wr.heap.size wr X -> X.cell? ⟨b2, o2 + d * 21 + 3, none⟩ = some (.int .u8 (f.addr.kind : Nat)) /\ X.cell? ⟨b2, o2 + d * 21 + 4, none⟩ = some (.int .i64 f.addr.width) /\ X.cell? ⟨b2, o2 + d * 21 + 5, none⟩ = some (.int .u64 (f.addr.bits : Nat)) /\ X.cell? ⟨b2, o2 + d * 21 + 6, none⟩ = some (.string f.addr.name) /\ X.cell? ⟨b2, o2 + d * 21 + 7, none⟩ = some (.int .i64 f.addr.low) /\ X.cell? ⟨b2, o2 + d * 21 + 8, none⟩ = some (sa) /\ X.cell? ⟨b2, o2 + d * 21 + 9, none⟩ = some (.int .u8 (f.value.kind : Nat)) /\ X.cell? ⟨b2, o2 + d * 21 + 10, none⟩ = some (.int .i64 f.value.width) /\ X.cell? ⟨b2, o2 + d * 21 + 11, none⟩ = some (.int .u64 (f.value.bits : Nat)) /\ X.cell? ⟨b2, o2 + d * 21 + 12, none⟩ = some (.string f.value.name) /\ X.cell? ⟨b2, o2 + d * 21 + 13, none⟩ = some (.int .i64 f.value.low) /\ X.cell? ⟨b2, o2 + d * 21 + 14, none⟩ = some (sv) /\ X.cell? ⟨b2, o2 + d * 21 + 15, none⟩ = some (.int .u8 (f.cond.kind : Nat)) /\ X.cell? ⟨b2, o2 + d * 21 + 16, none⟩ = some (.int .i64 f.cond.width) /\ X.cell? ⟨b2, o2 + d * 21 + 17, none⟩ = some (.int .u64 (f.cond.bits : Nat)) /\ X.cell? ⟨b2, o2 + d * 21 + 18, none⟩ = some (.string f.cond.name) /\ X.cell? ⟨b2, o2 + d * 21 + 19, none⟩ = some (.int .i64 f.cond.low) /\ X.cell? ⟨b2, o2 + d * 21 + 20, none⟩ = some (sc) from fun X hX => ⟨(hX.cell (p := ⟨b2, o2 + d * 21 + 3, none⟩) hbl2).trans (hcell 3 _ rfl), (hX.cell (p := ⟨b2, o2 + d * 21 + 4, none⟩) hbl2).trans (hcell 4 _ rfl), (hX.cell (p := ⟨b2, o2 + d * 21 + 5, none⟩) hbl2).trans (hcell 5 _ rfl), (hX.cell (p := ⟨b2, o2 + d * 21 + 6, none⟩) hbl2).trans (hcell 6 _ rfl), (hX.cell (p := ⟨b2, o2 + d * 21 + 7, none⟩) hbl2).trans (hcell 7 _ rfl), (hX.cell (p := ⟨b2, o2 + d * 21 + 8, none⟩) hbl2).trans (hcell 8 _ rfl), (hX.cell (p := ⟨b2, o2 + d * 21 + 9, none⟩) hbl2).trans (hcell 9 _ rfl), (hX.cell (p := ⟨b2, o2 + d * 21 + 10, none⟩) hbl2).trans (hcell 10 _ rfl), (hX.cell (p := ⟨b2, o2 + d * 21 + 11, none⟩) hbl2).trans (hcell 11 _ rfl), (hX.cell (p := ⟨b2, o2 + d * 21 + 12, none⟩) hbl2).trans (hcell 12 _ rfl), (hX.cell (p := ⟨b2, o2 + d * 21 + 13, none⟩) hbl2).trans (hcell 13 _ rfl), (hX.cell (p := ⟨b2, o2 + d * 21 + 14, none⟩) hbl2).trans (hcell 14 _ rfl), (hX.cell (p := ⟨b2, o2 + d * 21 + 15, none⟩) hbl2).trans (hcell 15 _ rfl), (hX.cell (p := ⟨b2, o2 + d * 21 + 16, none⟩) hbl2).trans (hcell 16 _ rfl), (hX.cell (p := ⟨b2, o2 + d * 21 + 17, none⟩) hbl2).trans (hcell 17 _ rfl), (hX.cell (p := ⟨b2, o2 + d * 21 + 18, none⟩) hbl2).trans (hcell 18 _ rfl), (hX.cell (p := ⟨b2, o2 + d * 21 + 19, none⟩) hbl2).trans (hcell 19 _ rfl), (hX.cell (p := ⟨b2, o2 + d * 21 + 20, none⟩) hbl2).trans (hcell 20 _ rfl)⟩);obtain ⟨e3, e4, e5, e6, e7, e8, e9, e10, e11, e12, e13, e14, e15, e16, e17, e18, e19, e20⟩ := HCE.out _ (Below.refl _ _);have HLD := hid hltd;have HFF := hid hf;have HRW := hid (Below.refl wr.heap.size wr);have hdn : (d : Int) < (ne : Int) := (by omega);clear hall hcell hf e1 hs1 hs2 hs3 hS hcl
                 go_wp2_with (go_at_call 34; first
                  | ((with_reducible refine (HS1.out _ HRW.out).mono ?_); rintro e w3 ⟨⟨g1, rfl, hg1⟩, hb3, hc3⟩; have HG1 := hid hg1; have HB3 := hid hb3; have HC3 := hid hc3; clear hg1 hb3 hc3; obtain ⟨y3, y4, y5, y6, y7, y8, y9, y10, y11, y12, y13, y14, y15, y16, y17, y18, y19, y20⟩ := HCE.out _ HB3.out; obtain ⟨t0, t3, t4⟩ := HC9.out _ HC3.out; cases g1)
                  | ((with_reducible refine (HS2.out _ HB3.out).mono ?_); rintro e w4 ⟨⟨g2, rfl, hg2⟩, hb4, hc4⟩; have HG2 := hid hg2; have HB4 := hid hb4; have HC4 := hid hc4; clear hg2 hb4 hc4; obtain ⟨z3, z4, z5, z6, z7, z8, z9, z10, z11, z12, z13, z14, z15, z16, z17, z18, z19, z20⟩ := HCE.out _ HB4.out; obtain ⟨v0, v3, v4⟩ := HC9.out _ HC4.out; cases g2)
                  | ((with_reducible refine (HS3.out _ HB4.out).mono ?_); rintro e w5 ⟨⟨g3, rfl, hg3⟩, hb5, hc5⟩; have HG3 := hid hg3; have HC5 := hid hc5; clear hg3 hb5 hc5; cases g3))
                 ·refine ⟨⟨d + 1, by first | rfl | go_num | (congr 1), by have := HLD.out; omega, hid ⟨HC5.out, fun q f2 hq hf2 => ?_⟩⟩, by simp only [intOf]; have := HLD.out; omega⟩;by_cases e : q = d
                  ·subst e;rw [HFF.out] at hf2;obtain rfl := Option.some.inj hf2;exact ⟨HG1.out (by trivial), HG2.out (by trivial), HG3.out (by trivial)⟩
                  ·exact HJ.out.2 q f2 (by omega) hf2
                 ·go_ret
                  exact ⟨⟨true, rfl, fun h => by cases h⟩, HGR.out _ (HX1.out _ HC5.out)⟩
                 ·go_ret
                  exact ⟨⟨true, rfl, fun h => by cases h⟩, HGR.out _ (HX1.out _ HC4.out)⟩
                 ·go_ret
                  exact ⟨⟨true, rfl, fun h => by cases h⟩, HGR.out _ (HX1.out _ HC3.out)⟩
                ·obtain rfl : d = ne := by omega
                 have HEK := hid (z3n (p := z60) HNE.out HJ.out.2);have HJ5 := hid HJ.out.1;clear HJ hltd hd;go_wp2
                 go_roundw
                 case rel =>
                  refine ⟨j + 1, by first | rfl | go_num | (congr 1), by have := HLT.out; omega, hid ⟨HX1.out _ HJ5.out, fun q x2 hq hx2 => ?_⟩⟩;by_cases e : q = j
                  ·subst e;rw [HXX.out] at hx2;obtain rfl := Option.some.inj hx2;exact ⟨by rw [HNO.out]; exact HD.out.1, by rw [HNE.out]; exact HD.out.2, HOK.out, HEK.out⟩
                  ·exact HJ2.out q x2 (by omega) hx2
                 case measure => simp only [intOf]; have := HLT.out; omega
         ·obtain rfl : j = ni := by omega
          have HIS := hid (z3n (p := z4a) HNI.out HJ.out.2);have HJ3 := hid HJ.out.1;clear HJ hltj hj;go_wp2_with (go_at_call 35; (with_reducible refine (HND.out _ HJ3.out HIS.out HCL.out.2.2.2.2).mono ?_); rintro e w9 ⟨⟨z, rfl⟩, hb9⟩)
          go_ret
          refine ⟨⟨_, rfl, fun _ => HM0.out HCL.out.1 HCL.out.2.1 HCL.out.2.2.1 HCL.out.2.2.2.1 HCL.out.2.2.2.2 HBK.out HIS.out⟩, hb9⟩
end Go.Proofs.YtdmadnfadgggcaaGreatDoor
