import Derived.Test.YtdmadnfadgggcaaGreatDoorQR8Instr
import Derived.Test.YtdmadnfadgggcaaGreatDoorQR8Oper
import Derived.Test.YtdmadnfadgggcaaGreatDoorQR8Eff1
import Derived.Test.YtdmadnfadgggcaaGreatDoorQR8Effs
set_option linter.unusedVariables false
set_option linter.unusedSimpArgs false
set_option warningAsError false
set_option maxHeartbeats 4000000
open Go.Lib (hid)
open Go.Proofs.Tryz (prog)
namespace Go.Proofs.YtdmadnfadgggcaaGreatDoor
open Go.RowKit Go.Instr Go.Sort
set_option maxRecDepth 100000
theorem zet {m : Mach} (hr : z2h m.regs = true) : (m.regs.map fun r => r.name).Nodup /\ ∀ y ∈ m.regs, y.name.size <= 24 := by
 unfold z2h at hr;simp only [Bool.and_eq_true] at hr;refine ⟨z3p hr.1.2, fun y hy => ?_⟩;have h1 := z5o _ _ hr.1.2 _ (List.mem_map_of_mem (f := fun x : MReg => x.name) hy);rcases Nat.lt_or_ge 24 y.name.size with h | h
 ·rw [z2f fun hp => by have := hp.2.1; omega] at h1; cases h1
 ·exact h
theorem z9g {m : Mach} (hl : limM m = true) (hh : z31 m = true) (hb : z22 m.regs m.banks = true) {x : MIns} (h1 : x.mask < 2 ^ (8 * m.word).toNat) (h2 : opers8 m.word m.address m.banks x.opers = true) (h3 : z4u m.word x.mask x.opers = true) :
 ∀ o ∈ x.opers, z4t m.regs m.banks o := fun o ho => by
 unfold z31 at hh;simp only [Bool.and_eq_true, decide_eq_true_eq] at hh;have h4 := (z5r hh.2.1 (z7e hl hb) h1 x.opers).1 ⟨h2, h3⟩;unfold z3a at h4;rw [Bool.and_eq_true] at h4;obtain ⟨_, oth, h5⟩ := z3q _ _ _ h4.2 o ho;unfold z22 at hb;simp only [Bool.and_eq_true, List.all_eq_true] at hb;exact z8o h5 hb.2
theorem z8a {word address : Int} {B : List MBank} {ops : List MOper} (h : opers8 word address B ops = true) : ∀ o ∈ ops, o.pieces.all (zv word) = true := fun o ho => by obtain ⟨i, hi⟩ := List.getElem?_of_mem ho;unfold opers8 at h;rw [List.all_eq_true] at h;have h1 := h i (List.mem_range.2 (List.getElem?_eq_some_iff.1 hi).1);unfold z4q z3b at h1;rw [hi] at h1;simp only [Bool.and_eq_true] at h1;exact h1.2.2.1
theorem z86 (w : World) (v : Value) (m : Mach) (hm : zz w v m) (hs : MachSmall m) (hr : z2h m.regs = true) (x : MIns) (cs : List Value) (hE : insE w cs x) (hol : x.opers.length <= 1000) (hbk : ∀ o ∈ x.opers, z4t m.regs m.banks o) (f : MEff) (fcs : List Value) (hF : effE w fcs f) (hef : z60 f) :
 Calls prog 102 #[v, .agg cs.toArray, .agg fcs.toArray] w fun e w' => e = .returned (.bool (z4x m x.opers f)) /\ Below w.heap.size w w' := by
 have HV := hid (fun (s : ByteArray) (wd : Int) X (hX : Below w.heap.size w X) => z8h X v m (hm.kept hX) x cs (insE.kept hE hX) hol (by have := hs.regs; omega) hbk (zet hr).2 s wd);have HWI := hid (fun X (hX : Below w.heap.size w X) (o : MOper) (ho : o ∈ x.opers) (ocs : List Value) (hO : z1g w ocs o) => z9w X v m (hm.kept hX) o ocs (z1g.kept hO hX) (hbk o ho));have hsr := hs.regs;obtain ⟨cs0, rfl, sr, sb, su, si, hcs, h1, h2, h3, hR, hB, hU, hI⟩ := hm;obtain rfl : cs0 = #[.string m.name, .int .i64 m.word, .int .i64 m.address, sr, sb, su, si] := by cases cs0; simp_all
 obtain ⟨so, se, rfl, _, _, _, hO, hEf, _⟩ := hE;obtain ⟨sa, sv, sc, rfl, _, hop, hrg, hfa, hsa, hfv, hsv, hfc, hsc⟩ := hF;obtain ⟨ea, evv, ec⟩ := hef;obtain ⟨A3, c3, rfl, _, _, _, hallR⟩ := hR;obtain ⟨A4, c4, rfl, _⟩ := hB;obtain ⟨A5, c5, rfl, _⟩ := hU;obtain ⟨A6, c6, rfl, _⟩ := hI;obtain ⟨A7, c7, rfl, _, _, _, hallO⟩ := hO;obtain ⟨A8, c8, rfl, _⟩ := hEf;have HFA := fun (t : Tm) (sv : Value) (hf : t.fit) (hsv : SubAt w w.heap.size sv t.sub) (ht : z3w t) X (hX : Below w.heap.size w X) => zdm w (z8g m x.opers) m.name x.name m.word m.address x.mask x.mtch x.unit x.busy x.lat x.slots A3 A4 A5 A6 A7 A8 m.regs.length c3 m.banks.length c4 m.units.length c5 m.instrs.length c6 x.opers.length c7 x.effs.length c8 HV t (by have := ht.1; omega) hf ht.2.2 sv X (zr hsv hX) hX;have HZ := fun (t : Tm) (sv : Value) (hf : t.fit) (hsv : SubAt w w.heap.size sv t.sub) X (hX : Below w.heap.size w X) => zec X t (Tm.cells t sv) ⟨sv, rfl, hf, zr hsv hX⟩;have hcell : ∀ {b : Nat} {j : Nat} {u : Value}, b < w.heap.size -> w.cell? ⟨b, j, none⟩ = some u -> ∀ X, Below w.heap.size w X -> X.cell? ⟨b, j, none⟩ = some u := fun hb hu X hX => (hX.cell hb).trans hu;by_cases hk : f.kind = 1
 ·refine (zf6 w m.name x.name m.word m.address x.mask x.mtch x.unit x.busy x.lat x.slots A3 A4 A5 A6 A7 A8 m.regs.length c3 m.banks.length c4 m.units.length c5 m.instrs.length c6 x.opers.length c7 x.effs.length c8 (f.kind : Nat) f.oper f.reg f.addr.width f.value.width f.cond.width (.int .u8 f.addr.kind) (.int .u64 f.addr.bits) (.string f.addr.name) (.int .i64 f.addr.low) sa (.int .u8 f.value.kind) (.int .u64 f.value.bits) (.string f.value.name) (.int .i64 f.value.low) sv (.int .u8 f.cond.kind) (.int .u64 f.cond.bits) (.string f.cond.name) (.int .i64 f.cond.low) sc _ rfl (by omega) (z2z f.addr) (z2z f.cond) (fits8 m x.opers f.value) (match x.opers[f.oper.toNat]? with | some o => (o.kind : Int) == 1 | none => false) (z4x m x.opers f) (zx m.regs f.reg) (match x.opers[f.oper.toNat]? with | some o => zu m.address m.regs m.banks o | none => 0) (by omega) (by omega)
   (HZ f.addr sa hfa hsa) (HZ f.cond sc hfc hsc) (HFA f.value sv hfv hsv evv) (fun z hz hlt => ?_) (fun z hz hlt => ?_) (hid ?_)).mono fun e w' h => h
  ·obtain ⟨y, hy⟩ : ∃ y, m.regs[z]? = some y := ⟨_, List.getElem?_eq_getElem hlt⟩;obtain ⟨b, o, cs, e, hb, _, hc, hE'⟩ := hallR z y hy;obtain ⟨rfl, _⟩ := hE';refine ⟨b, o, e, hcell hb ?_⟩;have : zx m.regs f.reg = y.width := by unfold zx; rw [hz, Int.toNat_natCast, hy]
   rw [this];exact hc 1 _ rfl
  ·obtain ⟨y, hy⟩ : ∃ y, x.opers[z]? = some y := ⟨_, List.getElem?_eq_getElem hlt⟩;obtain ⟨b, o, cs, e, hb, _, hc, hE'⟩ := hallO z y hy;have hW := fun X hX => HWI.out X hX y (List.mem_of_getElem? hy) _ hE';obtain ⟨sp, rfl, _, _, _, _, hP, _⟩ := hE';obtain ⟨Ap, cp, rfl, _⟩ := hP;refine ⟨b, o, y.name, (y.kind : Nat), y.bank, y.scale, Ap, cp, y.tied, y.pieces.length, e, by rw [hz, Int.toNat_natCast, hy], fun X hX => ⟨?_, ?_, ?_, ?_, ?_, ?_⟩, ?_⟩
   ·exact hcell hb (by simpa using hc 0 _ rfl) X hX
   ·exact hcell hb (hc 1 _ rfl) X hX
   ·exact hcell hb (hc 2 _ rfl) X hX
   ·exact hcell hb (hc 3 _ rfl) X hX
   ·exact hcell hb (hc 4 _ rfl) X hX
   ·exact hcell hb (hc 5 _ rfl) X hX
   ·rw [hz, Int.toNat_natCast, hy];exact hW
  ·unfold z4x;rw [if_pos hk]
   cases x.opers[f.oper.toNat]? with
   | none => rfl
   | some o => have : ((o.kind : Int) == 1) = decide (o.kind = 1) := (by by_cases h : o.kind = 1 <;> simp [h] <;> omega);simp only [this]
 ·refine (zdf w m.name x.name m.word m.address x.mask x.mtch x.unit x.busy x.lat x.slots A3 A4 A5 A6 A7 A8 m.regs.length c3 m.banks.length c4 m.units.length c5 m.instrs.length c6 x.opers.length c7 x.effs.length c8 (f.kind : Nat) f.oper f.reg f.addr.width f.value.width f.cond.width (.int .u8 f.addr.kind) (.int .u64 f.addr.bits) (.string f.addr.name) (.int .i64 f.addr.low) sa (.int .u8 f.value.kind) (.int .u64 f.value.bits) (.string f.value.name) (.int .i64 f.value.low) sv (.int .u8 f.cond.kind) (.int .u64 f.cond.bits) (.string f.cond.name) (.int .i64 f.cond.low) sc _ rfl (by omega) (z2z f.addr) (z2z f.cond) (fits8 m x.opers f.addr) (fits8 m x.opers f.value) (fits8 m x.opers f.cond) (f.oper == 0) (f.reg == 0) (f.addr.width == m.address) (f.value.width == m.address) (f.cond.width == 1) (z4x m x.opers f)
   (HZ f.addr sa hfa hsa) (HZ f.cond sc hfc hsc) (HFA f.addr sa hfa hsa ea) (HFA f.value sv hfv hsv evv) (HFA f.cond sc hfc hsc ec) rfl rfl rfl rfl rfl (hid ?_)).mono fun e w' h => h
  unfold z4x;rw [if_neg hk];have hb : ∀ a b : Int, (a == b) = decide (a = b) := fun a b => Bool.beq_eq_decide_eq ..;simp only [hb];by_cases k2 : f.kind = 2
  ·rw [if_pos k2, if_pos (by omega)]
  ·rw [if_neg k2, if_neg (show ¬ ((f.kind : Int) = 2) by omega)];by_cases k3 : f.kind = 3
   ·rw [if_pos k3, if_pos (by omega)]
   ·rw [if_neg k3, if_neg (show ¬ ((f.kind : Int) = 3) by omega)];by_cases k4 : f.kind = 4
    ·rw [if_pos k4, if_pos (by omega)]
    ·rw [if_neg k4, if_neg (show ¬ ((f.kind : Int) = 4) by omega)]
theorem z9c (w : World) (v : Value) (m : Mach) (hm : zz w v m) (hs : MachSmall m) (hl : limM m = true) (hh : z31 m = true) (hr : z2h m.regs = true) (hb : z22 m.regs m.banks = true) (x : MIns) (hx : x ∈ m.instrs) (cs : List Value) (hE : insE w cs x) :
 Calls prog 80 #[v, .agg cs.toArray] w fun e w' => e = .returned (.bool (z51 m x)) /\ Below w.heap.size w w' := by
 have hsi := hs.ins x hx;have hw : 1 <= m.word /\ m.word <= 4 := by unfold z31 at hh; simp only [Bool.and_eq_true, decide_eq_true_eq] at hh; exact hh.2.1
 have hsu := hs.units;have hsb := hs.banks;have HOP := fun X (hX : Below w.heap.size w X) i o (ho : x.opers[i]? = some o) => z7b X v m (hm.kept hX) hw (by omega) (fun b hb => by have := hs.bank b hb; omega) x cs (insE.kept hE hX) (by have := hsi.1; omega) (fun o ho => by have := hsi.2.2.1 o ho; omega) i o ho;have HAP := fun (h2 : opers8 m.word m.address m.banks x.opers = true) X (hX : Below w.heap.size w X) => zbh X v m (hm.kept hX) hw x cs (insE.kept hE hX) (by have := hsi.1; omega) (fun o ho => by have := hsi.2.2.1 o ho; omega) (z8a h2);have HEF := fun (h1 : x.mask < 2 ^ (8 * m.word).toNat) (h2 : opers8 m.word m.address m.banks x.opers = true) (h3 : z4u m.word x.mask x.opers = true) X (hX : Below w.heap.size w X) f (hf : f ∈ x.effs) fcs (hF : effE w fcs f) => z86 X v m (hm.kept hX) hs hr x cs (insE.kept hE hX) (by have := hsi.1; omega) (z9g hl hh hb h1 h2 h3) f fcs (effE.kept hF hX) (hsi.2.2.2 f hf);obtain ⟨cs0, rfl, sr, sb, su, si, hcs, h1, h2, h3, hR, hB, hU, hI⟩ := hm;obtain rfl : cs0 = #[.string m.name, .int .i64 m.word, .int .i64 m.address, sr, sb, su, si] := by cases cs0; simp_all
 obtain ⟨so, se, rfl, _, hmk, hmt, hO, hEf, _⟩ := hE;obtain ⟨A3, c3, rfl, _⟩ := hR;obtain ⟨A4, c4, rfl, _⟩ := hB;obtain ⟨A5, c5, rfl, _⟩ := hU;obtain ⟨A6, c6, rfl, _⟩ := hI;obtain ⟨A7, c7, rfl, _⟩ := hO;have hEf2 := hEf;obtain ⟨A8, c8, rfl, _⟩ := hEf;refine z87 w m.name x.name m.word m.address x.unit x.busy x.lat x.slots x.mask x.mtch A3 A4 A5 A6 A7 A8 m.regs.length c3 m.banks.length c4 m.units.length c5 m.instrs.length c6 x.opers.length c7 x.effs.length c8 x.effs (z4q m.word m.address m.banks x.opers) (z4x m x.opers) (z4u m.word x.mask x.opers) (z51 m x) hw hmk hmt (by have := hsi.1; omega) rfl (by have := hsi.2.1; omega) (by omega) hEf2 (fun X hX i hi => ?_) (fun _ h2 X hX => HAP h2 X hX) (fun h1 h2 h3 X hX f hf fcs hF => HEF (by simpa using h1) h2 h3 X hX f hf fcs hF) (hid ?_)
 ·obtain ⟨o, ho⟩ : ∃ o, x.opers[i]? = some o := ⟨_, List.getElem?_eq_getElem hi⟩;have := HOP X hX i o ho;rw [show z4q m.word m.address m.banks x.opers i = z3b m.word m.address m.banks x.opers i o by unfold z4q; rw [ho]];exact this
 ·unfold z51 opers8 za4;rfl
end Go.Proofs.YtdmadnfadgggcaaGreatDoor
