import Derived.Test.YtdmadnfadgggcaaGreatDoorPj
import Derived.Test.YtdmadnfadgggcaaGreatDoorQR8None
import Derived.Test.YtdmadnfadgggcaaGreatDoorQR8Pieces
set_option linter.unusedVariables false
set_option linter.unusedSimpArgs false
set_option warningAsError false
noncomputable section
namespace Go.Proofs.YtdmadnfadgggcaaGreatDoor
open Go.RowKit Go.Instr Go.Sort
set_option maxRecDepth 100000
theorem zgk {word : Int} (hw : word <= 4) : ∀ (L : List MPiece) (a : Nat), L.all (zv word) = true -> a + 32 * L.length <= 100000 -> ∃ f : Nat, fwR (a : Int) L = (f : Int) /\ f <= a + 32 * L.length
 | [], a, _, _ => ⟨a, rfl, by simp⟩
 | p :: L, a, h, hl => by
   rw [List.all_cons, Bool.and_eq_true] at h;have hp := h.1;unfold zv at hp;simp only [Bool.and_eq_true, decide_eq_true_eq] at hp;rw [List.length_cons] at hl;have hx : wrap64 ((a : Int) + p.len) = ((a + p.len.toNat : Nat) : Int) := by rw [zd _ (by omega) (by omega)]; omega
   obtain ⟨f, h1, h2⟩ := zgk hw L (a + p.len.toNat) h.2 (by omega);refine ⟨f, by rw [fwR, hx, h1], by rw [List.length_cons]; omega⟩
def z6l (address : Int) (L : List MBank) (ops : List MOper) (i : Nat) (o : MOper) : Bool :=
 if o.kind = 1 then (if 0 <= o.bank /\ o.bank <= (L.length : Int) - 1 then (if o.scale = 0 then (if o.tied = -1 then decide (0 < fwR 0 o.pieces) && (decide (6 < fwR 0 o.pieces) || decide (((L[o.bank.toNat]?).map fun b => b.regs.length).getD 0 <= 2 ^ (fwR 0 o.pieces).toNat))
  else if 0 <= o.tied /\ o.tied <= (i : Int) - 1 then (if o.pieces.length = 0 then (match ops[o.tied.toNat]? with | some y => decide (y.kind = 1) && (decide (y.bank = o.bank) && decide (y.tied = -1)) | none => false) else false) else false) else false) else false)
 else if o.kind = 2 ∨ o.kind = 3 ∨ o.kind = 4 then decide (o.bank = 0) && (decide (o.tied = -1) && (decide (0 <= o.scale /\ o.scale <= 3) && (decide (0 < fwR 0 o.pieces) && decide (fwR 0 o.pieces + o.scale <= address))))
 else false
def z3b (word address : Int) (L : List MBank) (ops : List MOper) (i : Nat) (o : MOper) : Bool :=
 z1t o.name && (!(o.name.toList == z1a.toList) && (o.pieces.all (zv word) && (!(decide (o.name ∈ (ops.map fun x => x.name).take i)) && z6l address L ops i o)))
def match8 (mask mtch : Nat) : Bool := (List.range 64).all fun b => decide (mtch / 2 ^ b % 2 <= mask / 2 ^ b % 2)
def z4q (word address : Int) (L : List MBank) (ops : List MOper) (i : Nat) : Bool := match ops[i]? with | some o => z3b word address L ops i o | none => true
def opers8 (word address : Int) (L : List MBank) (ops : List MOper) : Bool := (List.range ops.length).all (z4q word address L ops)
def fits8 (m : Mach) (ops : List MOper) (t : Tm) : Bool := decide (z1r t = 0) && z2s (z8g m ops) m.address t
def z4x (m : Mach) (ops : List MOper) (f : MEff) : Bool :=
 if f.kind = 1 then z2z f.addr && (z2z f.cond && (fits8 m ops f.value && (if f.oper = -1 then (if 0 <= f.reg /\ f.reg <= (m.regs.length : Int) - 1 then decide (f.value.width = zx m.regs f.reg) else false)
  else decide (f.reg = 0) && (if 0 <= f.oper /\ f.oper <= (ops.length : Int) - 1 then (match ops[f.oper.toNat]? with | some o => decide (o.kind = 1) && decide (f.value.width = zu m.address m.regs m.banks o) | none => false) else false))))
 else if f.kind = 2 then decide (f.oper = 0) && (decide (f.reg = 0) && (z2z f.cond && (fits8 m ops f.addr && (decide (f.addr.width = m.address) && (fits8 m ops f.value && z47 f.value.width)))))
 else if f.kind = 3 then decide (f.oper = 0) && (decide (f.reg = 0) && (z2z f.addr && (fits8 m ops f.value && (decide (f.value.width = m.address) && (z2z f.cond || (fits8 m ops f.cond && decide (f.cond.width = 1)))))))
 else if f.kind = 4 then decide (f.oper = 0) && (decide (f.reg = 0) && (z2z f.addr && (z2z f.cond && fits8 m ops f.value)))
 else false
def za4 (m : Mach) (x : MIns) : Bool :=
 !(decide (1 < z1c 3 x.effs) || (decide (0 < z1c 4 x.effs) && decide (1 < x.effs.length))) && (decide (0 <= x.unit /\ x.unit <= (m.units.length : Int) - 1) && (decide (1 <= x.busy /\ x.busy <= 15) && (decide (1 <= x.lat /\ x.lat <= 15) && (decide (0 <= x.slots /\ x.slots <= 2) && (decide (x.slots = 0) || decide (z1c 3 x.effs = 1))))))
def z51 (m : Mach) (x : MIns) : Bool :=
 decide (x.mask < 2 ^ (8 * m.word).toNat) && (match8 x.mask x.mtch && (opers8 m.word m.address m.banks x.opers && (z4u m.word x.mask x.opers && (x.effs.all (z4x m x.opers) && za4 m x))))
end Go.Proofs.YtdmadnfadgggcaaGreatDoor
