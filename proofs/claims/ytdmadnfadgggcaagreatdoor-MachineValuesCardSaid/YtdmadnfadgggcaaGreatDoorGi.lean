import Derived.Test.YtdmadnfadgggcaaGreatDoorGh
import Derived.Test.YtdmadnfadgggcaaGreatDoorGd
import Derived.Deep.Light
set_option linter.unusedVariables false
set_option linter.unusedSimpArgs false
set_option warningAsError false
set_option maxHeartbeats 4000000
open Go.Lib (hid)
open Go.Proofs.Tryz (prog)
noncomputable section
namespace Go.Proofs.YtdmadnfadgggcaaGreatDoor
open Go.RowKit
set_option maxRecDepth 100000
def z4n (n x : Int) : Bool := decide (1 <= n /\ n <= 64) && okB n.toNat x.toNat
def z59 (others : List MOper) (t bank : Int) : Bool :=
 if 0 <= t then (match others[t.toNat]? with | some y => decide ((y.kind : Int) = 1) && (decide (y.bank = bank) && decide (y.tied = -1)) | none => false) else false
def z4l (address : Int) (L : List MBank) (others : List MOper) (o : MOper) : Bool :=
 if o.kind = 1 then
  if 0 <= o.bank then (match L[o.bank.toNat]? with
   | none => false
   | some b => if o.scale ≠ 0 then false else if o.tied = -1 then decide (0 < o.pieces.length) && z4n (fwR 0 o.pieces) (b.regs.length - 1) else decide (o.pieces.length = 0) && z59 others o.tied o.bank)
  else false
 else if o.kind = 2 ∨ o.kind = 3 ∨ o.kind = 4 then
  decide (o.bank = 0) && (decide (o.tied = -1) && (decide (0 <= o.scale /\ o.scale <= 3) && (decide (0 < o.pieces.length) && decide (fwR 0 o.pieces <= address - o.scale))))
 else false
def z4k (p : MPiece) : Nat := mk p.len.toNat * 2 ^ p.pos.toNat % 18446744073709551616
def z1p (word : Int) : Nat -> List MPiece -> Bool × Nat
 | taken, [] => (true, taken)
 | taken, p :: l => if zv word p then (decide (taken &&& z4k p = 0) && (z1p word (taken ||| z4k p) l).1, (z1p word (taken ||| z4k p) l).2) else (false, taken)
def z1a : ByteArray := ⟨#[112, 99]⟩
def z2n (word address : Int) (L : List MBank) : List MOper -> Nat -> List MOper -> Bool
 | _, _, [] => true
 | others, taken, o :: l => (decide (o.name ≠ z1a) && z4l address L others o) && ((z1p word taken o.pieces).1 && z2n word address L (others ++ [o]) (z1p word taken o.pieces).2 l)
def z3a (word address : Int) (L : List MBank) (mask : Nat) (ops : List MOper) : Bool := zq [] (ops.map fun x => x.name) && z2n word address L [] mask ops
mutual
def z2e (K : ByteArray -> Int) (address : Int) : Tm -> Bool
 | .mk k w _ s _ l => if k = 2 then decide (K s = w) else if k = 24 /\ (l.headD default).width ≠ address then false else z3l K address l
def z3l (K : ByteArray -> Int) (address : Int) : List Tm -> Bool
 | [] => true
 | t :: l => z2e K address t && z3l K address l
end
theorem z93 (K : ByteArray -> Int) (address : Int) (l : List Tm) : z3l K address l = l.all (z2e K address) := by
 induction l with
 | nil => simp [z3l]
 | cons t l ih => simp [z3l, ih]
def z1z (K : ByteArray -> Int) (address : Int) (t : Tm) : Bool := decide (z1r t = 0) && z2e K address t
def z48 (address : Int) (R : List MReg) (L : List MBank) (ops : List MOper) (f : MEff) : Int :=
 if f.oper = -1 /\ 0 <= f.reg /\ f.reg < R.length then zx R f.reg
 else if 0 <= f.oper /\ f.oper < ops.length then (match ops[f.oper.toNat]? with | some o => if (o.kind : Int) = 1 then zu address R L o else 0 | none => 0) else 0
def zas (f : MEff) : Bool :=
 (decide (f.kind = 1) || decide (f.oper = 0)) && ((decide (f.kind = 1) && decide (f.oper = -1) || decide (f.reg = 0)) && ((decide (f.kind = 2) || z2z f.addr) && (decide (f.kind = 3) || z2z f.cond)))
def z47 (w : Int) : Bool := decide (w = 8 ∨ w = 16 ∨ w = 32 ∨ w = 64)
def z37 (K : ByteArray -> Int) (address : Int) (R : List MReg) (L : List MBank) (ops : List MOper) (f : MEff) : Bool :=
 if f.kind = 1 then z1z K address f.value && decide (f.value.width = z48 address R L ops f)
 else if f.kind = 2 then z1z K address f.addr && (decide (f.addr.width = address) && (z1z K address f.value && z47 f.value.width))
 else if f.kind = 3 then z1z K address f.value && (decide (f.value.width = address) && (z2z f.cond || (z1z K address f.cond && decide (f.cond.width = 1))))
 else if f.kind = 4 then z1z K address f.value
 else false
def effR (K : ByteArray -> Int) (address : Int) (R : List MReg) (L : List MBank) (ops : List MOper) (f : MEff) : Bool := z37 K address R L ops f && zas f
open Classical in
def putK (K : ByteArray -> Int) (s : ByteArray) (z : Int) : ByteArray -> Int := fun x => if x = s then z else K x
def z2y (address : Int) (R : List MReg) (L : List MBank) (K : ByteArray -> Int) (ops : List MOper) : ByteArray -> Int := ops.foldl (fun K o => putK K o.name (zu address R L o)) K
def z74 (K : ByteArray -> Int) (ops : List MOper) : ByteArray -> Int := fun x => if x ∈ ops.map (fun o => o.name) then 0 else K x
def z4y (word : Int) (nu : Nat) (i : MIns) : Bool :=
 decide (i.mask <= mk (8 * word).toNat) && (decide (i.mtch &&& (18446744073709551615 - i.mask) = 0) && (decide (z1c 3 i.effs <= 1) && ((decide (z1c 4 i.effs = 0) || decide (i.effs.length = 1)) && (decide (0 <= i.unit /\ i.unit < nu) && (decide (1 <= i.busy /\ i.busy <= 15) && (decide (1 <= i.lat /\ i.lat <= 15) && (decide (0 <= i.slots /\ i.slots <= 2) && (decide (i.slots = 0) || decide (0 < z1c 3 i.effs)))))))))
def insR (m : Mach) (K : ByteArray -> Int) (i : MIns) : Bool :=
 (z4y m.word m.units.length i && z3a m.word m.address m.banks i.mask i.opers) && i.effs.all (effR (z2y m.address m.regs m.banks K i.opers) m.address m.regs m.banks i.opers)
def rDot (s : ByteArray) : ByteArray := ⟨#[114, 46] ++ s.data⟩
def z3x (m : Mach) : ByteArray -> Int := m.regs.foldl (fun K r => putK K (rDot r.name) r.width) (putK (fun _ => 0) z1a m.address)
def z42 (m : Mach) : Bool := zq [] (m.instrs.map fun x => x.name) && m.instrs.all (insR m (z3x m))
def z26 (m : Mach) : Bool := z31 m && (z2h m.regs && (z22 m.regs m.banks && (z35 m.units && z42 m)))
def chkR (m : Mach) : Int := if limM m then (if z26 m then 0 else 8) else 4
end Go.Proofs.YtdmadnfadgggcaaGreatDoor
namespace Go.Proofs.YtdmadnfadgggcaaGreatDoor
open Go.RowKit Go.Instr Go.Sort
set_option maxRecDepth 100000
theorem zab (W : World) (kd op rg : Int) (a0 a1 a2 a3 a4 a5 b0 b1 b2 b3 b4 b5 c0 c1 c2 c3 c4 c5 : Value) (za zc : Bool)
 (iA : ∀ X, Below (W.alloc (.cells #[.int .u8 kd, .int .i64 op, .int .i64 rg, a0, a1, a2, a3, a4, a5, b0, b1, b2, b3, b4, b5, c0, c1, c2, c3, c4, c5] 92)).heap.size (W.alloc (.cells #[.int .u8 kd, .int .i64 op, .int .i64 rg, a0, a1, a2, a3, a4, a5, b0, b1, b2, b3, b4, b5, c0, c1, c2, c3, c4, c5] 92)) X -> Calls prog 177 #[.agg #[a0, a1, a2, a3, a4, a5]] X fun e w'' => e = .returned (.bool za) /\ Below X.heap.size X w'')
 (iC : ∀ X, Below (W.alloc (.cells #[.int .u8 kd, .int .i64 op, .int .i64 rg, a0, a1, a2, a3, a4, a5, b0, b1, b2, b3, b4, b5, c0, c1, c2, c3, c4, c5] 92)).heap.size (W.alloc (.cells #[.int .u8 kd, .int .i64 op, .int .i64 rg, a0, a1, a2, a3, a4, a5, b0, b1, b2, b3, b4, b5, c0, c1, c2, c3, c4, c5] 92)) X -> Calls prog 177 #[.agg #[c0, c1, c2, c3, c4, c5]] X fun e w'' => e = .returned (.bool zc) /\ Below X.heap.size X w'') :
 Calls prog 178 #[.agg #[.int .u8 kd, .int .i64 op, .int .i64 rg, a0, a1, a2, a3, a4, a5, b0, b1, b2, b3, b4, b5, c0, c1, c2, c3, c4, c5]] W fun e w' => e = .returned (.bool ((decide (kd = 1) || decide (op = 0)) && ((decide (kd = 1) && decide (op = -1) || decide (rg = 0)) && ((decide (kd = 2) || za) && (decide (kd = 3) || zc))))) /\ Below W.heap.size W w' := by
 obtain ⟨W1, hW1⟩ : ∃ W1, W1 = W.alloc (.cells #[.int .u8 kd, .int .i64 op, .int .i64 rg, a0, a1, a2, a3, a4, a5, b0, b1, b2, b3, b4, b5, c0, c1, c2, c3, c4, c5] 92) := ⟨_, rfl⟩;rw [<- hW1] at iA iC;have HW := hid hW1;have hb : Below W.heap.size W W1 := by rw [hW1]; exact (Below.refl _ _).alloc (Nat.le_refl _) _
 have hlt : W.heap.size < W1.heap.size := by rw [hW1]; simp
 have f0 : W1.cell? ⟨W.heap.size, 0, none⟩ = some (.int .u8 kd) := by rw [hW1]; simp only [World.cell?]; rw [heap_alloc_new]; rfl
 have f1 : W1.cell? ⟨W.heap.size, 1, none⟩ = some (.int .i64 op) := by rw [hW1]; simp only [World.cell?]; rw [heap_alloc_new]; rfl
 have f2 : W1.cell? ⟨W.heap.size, 2, none⟩ = some (.int .i64 rg) := by rw [hW1]; simp only [World.cell?]; rw [heap_alloc_new]; rfl
 have f3 : W1.cell? ⟨W.heap.size, 3, none⟩ = some (a0) := by rw [hW1]; simp only [World.cell?]; rw [heap_alloc_new]; rfl
 have f4 : W1.cell? ⟨W.heap.size, 4, none⟩ = some (a1) := by rw [hW1]; simp only [World.cell?]; rw [heap_alloc_new]; rfl
 have f5 : W1.cell? ⟨W.heap.size, 5, none⟩ = some (a2) := by rw [hW1]; simp only [World.cell?]; rw [heap_alloc_new]; rfl
 have f6 : W1.cell? ⟨W.heap.size, 6, none⟩ = some (a3) := by rw [hW1]; simp only [World.cell?]; rw [heap_alloc_new]; rfl
 have f7 : W1.cell? ⟨W.heap.size, 7, none⟩ = some (a4) := by rw [hW1]; simp only [World.cell?]; rw [heap_alloc_new]; rfl
 have f8 : W1.cell? ⟨W.heap.size, 8, none⟩ = some (a5) := by rw [hW1]; simp only [World.cell?]; rw [heap_alloc_new]; rfl
 have f15 : W1.cell? ⟨W.heap.size, 15, none⟩ = some (c0) := by rw [hW1]; simp only [World.cell?]; rw [heap_alloc_new]; rfl
 have f16 : W1.cell? ⟨W.heap.size, 16, none⟩ = some (c1) := by rw [hW1]; simp only [World.cell?]; rw [heap_alloc_new]; rfl
 have f17 : W1.cell? ⟨W.heap.size, 17, none⟩ = some (c2) := by rw [hW1]; simp only [World.cell?]; rw [heap_alloc_new]; rfl
 have f18 : W1.cell? ⟨W.heap.size, 18, none⟩ = some (c3) := by rw [hW1]; simp only [World.cell?]; rw [heap_alloc_new]; rfl
 have f19 : W1.cell? ⟨W.heap.size, 19, none⟩ = some (c4) := by rw [hW1]; simp only [World.cell?]; rw [heap_alloc_new]; rfl
 have f20 : W1.cell? ⟨W.heap.size, 20, none⟩ = some (c5) := by rw [hW1]; simp only [World.cell?]; rw [heap_alloc_new]; rfl
 have iA := (iA W1 (Below.refl _ _)).mono (R' := fun e w' => e = .returned (.bool za) /\ Below W1.heap.size W1 w' /\ Below W.heap.size W w' /\ w'.cell? ⟨W.heap.size, 0, none⟩ = some (.int .u8 kd) /\ w'.cell? ⟨W.heap.size, 15, none⟩ = some c0 /\ w'.cell? ⟨W.heap.size, 16, none⟩ = some c1 /\ w'.cell? ⟨W.heap.size, 17, none⟩ = some c2 /\ w'.cell? ⟨W.heap.size, 18, none⟩ = some c3 /\ w'.cell? ⟨W.heap.size, 19, none⟩ = some c4 /\ w'.cell? ⟨W.heap.size, 20, none⟩ = some c5) (fun e w' ⟨h1, h2⟩ => ⟨h1, h2, hb.trans (h2.mono hb.size), (h2.cell (p := ⟨W.heap.size, 0, none⟩) hlt).trans f0, (h2.cell (p := ⟨W.heap.size, 15, none⟩) hlt).trans f15, (h2.cell (p := ⟨W.heap.size, 16, none⟩) hlt).trans f16, (h2.cell (p := ⟨W.heap.size, 17, none⟩) hlt).trans f17, (h2.cell (p := ⟨W.heap.size, 18, none⟩) hlt).trans f18, (h2.cell (p := ⟨W.heap.size, 19, none⟩) hlt).trans f19, (h2.cell (p := ⟨W.heap.size, 20, none⟩) hlt).trans f20⟩);have iC : ∀ X, Below W1.heap.size W1 X -> Calls prog 177 #[.agg #[c0, c1, c2, c3, c4, c5]] X fun e w'' => e = .returned (.bool zc) /\ Below W.heap.size W w'' := fun X hX => (iC X hX).mono fun e w' ⟨h1, h2⟩ => ⟨h1, hb.trans ((hX.trans (h2.mono hX.size)).mono hb.size)⟩;have HB := hid hb;have HR := hid (Below.refl W1.heap.size W1);clear hb hlt f0 f1 f2 f3 f4 f5 f6 f7 f8 f15 f16 f17 f18 f19 f20;subst hW1;by_cases e_g1 : kd = 1
 ·subst e_g1;by_cases e_g2 : op = -1
  ·subst e_g2
   cases za with
   | false =>
     have IA := hid iA;have IC := hid iC;clear iA iC;go_enter Tryz.func178, Tryz.ntmps178
     go_wp2_with (go_at_call 177; first
      | ((with_reducible refine IA.out.mono ?_); rintro e G ⟨rfl, hG, hbG, g0, g15, g16, g17, g18, g19, g20⟩)
      | ((with_reducible refine (IC.out G hG).mono ?_); rintro e G2 ⟨rfl, hbG2⟩)
      | ((with_reducible refine (IC.out _ HR.out).mono ?_); rintro e G2 ⟨rfl, hbG2⟩))
     go_ret
     exact ⟨by simp, by first | exact hbG2 | exact hbG | exact HB.out⟩
   | true =>
     have IA := hid iA;have IC := hid iC;clear iA iC;go_enter Tryz.func178, Tryz.ntmps178
     go_wp2_with (go_at_call 177; first
      | ((with_reducible refine IA.out.mono ?_); rintro e G ⟨rfl, hG, hbG, g0, g15, g16, g17, g18, g19, g20⟩)
      | ((with_reducible refine (IC.out G hG).mono ?_); rintro e G2 ⟨rfl, hbG2⟩)
      | ((with_reducible refine (IC.out _ HR.out).mono ?_); rintro e G2 ⟨rfl, hbG2⟩))
     go_ret
     exact ⟨by simp, by first | exact hbG2 | exact hbG | exact HB.out⟩
  ·have g2 : (op == -1) = false := by simp [e_g2]
   by_cases e_g3 : rg = 0
   ·subst e_g3
    cases za with
    | false =>
      have IA := hid iA;have IC := hid iC;clear iA iC;go_enter Tryz.func178, Tryz.ntmps178
      go_wp2_with (go_at_call 177; first
       | ((with_reducible refine IA.out.mono ?_); rintro e G ⟨rfl, hG, hbG, g0, g15, g16, g17, g18, g19, g20⟩)
       | ((with_reducible refine (IC.out G hG).mono ?_); rintro e G2 ⟨rfl, hbG2⟩)
       | ((with_reducible refine (IC.out _ HR.out).mono ?_); rintro e G2 ⟨rfl, hbG2⟩))
      go_ret
      exact ⟨by simp [e_g2], by first | exact hbG2 | exact hbG | exact HB.out⟩
    | true =>
      have IA := hid iA;have IC := hid iC;clear iA iC;go_enter Tryz.func178, Tryz.ntmps178
      go_wp2_with (go_at_call 177; first
       | ((with_reducible refine IA.out.mono ?_); rintro e G ⟨rfl, hG, hbG, g0, g15, g16, g17, g18, g19, g20⟩)
       | ((with_reducible refine (IC.out G hG).mono ?_); rintro e G2 ⟨rfl, hbG2⟩)
       | ((with_reducible refine (IC.out _ HR.out).mono ?_); rintro e G2 ⟨rfl, hbG2⟩))
      go_ret
      exact ⟨by simp [e_g2], by first | exact hbG2 | exact hbG | exact HB.out⟩
   ·have g3 : (rg == 0) = false := (by simp [e_g3]);have IA := hid iA;have IC := hid iC;clear iA iC;go_enter Tryz.func178, Tryz.ntmps178
    go_wp2_with (go_at_call 177; first
     | ((with_reducible refine IA.out.mono ?_); rintro e G ⟨rfl, hG, hbG, g0, g15, g16, g17, g18, g19, g20⟩)
     | ((with_reducible refine (IC.out G hG).mono ?_); rintro e G2 ⟨rfl, hbG2⟩)
     | ((with_reducible refine (IC.out _ HR.out).mono ?_); rintro e G2 ⟨rfl, hbG2⟩))
    go_ret
    exact ⟨by simp [e_g2, e_g3], by first | exact hbG2 | exact hbG | exact HB.out⟩
 ·have g1 : (kd == 1) = false := by simp [e_g1]
  by_cases e_g2 : op = 0
  ·subst e_g2;by_cases e_g3 : rg = 0
   ·subst e_g3;by_cases e_g5 : kd = 2
    ·subst e_g5;have IA := hid iA;have IC := hid iC;clear iA iC;go_enter Tryz.func178, Tryz.ntmps178
     go_wp2_with (go_at_call 177; first
      | ((with_reducible refine IA.out.mono ?_); rintro e G ⟨rfl, hG, hbG, g0, g15, g16, g17, g18, g19, g20⟩)
      | ((with_reducible refine (IC.out G hG).mono ?_); rintro e G2 ⟨rfl, hbG2⟩)
      | ((with_reducible refine (IC.out _ HR.out).mono ?_); rintro e G2 ⟨rfl, hbG2⟩))
     go_ret
     exact ⟨by simp, by first | exact hbG2 | exact hbG | exact HB.out⟩
    ·have g5 : (kd == 2) = false := (by simp [e_g5]);by_cases e_g6 : kd = 3
     ·subst e_g6
      cases za with
      | false =>
        have IA := hid iA;have IC := hid iC;clear iA iC;go_enter Tryz.func178, Tryz.ntmps178
        go_wp2_with (go_at_call 177; first
         | ((with_reducible refine IA.out.mono ?_); rintro e G ⟨rfl, hG, hbG, g0, g15, g16, g17, g18, g19, g20⟩)
         | ((with_reducible refine (IC.out G hG).mono ?_); rintro e G2 ⟨rfl, hbG2⟩)
         | ((with_reducible refine (IC.out _ HR.out).mono ?_); rintro e G2 ⟨rfl, hbG2⟩))
        go_ret
        exact ⟨by simp, by first | exact hbG2 | exact hbG | exact HB.out⟩
      | true =>
        have IA := hid iA;have IC := hid iC;clear iA iC;go_enter Tryz.func178, Tryz.ntmps178
        go_wp2_with (go_at_call 177; first
         | ((with_reducible refine IA.out.mono ?_); rintro e G ⟨rfl, hG, hbG, g0, g15, g16, g17, g18, g19, g20⟩)
         | ((with_reducible refine (IC.out G hG).mono ?_); rintro e G2 ⟨rfl, hbG2⟩)
         | ((with_reducible refine (IC.out _ HR.out).mono ?_); rintro e G2 ⟨rfl, hbG2⟩))
        go_ret
        exact ⟨by simp, by first | exact hbG2 | exact hbG | exact HB.out⟩
     ·have g6 : (kd == 3) = false := by simp [e_g6]
      cases za with
      | false =>
        have IA := hid iA;have IC := hid iC;clear iA iC;go_enter Tryz.func178, Tryz.ntmps178
        go_wp2_with (go_at_call 177; first
         | ((with_reducible refine IA.out.mono ?_); rintro e G ⟨rfl, hG, hbG, g0, g15, g16, g17, g18, g19, g20⟩)
         | ((with_reducible refine (IC.out G hG).mono ?_); rintro e G2 ⟨rfl, hbG2⟩)
         | ((with_reducible refine (IC.out _ HR.out).mono ?_); rintro e G2 ⟨rfl, hbG2⟩))
        go_ret
        exact ⟨by simp [e_g1, e_g5, e_g6], by first | exact hbG2 | exact hbG | exact HB.out⟩
      | true =>
        have IA := hid iA;have IC := hid iC;clear iA iC;go_enter Tryz.func178, Tryz.ntmps178
        go_wp2_with (go_at_call 177; first
         | ((with_reducible refine IA.out.mono ?_); rintro e G ⟨rfl, hG, hbG, g0, g15, g16, g17, g18, g19, g20⟩)
         | ((with_reducible refine (IC.out G hG).mono ?_); rintro e G2 ⟨rfl, hbG2⟩)
         | ((with_reducible refine (IC.out _ HR.out).mono ?_); rintro e G2 ⟨rfl, hbG2⟩))
        go_ret
        exact ⟨by simp [e_g1, e_g5, e_g6], by first | exact hbG2 | exact hbG | exact HB.out⟩
   ·have g3 : (rg == 0) = false := (by simp [e_g3]);have IA := hid iA;have IC := hid iC;clear iA iC;go_enter Tryz.func178, Tryz.ntmps178
    go_wp2_with (go_at_call 177; first
     | ((with_reducible refine IA.out.mono ?_); rintro e G ⟨rfl, hG, hbG, g0, g15, g16, g17, g18, g19, g20⟩)
     | ((with_reducible refine (IC.out G hG).mono ?_); rintro e G2 ⟨rfl, hbG2⟩)
     | ((with_reducible refine (IC.out _ HR.out).mono ?_); rintro e G2 ⟨rfl, hbG2⟩))
    go_ret
    exact ⟨by simp [e_g1, e_g3], by first | exact hbG2 | exact hbG | exact HB.out⟩
  ·have g2 : (op == 0) = false := by simp [e_g2]
   have IA := hid iA;have IC := hid iC;clear iA iC;go_enter Tryz.func178, Tryz.ntmps178
   go_wp2_with (go_at_call 177; first
    | ((with_reducible refine IA.out.mono ?_); rintro e G ⟨rfl, hG, hbG, g0, g15, g16, g17, g18, g19, g20⟩)
    | ((with_reducible refine (IC.out G hG).mono ?_); rintro e G2 ⟨rfl, hbG2⟩)
    | ((with_reducible refine (IC.out _ HR.out).mono ?_); rintro e G2 ⟨rfl, hbG2⟩))
   go_ret
   exact ⟨by simp [e_g1, e_g2], by first | exact hbG2 | exact hbG | exact HB.out⟩
theorem zc0 (W : World) (f : MEff) (cs : List Value) (hE : effE W cs f) :
 Calls prog 178 #[.agg cs.toArray] W fun e w' => e = .returned (.bool (zas f)) /\ Below W.heap.size W w' := by
 obtain ⟨sa, sv, sc, rfl, _, _, _, hfa, hsa, hfv, hsv, hfc, hsc⟩ := hE
 have h := zab W f.kind f.oper f.reg (.int .u8 f.addr.kind) (.int .i64 f.addr.width) (.int .u64 f.addr.bits) (.string f.addr.name) (.int .i64 f.addr.low) sa (.int .u8 f.value.kind) (.int .i64 f.value.width) (.int .u64 f.value.bits) (.string f.value.name) (.int .i64 f.value.low) sv (.int .u8 f.cond.kind) (.int .i64 f.cond.width) (.int .u64 f.cond.bits) (.string f.cond.name) (.int .i64 f.cond.low) sc (z2z f.addr) (z2z f.cond)
  (fun X hX => by have hZ := (Below.refl W.heap.size W).alloc (Nat.le_refl _) (.cells (([.int .u8 (f.kind : Nat), .int .i64 f.oper, .int .i64 f.reg] : List Value) ++ Tm.cells f.addr sa ++ Tm.cells f.value sv ++ Tm.cells f.cond sc).toArray 92);exact z5j _ f.addr (Tm.cells f.addr sa) ⟨sa, rfl, hfa, zr hsa (hZ.trans (hX.mono hZ.size))⟩)
  (fun X hX => by have hZ := (Below.refl W.heap.size W).alloc (Nat.le_refl _) (.cells (([.int .u8 (f.kind : Nat), .int .i64 f.oper, .int .i64 f.reg] : List Value) ++ Tm.cells f.addr sa ++ Tm.cells f.value sv ++ Tm.cells f.cond sc).toArray 92);exact z5j _ f.cond (Tm.cells f.cond sc) ⟨sc, rfl, hfc, zr hsc (hZ.trans (hX.mono hZ.size))⟩)
 refine h.mono fun e w' ⟨h1, h2⟩ => ⟨?_, h2⟩;rw [h1];unfold zas;have e1 : decide ((f.kind : Int) = 1) = decide (f.kind = 1) := by simp; omega
 have e2 : decide ((f.kind : Int) = 2) = decide (f.kind = 2) := by simp; omega
 have e3 : decide ((f.kind : Int) = 3) = decide (f.kind = 3) := by simp; omega
 rw [e1, e2, e3]
theorem z8j (W : World) (k : Nat) (R : List MReg) (kd op rg : Int) (t0 t1 t2 t3 t4 t5 t6 t7 t8 t9 t10 t11 t12 t13 t14 t15 t16 t17 : Value) (AR AO : Option Addr) (nR cR nO cO : Nat) (ops : List MOper) (hk : k < W.heap.size) (c3 : W.cell? ⟨k, 3, none⟩ = some (.slice AR nR cR))
 (hR : zf 4 regE W (.slice AR nR cR) R) (hnR : R.length = nR) (hO : zf 6 z1g W (.slice AO nO cO) ops) (hnO : ops.length = nO) (wo : MOper -> Int)
 (hwo : ∀ X, Below W.heap.size W X -> ∀ o ∈ ops, ∀ cs, z1g X cs o -> Calls prog 163 #[.pointer (some ⟨k, 0, none⟩), .agg cs.toArray] X fun e w' => e = .returned (.int .i64 (wo o)) /\ Below X.heap.size X w') :
 Calls prog 175 #[.pointer (some ⟨k, 0, none⟩), .agg #[.int .u8 kd, .int .i64 op, .int .i64 rg, t0, t1, t2, t3, t4, t5, t6, t7, t8, t9, t10, t11, t12, t13, t14, t15, t16, t17], .slice AO nO cO] W fun e w' => e = .returned (.int .i64 (if op = -1 /\ 0 <= rg /\ rg < nR then zx R rg else if 0 <= op /\ op < nO then (match ops[op.toNat]? with | some o => if (o.kind : Int) = 1 then wo o else 0 | none => 0) else 0)) /\ Below W.heap.size W w' := by
 obtain ⟨W1, hW1⟩ : ∃ W1, W1 = W.alloc (.cells #[.int .u8 kd, .int .i64 op, .int .i64 rg, t0, t1, t2, t3, t4, t5, t6, t7, t8, t9, t10, t11, t12, t13, t14, t15, t16, t17] 92) := ⟨_, rfl⟩;have HW := hid hW1;have hb : Below W.heap.size W W1 := by rw [hW1]; exact (Below.refl _ _).alloc (Nat.le_refl _) _
 have HB1 := hid hb;have HB := hid (zg hb hb.size);have f1 : W1.cell? ⟨W.heap.size, 1, none⟩ = some (.int .i64 op) := by rw [hW1]; simp only [World.cell?]; rw [heap_alloc_new]; rfl
 have f2 : W1.cell? ⟨W.heap.size, 2, none⟩ = some (.int .i64 rg) := by rw [hW1]; simp only [World.cell?]; rw [heap_alloc_new]; rfl
 have d3 := (hb.cell (p := ⟨k, 3, none⟩) hk).trans c3;have K1 := cell_regrown f1;have K2 := cell_regrown f2;have K3 := cell_regrown d3;have iR : ∀ d os, Calls prog 85 #[.int .i64 rg, .slice AR nR cR] (grow (redrawn W1 d) os) fun e w'' => e = .returned (.bool (decide (0 <= rg /\ rg < nR))) /\ ∃ p : Regrown, w'' = grow (redrawn W1 p.d) p.os := fun d os => zh (z2m _ _ _ _ _);have iO : ∀ G, Calls prog 184 #[.int .i64 op, .slice AO nO cO] G fun e w'' => e = .returned (.bool (decide (0 <= op /\ op < nO))) /\ G = w'' := fun G => z5x _ _ _ _ _;by_cases e1 : op = -1
 ·subst e1;by_cases e2 : 0 <= rg /\ rg < nR
  ·rw [if_pos ⟨rfl, e2⟩];rw [show decide (0 <= rg /\ rg < (nR : Int)) = true by simpa using e2] at iR;obtain ⟨i, rfl⟩ : ∃ i : Nat, rg = i := ⟨rg.toNat, by omega⟩;obtain ⟨y, hy⟩ : ∃ y, R[i]? = some y := ⟨_, List.getElem?_eq_getElem (by omega)⟩;obtain ⟨A', c', e3, _, _, _, hall⟩ := hR;obtain ⟨b, o, cs, e4, hbl, hcl, hcell, hE⟩ := hall i y hy;obtain ⟨rfl, rfl, rfl⟩ : AR = A' /\ nR = R.length /\ cR = c' := by cases e3; exact ⟨rfl, rfl, rfl⟩
   subst e4;obtain ⟨rfl, _⟩ := hE;have p1 := (hb.cell (p := ⟨b, o + i * 4 + 1, none⟩) hbl).trans (hcell 1 _ rfl);rw [show zx R (i : Int) = y.width by unfold zx; rw [show (i : Int).toNat = i by simp, hy]];obtain ⟨yw, hyw⟩ : ∃ z, y.width = z := ⟨_, rfl⟩;rw [hyw] at p1 ⊢;have KY := cell_regrown p1;have hin : (i : Int) < (R.length : Int) := e2.2;have hi0 : (0 : Int) <= (i : Int) := e2.1;have IR := hid iR;clear iR iO hb hW1 hyw hy hall hcell hcl hwo e2 hO c3 e3 hnO;obtain ⟨nR, hnR2⟩ : ∃ n, R.length = n := ⟨_, rfl⟩;rw [hnR2] at hin d3 K3 IR;clear hnR2;go_enter Tryz.func175, Tryz.ntmps175
   go_wp2_with fail
   rw [<- HW.out];refine wp_region_quiet_below (by kernel_rfl) (by kernel_rfl) ?_;repeat (first | go_big_quiet_step (first | (with_reducible exact IR.out _ _)) | quiet_step (first | (with_reducible exact IR.out _ _)))
   refine wpQuiet_nil ?_;intro G hG;have g2 : G.cell? ⟨W.heap.size, 2, none⟩ = some (.int .i64 i) := by obtain ⟨p, rfl⟩ := hG; exact K2 _ _
   have g3 : G.cell? ⟨k, 3, none⟩ = some (.slice (some ⟨b, o, none⟩) nR cR) := by obtain ⟨p, rfl⟩ := hG; exact K3 _ _
   have gy : G.cell? ⟨b, o + i * 4 + 1, none⟩ = some (.int .i64 yw) := by obtain ⟨p, rfl⟩ := hG; exact KY _ _
   have hbG : Below W.heap.size W G := by obtain ⟨p, rfl⟩ := hG; exact HB.out _ _
   have HBG := hid (zg hbG hbG.size);have L2 := cell_regrown g2;have L3 := cell_regrown g3;have LY := cell_regrown gy;clear hG;go_wp2
   refine wp_region_quiet_below (by kernel_rfl) (by kernel_rfl) ?_;repeat (first | go_big_quiet_step (fail) | quiet_step (fail))
   refine wpQuiet_nil ?_;intro G2 hG2;have hbG2 : Below W.heap.size W G2 := by obtain ⟨p, rfl⟩ := hG2; exact HBG.out _ _
   clear hG2;go_wp2
   go_ret
   exact ⟨rfl, hbG2⟩
  ·rw [if_neg (fun q => e2 q.2), if_neg (by omega)];rw [show decide (0 <= rg /\ rg < (nR : Int)) = false by simpa using e2] at iR;have iO : ∀ G, Calls prog 184 #[.int .i64 (-1), .slice AO nO cO] G fun e w'' => e = .returned (.bool false) /\ G = w'' := iO;have IR := hid iR;have IO := hid iO;clear iR iO hb hW1 hwo e2 hO c3 hR;go_enter Tryz.func175, Tryz.ntmps175
   go_wp2_with fail
   rw [<- HW.out];refine wp_region_quiet_below (by kernel_rfl) (by kernel_rfl) ?_;repeat (first | go_big_quiet_step (first | (with_reducible exact IR.out _ _)) | quiet_step (first | (with_reducible exact IR.out _ _)))
   refine wpQuiet_nil ?_;intro G hG;have g1 : G.cell? ⟨W.heap.size, 1, none⟩ = some (.int .i64 (-1)) := by obtain ⟨p, rfl⟩ := hG; exact K1 _ _
   have hbG : Below W.heap.size W G := by obtain ⟨p, rfl⟩ := hG; exact HB.out _ _
   clear hG;go_wp2_with (go_at_call 184; (with_reducible refine (IO.out _).mono ?_); rintro e w' ⟨rfl, rfl⟩)
   go_ret
   exact ⟨rfl, hbG⟩
 ·rw [if_neg (fun q => e1 q.1)];have g : (op == -1) = false := by simp [e1]
  by_cases e2 : 0 <= op /\ op < nO
  ·rw [if_pos e2];rw [show decide (0 <= op /\ op < (nO : Int)) = true by simpa using e2] at iO;obtain ⟨i, rfl⟩ : ∃ i : Nat, op = i := ⟨op.toNat, by omega⟩;obtain ⟨y, hy⟩ : ∃ y, ops[i]? = some y := ⟨_, List.getElem?_eq_getElem (by omega)⟩;have hwy := fun X hX => hwo X hX y (List.mem_of_getElem? hy);have hO2 := hO;obtain ⟨A', c', e3, _, _, _, hall⟩ := hO;obtain ⟨b, o, cs, e4, hbl, hcl, hcell, hE⟩ := hall i y hy;obtain ⟨rfl, rfl, rfl⟩ : AO = A' /\ nO = ops.length /\ cO = c' := by cases e3; exact ⟨rfl, rfl, rfl⟩
   subst e4;rw [show (i : Int).toNat = i by simp, hy];have hE2 := hE;obtain ⟨sv, rfl, _⟩ := hE;have hwz : ∀ X, Below W.heap.size W X -> Calls prog 163 #[.pointer (some ⟨k, 0, none⟩), .agg #[.string y.name, .int .u8 (y.kind : Nat), .int .i64 y.bank, .int .i64 y.scale, sv, .int .i64 y.tied]] X fun e w' => e = .returned (.int .i64 (wo y)) /\ Below W.heap.size W w' := fun X hX => (hwy X hX _ (hE2.kept hX)).mono fun e w' ⟨h1, h2⟩ => ⟨h1, hX.trans (h2.mono hX.size)⟩;have p0 := (hb.cell (p := ⟨b, o + i * 6 + 0, none⟩) hbl).trans (hcell 0 _ rfl);have p1 := (hb.cell (p := ⟨b, o + i * 6 + 1, none⟩) hbl).trans (hcell 1 _ rfl);have p2 := (hb.cell (p := ⟨b, o + i * 6 + 2, none⟩) hbl).trans (hcell 2 _ rfl);have p3 := (hb.cell (p := ⟨b, o + i * 6 + 3, none⟩) hbl).trans (hcell 3 _ rfl);have p4 := (hb.cell (p := ⟨b, o + i * 6 + 4, none⟩) hbl).trans (hcell 4 _ rfl);have p5 := (hb.cell (p := ⟨b, o + i * 6 + 5, none⟩) hbl).trans (hcell 5 _ rfl);simp only [Nat.add_zero] at p0;obtain ⟨ok, hok⟩ : ∃ z : Int, (y.kind : Int) = z := ⟨_, rfl⟩;rw [hok] at p1 hwz;obtain ⟨e0, h0⟩ : ∃ z, Value.string y.name = z := ⟨_, rfl⟩;rw [h0] at p0 hwz;obtain ⟨x2, h2⟩ : ∃ z, Value.int .i64 y.bank = z := ⟨_, rfl⟩;rw [h2] at p2 hwz;obtain ⟨x3, h3⟩ : ∃ z, Value.int .i64 y.scale = z := ⟨_, rfl⟩;rw [h3] at p3 hwz;obtain ⟨x5, h5⟩ : ∃ z, Value.int .i64 y.tied = z := ⟨_, rfl⟩;rw [h5] at p5 hwz;obtain ⟨wy, hwy2⟩ : ∃ z, wo y = z := ⟨_, rfl⟩;rw [hwy2] at hwz;show Calls _ _ _ _ (fun e w' => e = .returned (.int .i64 (if (y.kind : Int) = 1 then wo y else 0)) /\ _);rw [hwy2, hok];have KQ0 := cell_regrown p0;have KQ1 := cell_regrown p1;have KQ2 := cell_regrown p2;have KQ3 := cell_regrown p3;have KQ4 := cell_regrown p4;have KQ5 := cell_regrown p5;have hin : (i : Int) < (ops.length : Int) := e2.2;have hi0 : (0 : Int) <= (i : Int) := e2.1;have IO := hid iO;have HWZ := hid hwz;clear iR iO hb hW1 hy hall hcell hcl hwo hwy hwz e2 hO2 c3 e3 hR hE2 h0 h2 h3 h5 hok hwy2 hnO e1;obtain ⟨nO, hnO2⟩ : ∃ n, ops.length = n := ⟨_, rfl⟩;rw [hnO2] at hin IO;rw [hnO2];clear hnO2;by_cases h1 : ok = 1
   ·subst h1;rw [if_pos rfl];go_enter Tryz.func175, Tryz.ntmps175
    go_wp2_with fail
    rw [<- HW.out];refine wp_region_quiet_below (by kernel_rfl) (by kernel_rfl) ?_;repeat (first | go_big_quiet_step (fail) | quiet_step (fail))
    refine wpQuiet_nil ?_;intro G hG;have g1 : G.cell? ⟨W.heap.size, 1, none⟩ = some (.int .i64 i) := (by obtain ⟨p, rfl⟩ := hG; exact K1 _ _);have q0 : G.cell? ⟨b, o + i * 6, none⟩ = some e0 := (by obtain ⟨p, rfl⟩ := hG; exact KQ0 _ _);have q1 : G.cell? ⟨b, o + i * 6 + 1, none⟩ = some (.int .u8 1) := (by obtain ⟨p, rfl⟩ := hG; exact KQ1 _ _);have q2 : G.cell? ⟨b, o + i * 6 + 2, none⟩ = some x2 := (by obtain ⟨p, rfl⟩ := hG; exact KQ2 _ _);have q3 : G.cell? ⟨b, o + i * 6 + 3, none⟩ = some x3 := (by obtain ⟨p, rfl⟩ := hG; exact KQ3 _ _);have q4 : G.cell? ⟨b, o + i * 6 + 4, none⟩ = some sv := (by obtain ⟨p, rfl⟩ := hG; exact KQ4 _ _);have q5 : G.cell? ⟨b, o + i * 6 + 5, none⟩ = some x5 := (by obtain ⟨p, rfl⟩ := hG; exact KQ5 _ _);have hbG : Below W.heap.size W G := (by obtain ⟨p, rfl⟩ := hG; exact HB.out _ _);clear hG
    go_wp2_with (first
     | (go_at_call 184; (with_reducible refine (IO.out _).mono ?_); rintro e w' ⟨rfl, rfl⟩)
     | (go_at_call 163; (with_reducible refine (HWZ.out G hbG).mono ?_); rintro e G3 ⟨rfl, hbG3⟩))
    go_ret
    exact ⟨rfl, hbG3⟩
   ·rw [if_neg h1];have gk : (ok == 1) = false := (by simp [h1]);go_enter Tryz.func175, Tryz.ntmps175
    go_wp2_with fail
    rw [<- HW.out];refine wp_region_quiet_below (by kernel_rfl) (by kernel_rfl) ?_;repeat (first | go_big_quiet_step (fail) | quiet_step (fail))
    refine wpQuiet_nil ?_;intro G hG;have g1 : G.cell? ⟨W.heap.size, 1, none⟩ = some (.int .i64 i) := (by obtain ⟨p, rfl⟩ := hG; exact K1 _ _);have q0 : G.cell? ⟨b, o + i * 6, none⟩ = some e0 := (by obtain ⟨p, rfl⟩ := hG; exact KQ0 _ _);have q1 : G.cell? ⟨b, o + i * 6 + 1, none⟩ = some (.int .u8 ok) := (by obtain ⟨p, rfl⟩ := hG; exact KQ1 _ _);have q2 : G.cell? ⟨b, o + i * 6 + 2, none⟩ = some x2 := (by obtain ⟨p, rfl⟩ := hG; exact KQ2 _ _);have q3 : G.cell? ⟨b, o + i * 6 + 3, none⟩ = some x3 := (by obtain ⟨p, rfl⟩ := hG; exact KQ3 _ _);have q4 : G.cell? ⟨b, o + i * 6 + 4, none⟩ = some sv := (by obtain ⟨p, rfl⟩ := hG; exact KQ4 _ _);have q5 : G.cell? ⟨b, o + i * 6 + 5, none⟩ = some x5 := (by obtain ⟨p, rfl⟩ := hG; exact KQ5 _ _);have hbG : Below W.heap.size W G := (by obtain ⟨p, rfl⟩ := hG; exact HB.out _ _);clear hG;go_wp2_with (go_at_call 184; (with_reducible refine (IO.out _).mono ?_); rintro e w' ⟨rfl, rfl⟩)
    go_ret
    exact ⟨rfl, hbG⟩
  ·rw [if_neg e2];rw [show decide (0 <= op /\ op < (nO : Int)) = false by simpa using e2] at iO;have IO := hid iO;clear iR iO hb hW1 hwo e2 hO c3 hR e1;go_enter Tryz.func175, Tryz.ntmps175
   go_wp2_with fail
   rw [<- HW.out];refine wp_region_quiet_below (by kernel_rfl) (by kernel_rfl) ?_;repeat (first | go_big_quiet_step (fail) | quiet_step (fail))
   refine wpQuiet_nil ?_;intro G hG;have g1 : G.cell? ⟨W.heap.size, 1, none⟩ = some (.int .i64 op) := by obtain ⟨p, rfl⟩ := hG; exact K1 _ _
   have hbG : Below W.heap.size W G := by obtain ⟨p, rfl⟩ := hG; exact HB.out _ _
   clear hG;go_wp2_with (go_at_call 184; (with_reducible refine (IO.out _).mono ?_); rintro e w' ⟨rfl, rfl⟩)
   go_ret
   exact ⟨rfl, hbG⟩
theorem z9x (W : World) (k : Nat) (address : Int) (R : List MReg) (L : List MBank) (sr sb : Value) (hk : k < W.heap.size) (c2 : W.cell? ⟨k, 2, none⟩ = some (.int .i64 address)) (c3 : W.cell? ⟨k, 3, none⟩ = some sr) (c4 : W.cell? ⟨k, 4, none⟩ = some sb)
 (hR : zf 4 regE W sr R) (hL : zf 2 z1m W sb L) (ops : List MOper) (so : Value) (hO : zf 6 z1g W so ops) (hv : ∀ o ∈ ops, z4t R L o) (f : MEff) (cs : List Value) (hE : effE W cs f) :
 Calls prog 175 #[.pointer (some ⟨k, 0, none⟩), .agg cs.toArray, so] W fun e w' => e = .returned (.int .i64 (z48 address R L ops f)) /\ Below W.heap.size W w' := by
 obtain ⟨AR, cR, rfl, _⟩ := id hR;obtain ⟨AO, cO, rfl, _⟩ := id hO;obtain ⟨sa, sv, sc, rfl, _⟩ := hE
 have h := z8j W k R f.kind f.oper f.reg (.int .u8 f.addr.kind) (.int .i64 f.addr.width) (.int .u64 f.addr.bits) (.string f.addr.name) (.int .i64 f.addr.low) sa (.int .u8 f.value.kind) (.int .i64 f.value.width) (.int .u64 f.value.bits) (.string f.value.name) (.int .i64 f.value.low) sv (.int .u8 f.cond.kind) (.int .i64 f.cond.width) (.int .u64 f.cond.bits) (.string f.cond.name) (.int .i64 f.cond.low) sc AR AO R.length cR ops.length cO ops hk c3 hR rfl hO rfl (zu address R L)
  (fun X hX o ho cs hE => z70 X k address R L _ sb (Nat.lt_of_lt_of_le hk hX.size) ((hX.cell hk).trans c2) ((hX.cell hk).trans c3) ((hX.cell hk).trans c4) (hR.kept (fun cs x hx => regE.kept hx hX) hX) (hL.kept (fun cs x hx => z1m.kept hx hX) hX) o cs hE (hv o ho))
 exact h
end Go.Proofs.YtdmadnfadgggcaaGreatDoor
