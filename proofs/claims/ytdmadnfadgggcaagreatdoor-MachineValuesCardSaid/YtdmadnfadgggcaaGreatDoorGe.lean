import Derived.Test.YtdmadnfadgggcaaGreatDoorGa
import Derived.Deep.Slices
import Derived.Deep.SlicePairs
import Derived.RowKit
set_option linter.unusedVariables false
set_option linter.unusedSimpArgs false
set_option warningAsError false
set_option maxHeartbeats 4000000
open Go.Lib (hid)
open Go.Proofs.Tryz (prog)
namespace Go.Proofs.YtdmadnfadgggcaaGreatDoor
open Go.RowKit Go.ChangeShapes Go.WideShapes Go.Deep
set_option maxRecDepth 100000
structure MReg where
 name : ByteArray
 width : Int
 par : Int
 low : Int
structure MUnit where
 name : ByteArray
 count : Int
structure MBank where
 name : ByteArray
 regs : List Int
structure MPiece where
 pos : Int
 len : Int
structure MOper where
 name : ByteArray
 kind : Nat
 bank : Int
 scale : Int
 pieces : List MPiece
 tied : Int
structure MEff where
 kind : Nat
 oper : Int
 reg : Int
 addr : Tm
 value : Tm
 cond : Tm
structure MIns where
 name : ByteArray
 mask : Nat
 mtch : Nat
 opers : List MOper
 effs : List MEff
 unit : Int
 busy : Int
 lat : Int
 slots : Int
structure Mach where
 name : ByteArray
 word : Int
 address : Int
 regs : List MReg
 banks : List MBank
 units : List MUnit
 instrs : List MIns
def zf {α : Type} (n : Nat) (E : World -> List Value -> α -> Prop) (w : World) (v : Value) (L : List α) : Prop :=
 ∃ (A : Option Addr) (c : Nat), v = .slice A L.length c /\ L.length <= maxLen /\ L.length <= c /\ c <= maxLen /\
  ∀ (i : Nat) (x : α), L[i]? = some x -> ∃ b o cs, A = some ⟨b, o, none⟩ /\ b < w.heap.size /\ cs.length = n /\ (∀ (j : Nat) (u : Value), cs[j]? = some u -> w.cell? ⟨b, o + i * n + j, none⟩ = some u) /\ E w cs x
theorem zf.kept {α : Type} {n : Nat} {E : World -> List Value -> α -> Prop} {w w' : World} {v : Value} {L : List α} (h : zf n E w v L) (hE : ∀ cs x, E w cs x -> E w' cs x) (hb : Below w.heap.size w w') : zf n E w' v L := by obtain ⟨A, c, h1, h2, h3, h4, h5⟩ := h;refine ⟨A, c, h1, h2, h3, h4, fun i x hx => ?_⟩;obtain ⟨b, o, cs, h6, h7, h8, h9, h10⟩ := h5 i x hx;exact ⟨b, o, cs, h6, Nat.lt_of_lt_of_le h7 hb.size, h8, fun j u hj => by rw [hb.cell h7]; exact h9 j u hj, hE _ _ h10⟩
def intE (w : World) (cs : List Value) (z : Int) : Prop := cs = [.int .i64 z] /\ -9223372036854775808 <= z /\ z <= 9223372036854775807
theorem intE.kept {w w' : World} {cs : List Value} {z : Int} (h : intE w cs z) (hb : Below w.heap.size w w') : intE w' cs z := h
def zcn (w : World) (cs : List Value) (t : Tm) : Prop := ∃ sv, cs = Tm.cells t sv /\ t.fit /\ SubAt w w.heap.size sv t.sub
theorem SubAt.wider {w : World} {B C : Nat} {v : Value} {ts : List Tm} (h : SubAt w B v ts) (hBC : B <= C) : SubAt w C v ts := by
 induction h with
 | mk p n cap ts S hn hm hf hp hs ih => refine .mk p n cap ts S hn hm hf (fun i t hi => ?_) (fun i t hi => ih i t hi);obtain ⟨b, o, e, h0, r⟩ := hp i t hi;exact ⟨b, o, e, Nat.lt_of_lt_of_le h0 hBC, r⟩
theorem zr {w w' : World} {v : Value} {ts : List Tm} (h : SubAt w w.heap.size v ts) (hb : Below w.heap.size w w') : SubAt w' w'.heap.size v ts := (h.kept hb).wider hb.size
theorem zcn.kept {w w' : World} {cs : List Value} {t : Tm} (h : zcn w cs t) (hb : Below w.heap.size w w') : zcn w' cs t := by obtain ⟨sv, h1, h2, h3⟩ := h;exact ⟨sv, h1, h2, zr h3 hb⟩
def regE (w : World) (cs : List Value) (x : MReg) : Prop := cs = [.string x.name, .int .i64 x.width, .int .i64 x.par, .int .i64 x.low] /\ x.name.size <= maxLen /\ (-9223372036854775808 <= x.width /\ x.width <= 9223372036854775807) /\ (-9223372036854775808 <= x.par /\ x.par <= 9223372036854775807) /\ (-9223372036854775808 <= x.low /\ x.low <= 9223372036854775807)
theorem regE.kept {w w' : World} {cs : List Value} {x : MReg} (h : regE w cs x) (hb : Below w.heap.size w w') : regE w' cs x := by obtain ⟨hc, h0, h1, h2, h3⟩ := h;exact ⟨hc, h0, h1, h2, h3⟩
def z3u (w : World) (cs : List Value) (x : MUnit) : Prop := cs = [.string x.name, .int .i64 x.count] /\ x.name.size <= maxLen /\ (-9223372036854775808 <= x.count /\ x.count <= 9223372036854775807)
theorem z3u.kept {w w' : World} {cs : List Value} {x : MUnit} (h : z3u w cs x) (hb : Below w.heap.size w w') : z3u w' cs x := by obtain ⟨hc, h0, h1⟩ := h;exact ⟨hc, h0, h1⟩
def z1m (w : World) (cs : List Value) (x : MBank) : Prop := ∃ s_regs, cs = [.string x.name, s_regs] /\ x.name.size <= maxLen /\ zf 1 intE w s_regs x.regs
theorem z1m.kept {w w' : World} {cs : List Value} {x : MBank} (h : z1m w cs x) (hb : Below w.heap.size w w') : z1m w' cs x := by obtain ⟨s_regs, hc, h0, h1⟩ := h;exact ⟨s_regs, hc, h0, h1.kept (fun cs x hx => intE.kept hx hb) hb⟩
def z44 (w : World) (cs : List Value) (x : MPiece) : Prop := cs = [.int .i64 x.pos, .int .i64 x.len] /\ (-9223372036854775808 <= x.pos /\ x.pos <= 9223372036854775807) /\ (-9223372036854775808 <= x.len /\ x.len <= 9223372036854775807)
theorem z44.kept {w w' : World} {cs : List Value} {x : MPiece} (h : z44 w cs x) (hb : Below w.heap.size w w') : z44 w' cs x := by obtain ⟨hc, h0, h1⟩ := h;exact ⟨hc, h0, h1⟩
def z1g (w : World) (cs : List Value) (x : MOper) : Prop := ∃ s_pieces, cs = [.string x.name, .int .u8 (x.kind : Nat), .int .i64 x.bank, .int .i64 x.scale, s_pieces, .int .i64 x.tied] /\ x.name.size <= maxLen /\ x.kind < 256 /\ (-9223372036854775808 <= x.bank /\ x.bank <= 9223372036854775807) /\ (-9223372036854775808 <= x.scale /\ x.scale <= 9223372036854775807) /\ zf 2 z44 w s_pieces x.pieces /\ (-9223372036854775808 <= x.tied /\ x.tied <= 9223372036854775807)
theorem z1g.kept {w w' : World} {cs : List Value} {x : MOper} (h : z1g w cs x) (hb : Below w.heap.size w w') : z1g w' cs x := by obtain ⟨s_pieces, hc, h0, h1, h2, h3, h4, h5⟩ := h;exact ⟨s_pieces, hc, h0, h1, h2, h3, h4.kept (fun cs x hx => z44.kept hx hb) hb, h5⟩
def effE (w : World) (cs : List Value) (x : MEff) : Prop := ∃ s_addr s_value s_cond, cs = [.int .u8 (x.kind : Nat), .int .i64 x.oper, .int .i64 x.reg] ++ Tm.cells x.addr s_addr ++ Tm.cells x.value s_value ++ Tm.cells x.cond s_cond /\ x.kind < 256 /\ (-9223372036854775808 <= x.oper /\ x.oper <= 9223372036854775807) /\ (-9223372036854775808 <= x.reg /\ x.reg <= 9223372036854775807) /\ x.addr.fit /\ SubAt w w.heap.size s_addr x.addr.sub /\ x.value.fit /\ SubAt w w.heap.size s_value x.value.sub /\ x.cond.fit /\ SubAt w w.heap.size s_cond x.cond.sub
theorem effE.kept {w w' : World} {cs : List Value} {x : MEff} (h : effE w cs x) (hb : Below w.heap.size w w') : effE w' cs x := by obtain ⟨s_addr, s_value, s_cond, hc, h0, h1, h2, h3, h4, h5, h6, h7, h8⟩ := h;exact ⟨s_addr, s_value, s_cond, hc, h0, h1, h2, h3, zr h4 hb, h5, zr h6 hb, h7, zr h8 hb⟩
def insE (w : World) (cs : List Value) (x : MIns) : Prop := ∃ s_opers s_effs, cs = [.string x.name, .int .u64 (x.mask : Nat), .int .u64 (x.mtch : Nat), s_opers, s_effs, .int .i64 x.unit, .int .i64 x.busy, .int .i64 x.lat, .int .i64 x.slots] /\ x.name.size <= maxLen /\ x.mask < 18446744073709551616 /\ x.mtch < 18446744073709551616 /\ zf 6 z1g w s_opers x.opers /\ zf 21 effE w s_effs x.effs /\ (-9223372036854775808 <= x.unit /\ x.unit <= 9223372036854775807) /\ (-9223372036854775808 <= x.busy /\ x.busy <= 9223372036854775807) /\ (-9223372036854775808 <= x.lat /\ x.lat <= 9223372036854775807) /\ (-9223372036854775808 <= x.slots /\ x.slots <= 9223372036854775807)
theorem insE.kept {w w' : World} {cs : List Value} {x : MIns} (h : insE w cs x) (hb : Below w.heap.size w w') : insE w' cs x := by obtain ⟨s_opers, s_effs, hc, h0, h1, h2, h3, h4, h5, h6, h7, h8⟩ := h;exact ⟨s_opers, s_effs, hc, h0, h1, h2, h3.kept (fun cs x hx => z1g.kept hx hb) hb, h4.kept (fun cs x hx => effE.kept hx hb) hb, h5, h6, h7, h8⟩
def zc6 (w : World) (cs : List Value) (x : Mach) : Prop := ∃ s_regs s_banks s_units s_instrs, cs = [.string x.name, .int .i64 x.word, .int .i64 x.address, s_regs, s_banks, s_units, s_instrs] /\ x.name.size <= maxLen /\ (-9223372036854775808 <= x.word /\ x.word <= 9223372036854775807) /\ (-9223372036854775808 <= x.address /\ x.address <= 9223372036854775807) /\ zf 4 regE w s_regs x.regs /\ zf 2 z1m w s_banks x.banks /\ zf 2 z3u w s_units x.units /\ zf 9 insE w s_instrs x.instrs
theorem zc6.kept {w w' : World} {cs : List Value} {x : Mach} (h : zc6 w cs x) (hb : Below w.heap.size w w') : zc6 w' cs x := by obtain ⟨s_regs, s_banks, s_units, s_instrs, hc, h0, h1, h2, h3, h4, h5, h6⟩ := h;exact ⟨s_regs, s_banks, s_units, s_instrs, hc, h0, h1, h2, h3.kept (fun cs x hx => regE.kept hx hb) hb, h4.kept (fun cs x hx => z1m.kept hx hb) hb, h5.kept (fun cs x hx => z3u.kept hx hb) hb, h6.kept (fun cs x hx => insE.kept hx hb) hb⟩
section
variable {H : Type} {enc : TypeId × Value -> H} {W : World}
theorem zev {a : Addr} {v : Value} {i : Nat} (hi : i = 0) (h : W.cell? (a.add i) = some v) : ∃ b o, a = ⟨b, o, none⟩ := by
 subst hi;obtain ⟨b, o, spot⟩ := a;obtain rfl : spot = none := by simpa [Addr.add] using World.cell?_spot h
 exact ⟨b, o, rfl⟩
theorem z2c {n : Int} (h : (Lit.int .i64 n).wf = true) : -9223372036854775808 <= n /\ n <= 9223372036854775807 := by simp [Lit.wf, IntKind.min, IntKind.max, IntKind.bits, IntKind.signed] at h;exact ⟨h.1, by omega⟩
theorem zgn {n : Int} (h : (Lit.int .u64 n).wf = true) : ∃ x : Nat, n = x /\ x < 18446744073709551616 := by simp [Lit.wf, IntKind.min, IntKind.max, IntKind.bits, IntKind.signed] at h;exact ⟨n.toNat, by omega, by omega⟩
theorem zhg {n : Int} (h : (Lit.int .u8 n).wf = true) : ∃ x : Nat, n = x /\ x < 256 := by simp [Lit.wf, IntKind.min, IntKind.max, IntKind.bits, IntKind.signed] at h;exact ⟨n.toNat, by omega, by omega⟩
theorem z2g {α : Type} [Inhabited α] {sl el : TypeId} {n : Nat} {E : World -> List Value -> α -> Prop} (hsl : prog.underlying sl = some (.slice el)) (hn : prog.cellsOf el = n) (hpos : 0 < n)
 (hE : ∀ {fuel : Nat} {cs : List Value} {y : DataW H × List MemPlace}, DataW.trod enc prog W 0 (fun _ => true) true fuel el cs = some y -> ∃ x, E W cs x)
 {fuel : Nat} {v : Value} {y : DataW H × List MemPlace} (h : DataW.trod enc prog W 0 (fun _ => true) true fuel sl [v] = some y) : ∃ L : List α, zf n E W v L := by
 rcases open_slice hsl h with ⟨h1, _⟩ | ⟨a, len0, cap0, m, k, DD, Pl, h1, hb, hl, hm, hmm, _, hx⟩
 ·simp only [List.cons.injEq, and_true] at h1;exact ⟨[], none, 0, h1, by simp, by simp, by simp, fun i x hx => by simp at hx⟩
 ·simp only [List.cons.injEq, and_true] at h1;simp only [if_true] at hmm;have each : ∀ i, i < len0 -> ∃ q : List Value × α, W.cells? 0 (a.add (i * n)) n = some q.1 /\ E W q.1 q.2 := by
   intro i hi;obtain ⟨cs', h2, h3⟩ := hx i (by omega);rw [hn] at h2;obtain ⟨x, hx'⟩ := hE h3;exact ⟨(cs', x), h2, hx'⟩
  obtain ⟨q, hq⟩ := choose_lt each;have hlen : ((List.range len0).map fun i => (q i).2).length = len0 := by simp
  refine ⟨(List.range len0).map fun i => (q i).2, some a, cap0, by rw [hlen]; exact h1, by rw [hlen]; omega, by rw [hlen]; omega, by omega, fun i x hx => ?_⟩;have hi : i < len0 := by
   rcases Nat.lt_or_ge i len0 with h | h
   ·exact h
   ·rw [List.getElem?_eq_none (by simpa using h)] at hx; cases hx
  rw [List.getElem?_map, List.getElem?_range hi] at hx;obtain rfl := Option.some.inj hx;obtain ⟨_, hlen0, hc0⟩ := World.cells?_some (hq 0 (by omega)).1;have hz := hc0 0 (by omega);rw [add_add] at hz;obtain ⟨b, o, rfl⟩ := zev (i := 0 * n + 0) (by simp) (hz.trans (List.getElem?_eq_getElem (by omega)));obtain ⟨_, hcl, hc⟩ := World.cells?_some (hq i hi).1;refine ⟨b, o, (q i).1, rfl, ?_, hcl, fun j u hu => ?_, (hq i hi).2⟩
  ·have h9 := hc 0 (by omega);rw [add_add, add_plain] at h9;exact z3y (h9.trans (List.getElem?_eq_getElem (by omega)))
  ·have hj : j < n := by
    rcases Nat.lt_or_ge j (q i).1.length with h | h
    ·omega
    ·rw [List.getElem?_eq_none h] at hu; cases hu
   have h9 := hc j (by omega);rw [add_add, add_plain] at h9;rw [Nat.add_assoc];exact h9.trans hu
theorem open_int {fuel : Nat} {cs : List Value} {y : DataW H × List MemPlace} (h : DataW.trod enc prog W 0 (fun _ => true) true fuel 3 cs = some y) : ∃ z, intE W cs z := by obtain ⟨z, q, _, w⟩ := DataW.trod_int Tryz.underlying3 h;exact ⟨z, q, (z2c w).1, (z2c w).2⟩
instance : Inhabited MReg := ⟨⟨⟨#[]⟩, 0, 0, 0⟩⟩
theorem zg3 {fuel : Nat} {cs : List Value} {y : DataW H × List MemPlace} (h : DataW.trod enc prog W 0 (fun _ => true) true fuel 96 cs = some y) : ∃ x, regE W cs x := by
 obtain ⟨xs, k, _, _, hcl, hxl, hf⟩ := DataW.trod_struct Tryz.underlying96 h;rw [show prog.cellsOf 96 = 4 by kernel_rfl] at hcl;have e0 : prog.cellsOf 9 = 1 := by kernel_rfl
 have e1 : prog.cellsOf 3 = 1 := by kernel_rfl
 match xs, hxl, cs, hcl with
 | [y0, y1, y2, y3], _, [v0, v1, v2, v3], _ => have g0 : DataW.trod enc prog W 0 (fun _ => true) true k 9 (List.take (prog.cellsOf 9) [v0, v1, v2, v3]) = some y0 := hf 0 _ rfl;rw [e0] at g0;obtain ⟨z0, q0, _, w0⟩ := DataW.trod_string Tryz.underlying9 g0;simp only [List.take_succ_cons, List.take_zero, List.cons.injEq, and_true] at q0;subst q0;have g1 : DataW.trod enc prog W 0 (fun _ => true) true k 3 (List.take (prog.cellsOf 3) [v1, v2, v3]) = some y1 := hf 1 _ rfl;rw [e1] at g1;obtain ⟨z1, q1, _, w1⟩ := DataW.trod_int Tryz.underlying3 g1;simp only [List.take_succ_cons, List.take_zero, List.cons.injEq, and_true] at q1;subst q1;have g2 : DataW.trod enc prog W 0 (fun _ => true) true k 3 (List.take (prog.cellsOf 3) [v2, v3]) = some y2 := hf 2 _ rfl;rw [e1] at g2;obtain ⟨z2, q2, _, w2⟩ := DataW.trod_int Tryz.underlying3 g2;simp only [List.take_succ_cons, List.take_zero, List.cons.injEq, and_true] at q2;subst q2;have g3 : DataW.trod enc prog W 0 (fun _ => true) true k 3 (List.take (prog.cellsOf 3) [v3]) = some y3 := hf 3 _ rfl;rw [e1] at g3;obtain ⟨z3, q3, _, w3⟩ := DataW.trod_int Tryz.underlying3 g3;simp only [List.take_succ_cons, List.take_zero, List.cons.injEq, and_true] at q3;subst q3;exact ⟨⟨z0, z1, z2, z3⟩, rfl, w0, z2c w1, z2c w2, z2c w3⟩
instance : Inhabited MUnit := ⟨⟨⟨#[]⟩, 0⟩⟩
theorem zei {fuel : Nat} {cs : List Value} {y : DataW H × List MemPlace} (h : DataW.trod enc prog W 0 (fun _ => true) true fuel 158 cs = some y) : ∃ x, z3u W cs x := by
 obtain ⟨xs, k, _, _, hcl, hxl, hf⟩ := DataW.trod_struct Tryz.underlying158 h;rw [show prog.cellsOf 158 = 2 by kernel_rfl] at hcl;have e0 : prog.cellsOf 9 = 1 := by kernel_rfl
 have e1 : prog.cellsOf 3 = 1 := by kernel_rfl
 match xs, hxl, cs, hcl with
 | [y0, y1], _, [v0, v1], _ => have g0 : DataW.trod enc prog W 0 (fun _ => true) true k 9 (List.take (prog.cellsOf 9) [v0, v1]) = some y0 := hf 0 _ rfl;rw [e0] at g0;obtain ⟨z0, q0, _, w0⟩ := DataW.trod_string Tryz.underlying9 g0;simp only [List.take_succ_cons, List.take_zero, List.cons.injEq, and_true] at q0;subst q0;have g1 : DataW.trod enc prog W 0 (fun _ => true) true k 3 (List.take (prog.cellsOf 3) [v1]) = some y1 := hf 1 _ rfl;rw [e1] at g1;obtain ⟨z1, q1, _, w1⟩ := DataW.trod_int Tryz.underlying3 g1;simp only [List.take_succ_cons, List.take_zero, List.cons.injEq, and_true] at q1;subst q1;exact ⟨⟨z0, z1⟩, rfl, w0, z2c w1⟩
instance : Inhabited MBank := ⟨⟨⟨#[]⟩, []⟩⟩
theorem zee {fuel : Nat} {cs : List Value} {y : DataW H × List MemPlace} (h : DataW.trod enc prog W 0 (fun _ => true) true fuel 79 cs = some y) : ∃ x, z1m W cs x := by
 obtain ⟨xs, k, _, _, hcl, hxl, hf⟩ := DataW.trod_struct Tryz.underlying79 h;rw [show prog.cellsOf 79 = 2 by kernel_rfl] at hcl;have e0 : prog.cellsOf 9 = 1 := by kernel_rfl
 have e1 : prog.cellsOf 34 = 1 := by kernel_rfl
 match xs, hxl, cs, hcl with
 | [y0, y1], _, [v0, v1], _ => have g0 : DataW.trod enc prog W 0 (fun _ => true) true k 9 (List.take (prog.cellsOf 9) [v0, v1]) = some y0 := hf 0 _ rfl;rw [e0] at g0;obtain ⟨z0, q0, _, w0⟩ := DataW.trod_string Tryz.underlying9 g0;simp only [List.take_succ_cons, List.take_zero, List.cons.injEq, and_true] at q0;subst q0;have g1 : DataW.trod enc prog W 0 (fun _ => true) true k 34 (List.take (prog.cellsOf 34) [v1]) = some y1 := hf 1 _ rfl;rw [e1] at g1;simp only [List.take_succ_cons, List.take_zero] at g1;obtain ⟨L1, r1⟩ := z2g (n := 1) (E := intE) Tryz.underlying34 (by kernel_rfl) (by decide) (fun h => open_int h) g1;exact ⟨⟨z0, L1⟩, v1, rfl, w0, r1⟩
instance : Inhabited MPiece := ⟨⟨0, 0⟩⟩
theorem zcg {fuel : Nat} {cs : List Value} {y : DataW H × List MemPlace} (h : DataW.trod enc prog W 0 (fun _ => true) true fuel 172 cs = some y) : ∃ x, z44 W cs x := by
 obtain ⟨xs, k, _, _, hcl, hxl, hf⟩ := DataW.trod_struct Tryz.underlying172 h;rw [show prog.cellsOf 172 = 2 by kernel_rfl] at hcl;have e0 : prog.cellsOf 3 = 1 := by kernel_rfl
 match xs, hxl, cs, hcl with
 | [y0, y1], _, [v0, v1], _ => have g0 : DataW.trod enc prog W 0 (fun _ => true) true k 3 (List.take (prog.cellsOf 3) [v0, v1]) = some y0 := hf 0 _ rfl;rw [e0] at g0;obtain ⟨z0, q0, _, w0⟩ := DataW.trod_int Tryz.underlying3 g0;simp only [List.take_succ_cons, List.take_zero, List.cons.injEq, and_true] at q0;subst q0;have g1 : DataW.trod enc prog W 0 (fun _ => true) true k 3 (List.take (prog.cellsOf 3) [v1]) = some y1 := hf 1 _ rfl;rw [e0] at g1;obtain ⟨z1, q1, _, w1⟩ := DataW.trod_int Tryz.underlying3 g1;simp only [List.take_succ_cons, List.take_zero, List.cons.injEq, and_true] at q1;subst q1;exact ⟨⟨z0, z1⟩, rfl, z2c w0, z2c w1⟩
instance : Inhabited MOper := ⟨⟨⟨#[]⟩, 0, 0, 0, [], 0⟩⟩
theorem zeg {fuel : Nat} {cs : List Value} {y : DataW H × List MemPlace} (h : DataW.trod enc prog W 0 (fun _ => true) true fuel 86 cs = some y) : ∃ x, z1g W cs x := by
 obtain ⟨xs, k, _, _, hcl, hxl, hf⟩ := DataW.trod_struct Tryz.underlying86 h;rw [show prog.cellsOf 86 = 6 by kernel_rfl] at hcl;have e0 : prog.cellsOf 9 = 1 := by kernel_rfl
 have e1 : prog.cellsOf 5 = 1 := by kernel_rfl
 have e2 : prog.cellsOf 3 = 1 := by kernel_rfl
 have e3 : prog.cellsOf 84 = 1 := by kernel_rfl
 match xs, hxl, cs, hcl with
 | [y0, y1, y2, y3, y4, y5], _, [v0, v1, v2, v3, v4, v5], _ => have g0 : DataW.trod enc prog W 0 (fun _ => true) true k 9 (List.take (prog.cellsOf 9) [v0, v1, v2, v3, v4, v5]) = some y0 := hf 0 _ rfl;rw [e0] at g0;obtain ⟨z0, q0, _, w0⟩ := DataW.trod_string Tryz.underlying9 g0;simp only [List.take_succ_cons, List.take_zero, List.cons.injEq, and_true] at q0;subst q0;have g1 : DataW.trod enc prog W 0 (fun _ => true) true k 5 (List.take (prog.cellsOf 5) [v1, v2, v3, v4, v5]) = some y1 := hf 1 _ rfl;rw [e1] at g1;obtain ⟨z1, q1, _, w1⟩ := DataW.trod_int Tryz.underlying5 g1;simp only [List.take_succ_cons, List.take_zero, List.cons.injEq, and_true] at q1;subst q1;have g2 : DataW.trod enc prog W 0 (fun _ => true) true k 3 (List.take (prog.cellsOf 3) [v2, v3, v4, v5]) = some y2 := hf 2 _ rfl;rw [e2] at g2;obtain ⟨z2, q2, _, w2⟩ := DataW.trod_int Tryz.underlying3 g2;simp only [List.take_succ_cons, List.take_zero, List.cons.injEq, and_true] at q2;subst q2;have g3 : DataW.trod enc prog W 0 (fun _ => true) true k 3 (List.take (prog.cellsOf 3) [v3, v4, v5]) = some y3 := hf 3 _ rfl;rw [e2] at g3;obtain ⟨z3, q3, _, w3⟩ := DataW.trod_int Tryz.underlying3 g3;simp only [List.take_succ_cons, List.take_zero, List.cons.injEq, and_true] at q3;subst q3;have g4 : DataW.trod enc prog W 0 (fun _ => true) true k 84 (List.take (prog.cellsOf 84) [v4, v5]) = some y4 := hf 4 _ rfl;rw [e3] at g4;simp only [List.take_succ_cons, List.take_zero] at g4;obtain ⟨L4, r4⟩ := z2g (n := 2) (E := z44) Tryz.underlying84 (by kernel_rfl) (by decide) (fun h => zcg h) g4;have g5 : DataW.trod enc prog W 0 (fun _ => true) true k 3 (List.take (prog.cellsOf 3) [v5]) = some y5 := hf 5 _ rfl;rw [e2] at g5;obtain ⟨z5, q5, _, w5⟩ := DataW.trod_int Tryz.underlying3 g5;simp only [List.take_succ_cons, List.take_zero, List.cons.injEq, and_true] at q5;subst q5;obtain ⟨n1, rfl, b1⟩ := zhg w1;exact ⟨⟨z0, n1, z2, z3, L4, z5⟩, v4, rfl, w0, b1, z2c w2, z2c w3, r4, z2c w5⟩
instance : Inhabited MEff := ⟨⟨0, 0, 0, default, default, default⟩⟩
theorem zg1 {fuel : Nat} {cs : List Value} {y : DataW H × List MemPlace} (h : DataW.trod enc prog W 0 (fun _ => true) true fuel 92 cs = some y) : ∃ x, effE W cs x := by
 obtain ⟨xs, k, _, _, hcl, hxl, hf⟩ := DataW.trod_struct Tryz.underlying92 h;rw [show prog.cellsOf 92 = 21 by kernel_rfl] at hcl;have e0 : prog.cellsOf 5 = 1 := by kernel_rfl
 have e1 : prog.cellsOf 3 = 1 := by kernel_rfl
 have e2 : prog.cellsOf 90 = 6 := by kernel_rfl
 match xs, hxl, cs, hcl with
 | [y0, y1, y2, y3, y4, y5], _, [v0, v1, v2, v3, v4, v5, v6, v7, v8, v9, v10, v11, v12, v13, v14, v15, v16, v17, v18, v19, v20], _ => have g0 : DataW.trod enc prog W 0 (fun _ => true) true k 5 (List.take (prog.cellsOf 5) [v0, v1, v2, v3, v4, v5, v6, v7, v8, v9, v10, v11, v12, v13, v14, v15, v16, v17, v18, v19, v20]) = some y0 := hf 0 _ rfl;rw [e0] at g0;obtain ⟨z0, q0, _, w0⟩ := DataW.trod_int Tryz.underlying5 g0;simp only [List.take_succ_cons, List.take_zero, List.cons.injEq, and_true] at q0;subst q0;have g1 : DataW.trod enc prog W 0 (fun _ => true) true k 3 (List.take (prog.cellsOf 3) [v1, v2, v3, v4, v5, v6, v7, v8, v9, v10, v11, v12, v13, v14, v15, v16, v17, v18, v19, v20]) = some y1 := hf 1 _ rfl;rw [e1] at g1;obtain ⟨z1, q1, _, w1⟩ := DataW.trod_int Tryz.underlying3 g1;simp only [List.take_succ_cons, List.take_zero, List.cons.injEq, and_true] at q1;subst q1;have g2 : DataW.trod enc prog W 0 (fun _ => true) true k 3 (List.take (prog.cellsOf 3) [v2, v3, v4, v5, v6, v7, v8, v9, v10, v11, v12, v13, v14, v15, v16, v17, v18, v19, v20]) = some y2 := hf 2 _ rfl;rw [e1] at g2;obtain ⟨z2, q2, _, w2⟩ := DataW.trod_int Tryz.underlying3 g2;simp only [List.take_succ_cons, List.take_zero, List.cons.injEq, and_true] at q2;subst q2;have g3 : DataW.trod enc prog W 0 (fun _ => true) true k 90 (List.take (prog.cellsOf 90) [v3, v4, v5, v6, v7, v8, v9, v10, v11, v12, v13, v14, v15, v16, v17, v18, v19, v20]) = some y3 := hf 3 _ rfl;rw [e2] at g3;obtain ⟨t3, s3, q3, w3, a3⟩ := z6k k g3;simp only [Tm.cells, List.take_succ_cons, List.take_zero, List.cons.injEq, and_true] at q3;obtain ⟨rfl, rfl, rfl, rfl, rfl, rfl⟩ := q3;have g4 : DataW.trod enc prog W 0 (fun _ => true) true k 90 (List.take (prog.cellsOf 90) [v9, v10, v11, v12, v13, v14, v15, v16, v17, v18, v19, v20]) = some y4 := hf 4 _ rfl;rw [e2] at g4;obtain ⟨t4, s4, q4, w4, a4⟩ := z6k k g4;simp only [Tm.cells, List.take_succ_cons, List.take_zero, List.cons.injEq, and_true] at q4;obtain ⟨rfl, rfl, rfl, rfl, rfl, rfl⟩ := q4;have g5 : DataW.trod enc prog W 0 (fun _ => true) true k 90 (List.take (prog.cellsOf 90) [v15, v16, v17, v18, v19, v20]) = some y5 := hf 5 _ rfl;rw [e2] at g5;obtain ⟨t5, s5, q5, w5, a5⟩ := z6k k g5;simp only [Tm.cells, List.take_succ_cons, List.take_zero, List.cons.injEq, and_true] at q5;obtain ⟨rfl, rfl, rfl, rfl, rfl, rfl⟩ := q5;obtain ⟨n0, rfl, b0⟩ := zhg w0;exact ⟨⟨n0, z1, z2, t3, t4, t5⟩, v8, v14, v20, rfl, b0, z2c w1, z2c w2, w3, a3, w4, a4, w5, a5⟩
instance : Inhabited MIns := ⟨⟨⟨#[]⟩, 0, 0, [], [], 0, 0, 0, 0⟩⟩
theorem zg2 {fuel : Nat} {cs : List Value} {y : DataW H × List MemPlace} (h : DataW.trod enc prog W 0 (fun _ => true) true fuel 83 cs = some y) : ∃ x, insE W cs x := by
 obtain ⟨xs, k, _, _, hcl, hxl, hf⟩ := DataW.trod_struct Tryz.underlying83 h;rw [show prog.cellsOf 83 = 9 by kernel_rfl] at hcl;have e0 : prog.cellsOf 9 = 1 := by kernel_rfl
 have e1 : prog.cellsOf 49 = 1 := by kernel_rfl
 have e2 : prog.cellsOf 80 = 1 := by kernel_rfl
 have e3 : prog.cellsOf 81 = 1 := by kernel_rfl
 have e4 : prog.cellsOf 3 = 1 := by kernel_rfl
 match xs, hxl, cs, hcl with
 | [y0, y1, y2, y3, y4, y5, y6, y7, y8], _, [v0, v1, v2, v3, v4, v5, v6, v7, v8], _ => have g0 : DataW.trod enc prog W 0 (fun _ => true) true k 9 (List.take (prog.cellsOf 9) [v0, v1, v2, v3, v4, v5, v6, v7, v8]) = some y0 := hf 0 _ rfl;rw [e0] at g0;obtain ⟨z0, q0, _, w0⟩ := DataW.trod_string Tryz.underlying9 g0;simp only [List.take_succ_cons, List.take_zero, List.cons.injEq, and_true] at q0;subst q0;have g1 : DataW.trod enc prog W 0 (fun _ => true) true k 49 (List.take (prog.cellsOf 49) [v1, v2, v3, v4, v5, v6, v7, v8]) = some y1 := hf 1 _ rfl;rw [e1] at g1;obtain ⟨z1, q1, _, w1⟩ := DataW.trod_int Tryz.underlying49 g1;simp only [List.take_succ_cons, List.take_zero, List.cons.injEq, and_true] at q1;subst q1;have g2 : DataW.trod enc prog W 0 (fun _ => true) true k 49 (List.take (prog.cellsOf 49) [v2, v3, v4, v5, v6, v7, v8]) = some y2 := hf 2 _ rfl;rw [e1] at g2;obtain ⟨z2, q2, _, w2⟩ := DataW.trod_int Tryz.underlying49 g2;simp only [List.take_succ_cons, List.take_zero, List.cons.injEq, and_true] at q2;subst q2;have g3 : DataW.trod enc prog W 0 (fun _ => true) true k 80 (List.take (prog.cellsOf 80) [v3, v4, v5, v6, v7, v8]) = some y3 := hf 3 _ rfl;rw [e2] at g3;simp only [List.take_succ_cons, List.take_zero] at g3;obtain ⟨L3, r3⟩ := z2g (n := 6) (E := z1g) Tryz.underlying80 (by kernel_rfl) (by decide) (fun h => zeg h) g3;have g4 : DataW.trod enc prog W 0 (fun _ => true) true k 81 (List.take (prog.cellsOf 81) [v4, v5, v6, v7, v8]) = some y4 := hf 4 _ rfl;rw [e3] at g4;simp only [List.take_succ_cons, List.take_zero] at g4;obtain ⟨L4, r4⟩ := z2g (n := 21) (E := effE) Tryz.underlying81 (by kernel_rfl) (by decide) (fun h => zg1 h) g4;have g5 : DataW.trod enc prog W 0 (fun _ => true) true k 3 (List.take (prog.cellsOf 3) [v5, v6, v7, v8]) = some y5 := hf 5 _ rfl;rw [e4] at g5;obtain ⟨z5, q5, _, w5⟩ := DataW.trod_int Tryz.underlying3 g5;simp only [List.take_succ_cons, List.take_zero, List.cons.injEq, and_true] at q5;subst q5;have g6 : DataW.trod enc prog W 0 (fun _ => true) true k 3 (List.take (prog.cellsOf 3) [v6, v7, v8]) = some y6 := hf 6 _ rfl;rw [e4] at g6;obtain ⟨z6, q6, _, w6⟩ := DataW.trod_int Tryz.underlying3 g6;simp only [List.take_succ_cons, List.take_zero, List.cons.injEq, and_true] at q6;subst q6;have g7 : DataW.trod enc prog W 0 (fun _ => true) true k 3 (List.take (prog.cellsOf 3) [v7, v8]) = some y7 := hf 7 _ rfl;rw [e4] at g7;obtain ⟨z7, q7, _, w7⟩ := DataW.trod_int Tryz.underlying3 g7;simp only [List.take_succ_cons, List.take_zero, List.cons.injEq, and_true] at q7;subst q7;have g8 : DataW.trod enc prog W 0 (fun _ => true) true k 3 (List.take (prog.cellsOf 3) [v8]) = some y8 := hf 8 _ rfl;rw [e4] at g8;obtain ⟨z8, q8, _, w8⟩ := DataW.trod_int Tryz.underlying3 g8;simp only [List.take_succ_cons, List.take_zero, List.cons.injEq, and_true] at q8;subst q8;obtain ⟨n1, rfl, b1⟩ := zgn w1;obtain ⟨n2, rfl, b2⟩ := zgn w2;exact ⟨⟨z0, n1, n2, L3, L4, z5, z6, z7, z8⟩, v3, v4, rfl, w0, b1, b2, r3, r4, z2c w5, z2c w6, z2c w7, z2c w8⟩
instance : Inhabited Mach := ⟨⟨⟨#[]⟩, 0, 0, [], [], [], []⟩⟩
theorem zef {fuel : Nat} {cs : List Value} {y : DataW H × List MemPlace} (h : DataW.trod enc prog W 0 (fun _ => true) true fuel 27 cs = some y) : ∃ x, zc6 W cs x := by
 obtain ⟨xs, k, _, _, hcl, hxl, hf⟩ := DataW.trod_struct Tryz.underlying27 h;rw [show prog.cellsOf 27 = 7 by kernel_rfl] at hcl;have e0 : prog.cellsOf 9 = 1 := by kernel_rfl
 have e1 : prog.cellsOf 3 = 1 := by kernel_rfl
 have e2 : prog.cellsOf 22 = 1 := by kernel_rfl
 have e3 : prog.cellsOf 23 = 1 := by kernel_rfl
 have e4 : prog.cellsOf 24 = 1 := by kernel_rfl
 have e5 : prog.cellsOf 25 = 1 := by kernel_rfl
 match xs, hxl, cs, hcl with
 | [y0, y1, y2, y3, y4, y5, y6], _, [v0, v1, v2, v3, v4, v5, v6], _ => have g0 : DataW.trod enc prog W 0 (fun _ => true) true k 9 (List.take (prog.cellsOf 9) [v0, v1, v2, v3, v4, v5, v6]) = some y0 := hf 0 _ rfl;rw [e0] at g0;obtain ⟨z0, q0, _, w0⟩ := DataW.trod_string Tryz.underlying9 g0;simp only [List.take_succ_cons, List.take_zero, List.cons.injEq, and_true] at q0;subst q0;have g1 : DataW.trod enc prog W 0 (fun _ => true) true k 3 (List.take (prog.cellsOf 3) [v1, v2, v3, v4, v5, v6]) = some y1 := hf 1 _ rfl;rw [e1] at g1;obtain ⟨z1, q1, _, w1⟩ := DataW.trod_int Tryz.underlying3 g1;simp only [List.take_succ_cons, List.take_zero, List.cons.injEq, and_true] at q1;subst q1;have g2 : DataW.trod enc prog W 0 (fun _ => true) true k 3 (List.take (prog.cellsOf 3) [v2, v3, v4, v5, v6]) = some y2 := hf 2 _ rfl;rw [e1] at g2;obtain ⟨z2, q2, _, w2⟩ := DataW.trod_int Tryz.underlying3 g2;simp only [List.take_succ_cons, List.take_zero, List.cons.injEq, and_true] at q2;subst q2;have g3 : DataW.trod enc prog W 0 (fun _ => true) true k 22 (List.take (prog.cellsOf 22) [v3, v4, v5, v6]) = some y3 := hf 3 _ rfl;rw [e2] at g3;simp only [List.take_succ_cons, List.take_zero] at g3;obtain ⟨L3, r3⟩ := z2g (n := 4) (E := regE) Tryz.underlying22 (by kernel_rfl) (by decide) (fun h => zg3 h) g3;have g4 : DataW.trod enc prog W 0 (fun _ => true) true k 23 (List.take (prog.cellsOf 23) [v4, v5, v6]) = some y4 := hf 4 _ rfl;rw [e3] at g4;simp only [List.take_succ_cons, List.take_zero] at g4;obtain ⟨L4, r4⟩ := z2g (n := 2) (E := z1m) Tryz.underlying23 (by kernel_rfl) (by decide) (fun h => zee h) g4;have g5 : DataW.trod enc prog W 0 (fun _ => true) true k 24 (List.take (prog.cellsOf 24) [v5, v6]) = some y5 := hf 5 _ rfl;rw [e4] at g5;simp only [List.take_succ_cons, List.take_zero] at g5;obtain ⟨L5, r5⟩ := z2g (n := 2) (E := z3u) Tryz.underlying24 (by kernel_rfl) (by decide) (fun h => zei h) g5;have g6 : DataW.trod enc prog W 0 (fun _ => true) true k 25 (List.take (prog.cellsOf 25) [v6]) = some y6 := hf 6 _ rfl;rw [e5] at g6;simp only [List.take_succ_cons, List.take_zero] at g6;obtain ⟨L6, r6⟩ := z2g (n := 9) (E := insE) Tryz.underlying25 (by kernel_rfl) (by decide) (fun h => zg2 h) g6;exact ⟨⟨z0, z1, z2, L3, L4, L5, L6⟩, v3, v4, v5, v6, rfl, w0, z2c w1, z2c w2, r3, r4, r5, r6⟩
def zz (w : World) (v : Value) (m : Mach) : Prop := ∃ cs, v = .agg cs /\ zc6 w cs.toList m
theorem zz.kept {w w' : World} {v : Value} {m : Mach} (h : zz w v m) (hb : Below w.heap.size w w') : zz w' v m := by obtain ⟨cs, h1, h2⟩ := h;exact ⟨cs, h1, zc6.kept h2 hb⟩
theorem z7n {base : Nat} {v0 : Value} {d0 : DataW H} {p0 : List MemPlace} (ok : Value.okWide prog W .any base 27 v0)
 (h : DataW.Trod enc prog W 0 (fun _ => true) true 27 v0 d0 p0) : ∃ m, zz W v0 m := by
 obtain ⟨xs, rfl, hsz⟩ := okWide_struct Tryz.underlying27 ok;obtain ⟨fuel, h⟩ := h;have hc : (Value.agg xs).cells.toList = xs.toList := rfl;rw [hc] at h;obtain ⟨m, hm⟩ := zef h;exact ⟨m, xs, rfl, hm⟩
end
end Go.Proofs.YtdmadnfadgggcaaGreatDoor
namespace Go.Proofs.YtdmadnfadgggcaaGreatDoor
open Go.RowKit Go.Instr
set_option maxRecDepth 100000
def ixF {α : Type} (p : α -> Bool) (L : List α) : Int := match L.findIdx? p with | some i => (i : Int) | none => -1
theorem z32 {α : Type} {p : α -> Bool} {L : List α} {i : Nat} {x : α} (hx : L[i]? = some x) (hp : p x = true) (h : ∀ j y, j < i -> L[j]? = some y -> p y = false) : ixF p L = (i : Int) := by
 have hi : i < L.length := by
  rcases Nat.lt_or_ge i L.length with h | h
  ·exact h
  ·rw [List.getElem?_eq_none h] at hx; cases hx
 have e : L.findIdx? p = some i := by
  rw [List.findIdx?_eq_some_iff_getElem];refine ⟨hi, ?_, fun j hj => ?_⟩
  ·rw [List.getElem?_eq_getElem hi] at hx;rw [Option.some.inj hx];exact hp
  ·have := h j _ hj (List.getElem?_eq_getElem (by omega));simp [this]
 unfold ixF;rw [e]
theorem z2d {α : Type} {p : α -> Bool} {L : List α} (h : ∀ j y, j < L.length -> L[j]? = some y -> p y = false) : ixF p L = -1 := by
 have e : L.findIdx? p = none := by rw [List.findIdx?_eq_none_iff];intro y hy;obtain ⟨j, hj, rfl⟩ := List.getElem_of_mem hy;exact h j _ hj (List.getElem?_eq_getElem hj)
 unfold ixF;rw [e]
theorem z5k {α : Type} (p : α -> Bool) (L : List α) : decide (0 <= ixF p L) = L.any p := by
 unfold ixF
 cases h : L.findIdx? p with
 | none =>
   rw [List.findIdx?_eq_none_iff] at h;have : L.any p = false := by rw [List.any_eq_false];intro x hx;simp [h x hx]
   rw [this]
   decide
 | some i => obtain ⟨hi, hp, _⟩ := List.findIdx?_eq_some_iff_getElem.1 h;have : L.any p = true := List.any_eq_true.2 ⟨_, List.getElem_mem hi, hp⟩;rw [this];simp
def Says {α : Type} (E : World -> List Value -> α -> Prop) (w : World) (g : Nat) (lb : Array Value) (p : α -> Bool) (L : List α) : Prop :=
 ∀ (W : World), Below w.heap.size w W -> ∀ x, x ∈ L -> ∀ cs, E W cs x -> Calls prog g (#[.agg cs.toArray] ++ lb) W fun e w' => e = .returned (.bool (p x)) /\ Below W.heap.size W w'
theorem zfn (v : Value) (L : List MBank) (w : World) (hR : zf 2 z1m w v L) (g : Nat) (lb : Array Value) (eg : ∀ args w, (callFunc g args).run prog w = .ok (.enter g args) w) (p : MBank -> Bool) (hp : Says z1m w g lb p L) :
 Calls prog 156 #[v, .func (.func g) #[] lb] w fun e w' => e = .returned (.int .i64 (ixF p L)) /\ Below w.heap.size w w' := by
 have HR := hid hR;have HP := hid hp;obtain ⟨A, c, rfl, hn1, _, _, _⟩ := hR;obtain ⟨n, hn⟩ : ∃ n, L.length = n := ⟨_, rfl⟩;have HN := hid hn;have hmx : maxLen <= 9223372036854775807 := by decide
 rw [hn] at hn1 ⊢;have hn2 : n <= 9223372036854775807 := Nat.le_trans hn1 hmx;clear hp hn1 hmx hn;go_enter Tryz.func156, Tryz.ntmps156
 go_wp2
 go_loopw [5, 8] (fun _ v wr => ∃ i : Nat, v = .int .i64 i /\ i <= n /\ Hid (Below w.heap.size w wr /\ ∀ j y, j < i -> L[j]? = some y -> p y = false)) (fun _ v _ => n - (intOf v).toNat)
 case atStart => exact ⟨0, rfl, Nat.zero_le _, hid ⟨Below.refl _ _, fun j y hj => absurd hj (Nat.not_lt_zero _)⟩⟩
 case round =>
  obtain ⟨i, rfl, hi, HI⟩ := hrel;by_cases hlt : i < n
  ·obtain ⟨x, hx⟩ : ∃ x, L[i]? = some x := ⟨_, List.getElem?_eq_getElem (by rw [HN.out]; exact hlt)⟩;obtain ⟨A', c', e1, _, _, _, hall⟩ := HR.out.kept (fun cs x hx => z1m.kept hx HI.out.1) HI.out.1;obtain ⟨b, o, cs, e2, hb, hcl, hcell, hE⟩ := hall i x hx;obtain ⟨rfl, rfl⟩ : A = A' /\ c = c' := by cases e1; exact ⟨rfl, rfl⟩
   subst e2;have hcall := HP.out wr HI.out.1 x (List.mem_of_getElem? hx) cs hE;have HX := hid hx;have HLT := hid hlt;clear hE hx e1
   match cs, hcl with
   | [u0, u1], _ =>
   have c0 : wr.cell? ⟨b, o + i * 2, none⟩ = some u0 := hcell 0 _ rfl;have c1 : wr.cell? ⟨b, o + i * 2 + 1, none⟩ = some u1 := hcell 1 _ rfl;have hcall : Calls prog g (#[.agg #[u0, u1]] ++ lb) wr fun e w' => e = .returned (.bool (p x)) /\ Below w.heap.size w w' := hcall.mono fun e w' ⟨h1, h2⟩ => ⟨h1, HI.out.1.trans (h2.mono HI.out.1.size)⟩;clear hall hcell
   cases hq : p x with
   | true =>
     have HQ := hid hq;rw [hq] at hcall;have HCL := hid hcall;clear hq hcall;go_wp2_with ((with_reducible refine HCL.out.mono ?_); rintro e w' ⟨rfl, hb'⟩)
     go_ret
     exact ⟨by rw [z32 HX.out HQ.out HI.out.2]; rfl, hb'⟩
   | false =>
     have HQ := hid hq;rw [hq] at hcall;have HCL := hid hcall;clear hq hcall;go_wp2_with ((with_reducible refine HCL.out.mono ?_); rintro e w' ⟨rfl, hb'⟩)
     go_roundw
     case rel =>
      refine ⟨i + 1, by first | rfl | go_num | (congr 1), by have := HLT.out; omega, hid ⟨hb', fun j y hj hy => ?_⟩⟩;by_cases e : j = i
      ·subst e;rw [HX.out] at hy;obtain rfl := Option.some.inj hy;exact HQ.out
      ·exact HI.out.2 j y (by omega) hy
     case measure => simp only [intOf]; have := HLT.out; omega
  ·obtain rfl : i = n := by omega
   go_wp2
   go_ret
   exact ⟨by rw [z2d (by rw [HN.out]; exact HI.out.2)]; rfl, HI.out.1⟩
theorem zd8 (v : Value) (L : List MBank) (w : World) (hR : zf 2 z1m w v L) (g : Nat) (lb : Array Value) (eg : ∀ args w, (callFunc g args).run prog w = .ok (.enter g args) w) (p : MBank -> Bool) (hp : Says z1m w g lb p L) :
 Calls prog 129 #[v, .func (.func g) #[] lb] w fun e w' => e = .returned (.bool (L.any p)) /\ Below w.heap.size w w' := by
 have HC := hid (zfn v L w hR g lb eg p hp);rw [<- z5k p L];clear hR hp eg;go_enter Tryz.func129, Tryz.ntmps129
 go_wp2_with (go_at_call 156; (with_reducible refine HC.out.mono ?_); rintro e w1 ⟨rfl, hb⟩)
 go_ret
 exact ⟨rfl, hb⟩
theorem zfo (v : Value) (L : List MOper) (w : World) (hR : zf 6 z1g w v L) (g : Nat) (lb : Array Value) (eg : ∀ args w, (callFunc g args).run prog w = .ok (.enter g args) w) (p : MOper -> Bool) (hp : Says z1g w g lb p L) :
 Calls prog 157 #[v, .func (.func g) #[] lb] w fun e w' => e = .returned (.int .i64 (ixF p L)) /\ Below w.heap.size w w' := by
 have HR := hid hR;have HP := hid hp;obtain ⟨A, c, rfl, hn1, _, _, _⟩ := hR;obtain ⟨n, hn⟩ : ∃ n, L.length = n := ⟨_, rfl⟩;have HN := hid hn;have hmx : maxLen <= 9223372036854775807 := by decide
 rw [hn] at hn1 ⊢;have hn2 : n <= 9223372036854775807 := Nat.le_trans hn1 hmx;clear hp hn1 hmx hn;go_enter Tryz.func157, Tryz.ntmps157
 go_wp2
 go_loopw [5, 8] (fun _ v wr => ∃ i : Nat, v = .int .i64 i /\ i <= n /\ Hid (Below w.heap.size w wr /\ ∀ j y, j < i -> L[j]? = some y -> p y = false)) (fun _ v _ => n - (intOf v).toNat)
 case atStart => exact ⟨0, rfl, Nat.zero_le _, hid ⟨Below.refl _ _, fun j y hj => absurd hj (Nat.not_lt_zero _)⟩⟩
 case round =>
  obtain ⟨i, rfl, hi, HI⟩ := hrel;by_cases hlt : i < n
  ·obtain ⟨x, hx⟩ : ∃ x, L[i]? = some x := ⟨_, List.getElem?_eq_getElem (by rw [HN.out]; exact hlt)⟩;obtain ⟨A', c', e1, _, _, _, hall⟩ := HR.out.kept (fun cs x hx => z1g.kept hx HI.out.1) HI.out.1;obtain ⟨b, o, cs, e2, hb, hcl, hcell, hE⟩ := hall i x hx;obtain ⟨rfl, rfl⟩ : A = A' /\ c = c' := by cases e1; exact ⟨rfl, rfl⟩
   subst e2;have hcall := HP.out wr HI.out.1 x (List.mem_of_getElem? hx) cs hE;have HX := hid hx;have HLT := hid hlt;clear hE hx e1
   match cs, hcl with
   | [u0, u1, u2, u3, u4, u5], _ =>
   have c0 : wr.cell? ⟨b, o + i * 6, none⟩ = some u0 := hcell 0 _ rfl;have c1 : wr.cell? ⟨b, o + i * 6 + 1, none⟩ = some u1 := hcell 1 _ rfl;have c2 : wr.cell? ⟨b, o + i * 6 + 2, none⟩ = some u2 := hcell 2 _ rfl;have c3 : wr.cell? ⟨b, o + i * 6 + 3, none⟩ = some u3 := hcell 3 _ rfl;have c4 : wr.cell? ⟨b, o + i * 6 + 4, none⟩ = some u4 := hcell 4 _ rfl;have c5 : wr.cell? ⟨b, o + i * 6 + 5, none⟩ = some u5 := hcell 5 _ rfl;have hcall : Calls prog g (#[.agg #[u0, u1, u2, u3, u4, u5]] ++ lb) wr fun e w' => e = .returned (.bool (p x)) /\ Below w.heap.size w w' := hcall.mono fun e w' ⟨h1, h2⟩ => ⟨h1, HI.out.1.trans (h2.mono HI.out.1.size)⟩;clear hall hcell
   cases hq : p x with
   | true =>
     have HQ := hid hq;rw [hq] at hcall;have HCL := hid hcall;clear hq hcall;go_wp2_with ((with_reducible refine HCL.out.mono ?_); rintro e w' ⟨rfl, hb'⟩)
     go_ret
     exact ⟨by rw [z32 HX.out HQ.out HI.out.2]; rfl, hb'⟩
   | false =>
     have HQ := hid hq;rw [hq] at hcall;have HCL := hid hcall;clear hq hcall;go_wp2_with ((with_reducible refine HCL.out.mono ?_); rintro e w' ⟨rfl, hb'⟩)
     go_roundw
     case rel =>
      refine ⟨i + 1, by first | rfl | go_num | (congr 1), by have := HLT.out; omega, hid ⟨hb', fun j y hj hy => ?_⟩⟩;by_cases e : j = i
      ·subst e;rw [HX.out] at hy;obtain rfl := Option.some.inj hy;exact HQ.out
      ·exact HI.out.2 j y (by omega) hy
     case measure => simp only [intOf]; have := HLT.out; omega
  ·obtain rfl : i = n := by omega
   go_wp2
   go_ret
   exact ⟨by rw [z2d (by rw [HN.out]; exact HI.out.2)]; rfl, HI.out.1⟩
theorem zd9 (v : Value) (L : List MOper) (w : World) (hR : zf 6 z1g w v L) (g : Nat) (lb : Array Value) (eg : ∀ args w, (callFunc g args).run prog w = .ok (.enter g args) w) (p : MOper -> Bool) (hp : Says z1g w g lb p L) :
 Calls prog 133 #[v, .func (.func g) #[] lb] w fun e w' => e = .returned (.bool (L.any p)) /\ Below w.heap.size w w' := by
 have HC := hid (zfo v L w hR g lb eg p hp);rw [<- z5k p L];clear hR hp eg;go_enter Tryz.func133, Tryz.ntmps133
 go_wp2_with (go_at_call 157; (with_reducible refine HC.out.mono ?_); rintro e w1 ⟨rfl, hb⟩)
 go_ret
 exact ⟨rfl, hb⟩
theorem zdv (v : Value) (L : List MIns) (w : World) (hR : zf 9 insE w v L) (g : Nat) (lb : Array Value) (eg : ∀ args w, (callFunc g args).run prog w = .ok (.enter g args) w) (p : MIns -> Bool) (hp : Says insE w g lb p L) :
 Calls prog 81 #[v, .func (.func g) #[] lb] w fun e w' => e = .returned (.int .i64 (ixF p L)) /\ Below w.heap.size w w' := by
 have HR := hid hR;have HP := hid hp;obtain ⟨A, c, rfl, hn1, _, _, _⟩ := hR;obtain ⟨n, hn⟩ : ∃ n, L.length = n := ⟨_, rfl⟩;have HN := hid hn;have hmx : maxLen <= 9223372036854775807 := by decide
 rw [hn] at hn1 ⊢;have hn2 : n <= 9223372036854775807 := Nat.le_trans hn1 hmx;clear hp hn1 hmx hn;go_enter Tryz.func81, Tryz.ntmps81
 go_wp2
 go_loopw [5, 8] (fun _ v wr => ∃ i : Nat, v = .int .i64 i /\ i <= n /\ Hid (Below w.heap.size w wr /\ ∀ j y, j < i -> L[j]? = some y -> p y = false)) (fun _ v _ => n - (intOf v).toNat)
 case atStart => exact ⟨0, rfl, Nat.zero_le _, hid ⟨Below.refl _ _, fun j y hj => absurd hj (Nat.not_lt_zero _)⟩⟩
 case round =>
  obtain ⟨i, rfl, hi, HI⟩ := hrel;by_cases hlt : i < n
  ·obtain ⟨x, hx⟩ : ∃ x, L[i]? = some x := ⟨_, List.getElem?_eq_getElem (by rw [HN.out]; exact hlt)⟩;obtain ⟨A', c', e1, _, _, _, hall⟩ := HR.out.kept (fun cs x hx => insE.kept hx HI.out.1) HI.out.1;obtain ⟨b, o, cs, e2, hb, hcl, hcell, hE⟩ := hall i x hx;obtain ⟨rfl, rfl⟩ : A = A' /\ c = c' := by cases e1; exact ⟨rfl, rfl⟩
   subst e2;have hcall := HP.out wr HI.out.1 x (List.mem_of_getElem? hx) cs hE;have HX := hid hx;have HLT := hid hlt;clear hE hx e1
   match cs, hcl with
   | [u0, u1, u2, u3, u4, u5, u6, u7, u8], _ =>
   have c0 : wr.cell? ⟨b, o + i * 9, none⟩ = some u0 := hcell 0 _ rfl;have c1 : wr.cell? ⟨b, o + i * 9 + 1, none⟩ = some u1 := hcell 1 _ rfl;have c2 : wr.cell? ⟨b, o + i * 9 + 2, none⟩ = some u2 := hcell 2 _ rfl;have c3 : wr.cell? ⟨b, o + i * 9 + 3, none⟩ = some u3 := hcell 3 _ rfl;have c4 : wr.cell? ⟨b, o + i * 9 + 4, none⟩ = some u4 := hcell 4 _ rfl;have c5 : wr.cell? ⟨b, o + i * 9 + 5, none⟩ = some u5 := hcell 5 _ rfl;have c6 : wr.cell? ⟨b, o + i * 9 + 6, none⟩ = some u6 := hcell 6 _ rfl;have c7 : wr.cell? ⟨b, o + i * 9 + 7, none⟩ = some u7 := hcell 7 _ rfl;have c8 : wr.cell? ⟨b, o + i * 9 + 8, none⟩ = some u8 := hcell 8 _ rfl;have hcall : Calls prog g (#[.agg #[u0, u1, u2, u3, u4, u5, u6, u7, u8]] ++ lb) wr fun e w' => e = .returned (.bool (p x)) /\ Below w.heap.size w w' := hcall.mono fun e w' ⟨h1, h2⟩ => ⟨h1, HI.out.1.trans (h2.mono HI.out.1.size)⟩;clear hall hcell
   cases hq : p x with
   | true =>
     have HQ := hid hq;rw [hq] at hcall;have HCL := hid hcall;clear hq hcall;go_wp2_with ((with_reducible refine HCL.out.mono ?_); rintro e w' ⟨rfl, hb'⟩)
     go_ret
     exact ⟨by rw [z32 HX.out HQ.out HI.out.2]; rfl, hb'⟩
   | false =>
     have HQ := hid hq;rw [hq] at hcall;have HCL := hid hcall;clear hq hcall;go_wp2_with ((with_reducible refine HCL.out.mono ?_); rintro e w' ⟨rfl, hb'⟩)
     go_roundw
     case rel =>
      refine ⟨i + 1, by first | rfl | go_num | (congr 1), by have := HLT.out; omega, hid ⟨hb', fun j y hj hy => ?_⟩⟩;by_cases e : j = i
      ·subst e;rw [HX.out] at hy;obtain rfl := Option.some.inj hy;exact HQ.out
      ·exact HI.out.2 j y (by omega) hy
     case measure => simp only [intOf]; have := HLT.out; omega
  ·obtain rfl : i = n := by omega
   go_wp2
   go_ret
   exact ⟨by rw [z2d (by rw [HN.out]; exact HI.out.2)]; rfl, HI.out.1⟩
theorem zf5 (v : Value) (L : List MIns) (w : World) (hR : zf 9 insE w v L) (g : Nat) (lb : Array Value) (eg : ∀ args w, (callFunc g args).run prog w = .ok (.enter g args) w) (p : MIns -> Bool) (hp : Says insE w g lb p L) :
 Calls prog 131 #[v, .func (.func g) #[] lb] w fun e w' => e = .returned (.bool (L.any p)) /\ Below w.heap.size w w' := by
 have HC := hid (zdv v L w hR g lb eg p hp);rw [<- z5k p L];clear hR hp eg;go_enter Tryz.func131, Tryz.ntmps131
 go_wp2_with (go_at_call 81; (with_reducible refine HC.out.mono ?_); rintro e w1 ⟨rfl, hb⟩)
 go_ret
 exact ⟨rfl, hb⟩
theorem zgw (v : Value) (L : List MReg) (w : World) (hR : zf 4 regE w v L) (g : Nat) (lb : Array Value) (eg : ∀ args w, (callFunc g args).run prog w = .ok (.enter g args) w) (p : MReg -> Bool) (hp : Says regE w g lb p L) :
 Calls prog 74 #[v, .func (.func g) #[] lb] w fun e w' => e = .returned (.int .i64 (ixF p L)) /\ Below w.heap.size w w' := by
 have HR := hid hR;have HP := hid hp;obtain ⟨A, c, rfl, hn1, _, _, _⟩ := hR;obtain ⟨n, hn⟩ : ∃ n, L.length = n := ⟨_, rfl⟩;have HN := hid hn;have hmx : maxLen <= 9223372036854775807 := by decide
 rw [hn] at hn1 ⊢;have hn2 : n <= 9223372036854775807 := Nat.le_trans hn1 hmx;clear hp hn1 hmx hn;go_enter Tryz.func74, Tryz.ntmps74
 go_wp2
 go_loopw [5, 8] (fun _ v wr => ∃ i : Nat, v = .int .i64 i /\ i <= n /\ Hid (Below w.heap.size w wr /\ ∀ j y, j < i -> L[j]? = some y -> p y = false)) (fun _ v _ => n - (intOf v).toNat)
 case atStart => exact ⟨0, rfl, Nat.zero_le _, hid ⟨Below.refl _ _, fun j y hj => absurd hj (Nat.not_lt_zero _)⟩⟩
 case round =>
  obtain ⟨i, rfl, hi, HI⟩ := hrel;by_cases hlt : i < n
  ·obtain ⟨x, hx⟩ : ∃ x, L[i]? = some x := ⟨_, List.getElem?_eq_getElem (by rw [HN.out]; exact hlt)⟩;obtain ⟨A', c', e1, _, _, _, hall⟩ := HR.out.kept (fun cs x hx => regE.kept hx HI.out.1) HI.out.1;obtain ⟨b, o, cs, e2, hb, hcl, hcell, hE⟩ := hall i x hx;obtain ⟨rfl, rfl⟩ : A = A' /\ c = c' := by cases e1; exact ⟨rfl, rfl⟩
   subst e2;have hcall := HP.out wr HI.out.1 x (List.mem_of_getElem? hx) cs hE;have HX := hid hx;have HLT := hid hlt;clear hE hx e1
   match cs, hcl with
   | [u0, u1, u2, u3], _ =>
   have c0 : wr.cell? ⟨b, o + i * 4, none⟩ = some u0 := hcell 0 _ rfl;have c1 : wr.cell? ⟨b, o + i * 4 + 1, none⟩ = some u1 := hcell 1 _ rfl;have c2 : wr.cell? ⟨b, o + i * 4 + 2, none⟩ = some u2 := hcell 2 _ rfl;have c3 : wr.cell? ⟨b, o + i * 4 + 3, none⟩ = some u3 := hcell 3 _ rfl;have hcall : Calls prog g (#[.agg #[u0, u1, u2, u3]] ++ lb) wr fun e w' => e = .returned (.bool (p x)) /\ Below w.heap.size w w' := hcall.mono fun e w' ⟨h1, h2⟩ => ⟨h1, HI.out.1.trans (h2.mono HI.out.1.size)⟩;clear hall hcell
   cases hq : p x with
   | true =>
     have HQ := hid hq;rw [hq] at hcall;have HCL := hid hcall;clear hq hcall;go_wp2_with ((with_reducible refine HCL.out.mono ?_); rintro e w' ⟨rfl, hb'⟩)
     go_ret
     exact ⟨by rw [z32 HX.out HQ.out HI.out.2]; rfl, hb'⟩
   | false =>
     have HQ := hid hq;rw [hq] at hcall;have HCL := hid hcall;clear hq hcall;go_wp2_with ((with_reducible refine HCL.out.mono ?_); rintro e w' ⟨rfl, hb'⟩)
     go_roundw
     case rel =>
      refine ⟨i + 1, by first | rfl | go_num | (congr 1), by have := HLT.out; omega, hid ⟨hb', fun j y hj hy => ?_⟩⟩;by_cases e : j = i
      ·subst e;rw [HX.out] at hy;obtain rfl := Option.some.inj hy;exact HQ.out
      ·exact HI.out.2 j y (by omega) hy
     case measure => simp only [intOf]; have := HLT.out; omega
  ·obtain rfl : i = n := by omega
   go_wp2
   go_ret
   exact ⟨by rw [z2d (by rw [HN.out]; exact HI.out.2)]; rfl, HI.out.1⟩
theorem za0 {α : Type} (p : α -> Bool) (L : List α) : (!(L.any fun x => !p x)) = L.all p := by
 induction L with
 | nil => rfl
 | cons x l ih => simp only [List.any_cons, List.all_cons, Bool.not_or, Bool.not_not, ih]
theorem zcz {w : World} {cs : List Value} {x : MBank} (h : z1m w cs x) : cs.length = 2 := by obtain ⟨_, rfl, _⟩ := h; rfl
theorem zej {w : World} {cs : List Value} {x : MOper} (h : z1g w cs x) : cs.length = 6 := by obtain ⟨_, rfl, _⟩ := h; rfl
theorem zfq {w : World} {cs : List Value} {x : MIns} (h : insE w cs x) : cs.length = 9 := by obtain ⟨_, _, rfl, _⟩ := h; rfl
theorem zdk (F : Nat) (lb : Array Value) (eF : ∀ args w, (callFunc F args).run prog w = .ok (.enter F args) w) (bx : Nat) (u0 u1 : Value) (q : Bool) (W : World) (hlt : bx < W.heap.size) (hbx : W.cell? ⟨bx, 0, none⟩ = some (.func (.func F) #[] lb))
 (hc : ∀ X, Below W.heap.size W X -> Calls prog F (#[.agg #[u0, u1]] ++ lb) X fun e w' => e = .returned (.bool q) /\ Below X.heap.size X w') :
 Calls prog 130 (#[.agg #[u0, u1]] ++ #[.pointer (some ⟨bx, 0, none⟩)]) W fun e w' => e = .returned (.bool (!q)) /\ Below W.heap.size W w' := by
 have hb := (Below.refl W.heap.size W).alloc (Nat.le_refl _) (.cells #[u0, u1] 79);have HB := hid hb;have HC := hid (hc _ hb);have hb1 := (hb.cell (p := ⟨bx, 0, none⟩) hlt).trans hbx;clear hc hb hbx;show Calls prog 130 #[.agg #[u0, u1], .pointer (some ⟨bx, 0, none⟩)] W _;go_enter Tryz.func130, Tryz.ntmps130
 go_wp2_with ((with_reducible refine HC.out.mono ?_); rintro e w' ⟨rfl, hr⟩)
 go_ret
 exact ⟨rfl, HB.out.trans (hr.mono HB.out.size)⟩
theorem zfd (v : Value) (L : List MBank) (w : World) (hR : zf 2 z1m w v L) (most : Nat) (z : Int) (hz : z = (most : Int)) (hm : most <= 1000) (F : Nat) (lb : Array Value) (eF : ∀ args w, (callFunc F args).run prog w = .ok (.enter F args) w) (p : MBank -> Bool) (hp : Says z1m w F lb p L) :
 Calls prog 103 #[v, .int .i64 z, .func (.func F) #[] lb] w fun e w' => e = .returned (.bool (decide (L.length <= most) && L.all p)) /\ Below w.heap.size w w' := by
 subst hz;have HR := hid hR;have HP := hid hp;have hen : ∀ args w, (callFunc 130 args).run prog w = .ok (.enter 130 args) w := fun _ _ => by kernel_rfl
 obtain ⟨A, c, rfl, hn1, _, _, _⟩ := hR;obtain ⟨n, hn⟩ : ∃ n, L.length = n := ⟨_, rfl⟩;have HN := hid hn;rw [hn] at hn1 ⊢;have HEF := hid eF;clear hp hn eF;go_enter Tryz.func103, Tryz.ntmps103
 have hrow := HR.out;rw [HN.out] at hrow;by_cases hle : n <= most
 ·have g1 : (n : Int) <= (most : Int) := by omega
  have d1 : decide (n <= most) = true := by simp [hle]
  rw [d1, Bool.true_and];have HB1 := hid ((Below.refl w.heap.size w).alloc (Nat.le_refl _) (.cells #[.func (.func F) #[] lb] 162));obtain ⟨W1, hW1⟩ : ∃ W1, W1 = w.alloc (.cells #[.func (.func F) #[] lb] 162) := ⟨_, rfl⟩;have hbox : W1.cell? ⟨w.heap.size, 0, none⟩ = some (.func (.func F) #[] lb) := by rw [hW1];simp only [World.cell?];rw [heap_alloc_new];rfl
  have HS : Says z1m W1 130 #[.pointer (some ⟨w.heap.size, 0, none⟩)] (fun x => !p x) L := by
   intro W hb x hx cs hE;have hb1 := HB1.out;rw [<- hW1] at hb1;have hlt : w.heap.size < W1.heap.size := by rw [hW1]; simp
   have hlen : cs.length = 2 := zcz hE
   match cs, hlen with
   | [u0, u1], _ =>
   exact zdk F lb HEF.out w.heap.size u0 u1 (p x) W (Nat.lt_of_lt_of_le hlt hb.size) ((hb.cell (p := ⟨w.heap.size, 0, none⟩) hlt).trans hbox) fun X hX => HP.out X ((hb1.trans (hb.mono hb1.size)).trans (hX.mono (hb1.trans (hb.mono hb1.size)).size)) x hx _ (z1m.kept hE hX)
  have HC1 := hid (zd8 (.slice A n c) L W1 (hrow.kept (fun cs x hx => z1m.kept hx (by have := HB1.out; rw [<- hW1] at this; exact this)) (by have := HB1.out; rw [<- hW1] at this; exact this)) 130 #[.pointer (some ⟨w.heap.size, 0, none⟩)] hen (fun x => !p x) HS);rw [<- za0 p L];rw [hW1] at HC1;clear HS hbox hW1 hle d1 hrow;go_wp2_with ((with_reducible refine HC1.out.mono ?_); rintro e w' ⟨rfl, hr⟩)
  go_ret
  exact ⟨rfl, HB1.out.trans (hr.mono HB1.out.size)⟩
 ·have g1 : ¬ (n : Int) <= (most : Int) := by omega
  have d1 : decide (n <= most) = false := by simp [hle]
  rw [d1, Bool.false_and];have HB1 := hid ((Below.refl w.heap.size w).alloc (Nat.le_refl _) (.cells #[.func (.func F) #[] lb] 162));clear hle d1 hrow;go_wp2
  go_ret
  exact ⟨rfl, HB1.out⟩
theorem zdl (F : Nat) (lb : Array Value) (eF : ∀ args w, (callFunc F args).run prog w = .ok (.enter F args) w) (bx : Nat) (u0 u1 u2 u3 u4 u5 : Value) (q : Bool) (W : World) (hlt : bx < W.heap.size) (hbx : W.cell? ⟨bx, 0, none⟩ = some (.func (.func F) #[] lb))
 (hc : ∀ X, Below W.heap.size W X -> Calls prog F (#[.agg #[u0, u1, u2, u3, u4, u5]] ++ lb) X fun e w' => e = .returned (.bool q) /\ Below X.heap.size X w') :
 Calls prog 134 (#[.agg #[u0, u1, u2, u3, u4, u5]] ++ #[.pointer (some ⟨bx, 0, none⟩)]) W fun e w' => e = .returned (.bool (!q)) /\ Below W.heap.size W w' := by
 have hb := (Below.refl W.heap.size W).alloc (Nat.le_refl _) (.cells #[u0, u1, u2, u3, u4, u5] 86);have HB := hid hb;have HC := hid (hc _ hb);have hb1 := (hb.cell (p := ⟨bx, 0, none⟩) hlt).trans hbx;clear hc hb hbx;show Calls prog 134 #[.agg #[u0, u1, u2, u3, u4, u5], .pointer (some ⟨bx, 0, none⟩)] W _;go_enter Tryz.func134, Tryz.ntmps134
 go_wp2_with ((with_reducible refine HC.out.mono ?_); rintro e w' ⟨rfl, hr⟩)
 go_ret
 exact ⟨rfl, HB.out.trans (hr.mono HB.out.size)⟩
theorem zfe (v : Value) (L : List MOper) (w : World) (hR : zf 6 z1g w v L) (most : Nat) (z : Int) (hz : z = (most : Int)) (hm : most <= 1000) (F : Nat) (lb : Array Value) (eF : ∀ args w, (callFunc F args).run prog w = .ok (.enter F args) w) (p : MOper -> Bool) (hp : Says z1g w F lb p L) :
 Calls prog 107 #[v, .int .i64 z, .func (.func F) #[] lb] w fun e w' => e = .returned (.bool (decide (L.length <= most) && L.all p)) /\ Below w.heap.size w w' := by
 subst hz;have HR := hid hR;have HP := hid hp;have hen : ∀ args w, (callFunc 134 args).run prog w = .ok (.enter 134 args) w := fun _ _ => by kernel_rfl
 obtain ⟨A, c, rfl, hn1, _, _, _⟩ := hR;obtain ⟨n, hn⟩ : ∃ n, L.length = n := ⟨_, rfl⟩;have HN := hid hn;rw [hn] at hn1 ⊢;have HEF := hid eF;clear hp hn eF;go_enter Tryz.func107, Tryz.ntmps107
 have hrow := HR.out;rw [HN.out] at hrow;by_cases hle : n <= most
 ·have g1 : (n : Int) <= (most : Int) := by omega
  have d1 : decide (n <= most) = true := by simp [hle]
  rw [d1, Bool.true_and];have HB1 := hid ((Below.refl w.heap.size w).alloc (Nat.le_refl _) (.cells #[.func (.func F) #[] lb] 165));obtain ⟨W1, hW1⟩ : ∃ W1, W1 = w.alloc (.cells #[.func (.func F) #[] lb] 165) := ⟨_, rfl⟩;have hbox : W1.cell? ⟨w.heap.size, 0, none⟩ = some (.func (.func F) #[] lb) := by rw [hW1];simp only [World.cell?];rw [heap_alloc_new];rfl
  have HS : Says z1g W1 134 #[.pointer (some ⟨w.heap.size, 0, none⟩)] (fun x => !p x) L := by
   intro W hb x hx cs hE;have hb1 := HB1.out;rw [<- hW1] at hb1;have hlt : w.heap.size < W1.heap.size := by rw [hW1]; simp
   have hlen : cs.length = 6 := zej hE
   match cs, hlen with
   | [u0, u1, u2, u3, u4, u5], _ =>
   exact zdl F lb HEF.out w.heap.size u0 u1 u2 u3 u4 u5 (p x) W (Nat.lt_of_lt_of_le hlt hb.size) ((hb.cell (p := ⟨w.heap.size, 0, none⟩) hlt).trans hbox) fun X hX => HP.out X ((hb1.trans (hb.mono hb1.size)).trans (hX.mono (hb1.trans (hb.mono hb1.size)).size)) x hx _ (z1g.kept hE hX)
  have HC1 := hid (zd9 (.slice A n c) L W1 (hrow.kept (fun cs x hx => z1g.kept hx (by have := HB1.out; rw [<- hW1] at this; exact this)) (by have := HB1.out; rw [<- hW1] at this; exact this)) 134 #[.pointer (some ⟨w.heap.size, 0, none⟩)] hen (fun x => !p x) HS);rw [<- za0 p L];rw [hW1] at HC1;clear HS hbox hW1 hle d1 hrow;go_wp2_with ((with_reducible refine HC1.out.mono ?_); rintro e w' ⟨rfl, hr⟩)
  go_ret
  exact ⟨rfl, HB1.out.trans (hr.mono HB1.out.size)⟩
 ·have g1 : ¬ (n : Int) <= (most : Int) := by omega
  have d1 : decide (n <= most) = false := by simp [hle]
  rw [d1, Bool.false_and];have HB1 := hid ((Below.refl w.heap.size w).alloc (Nat.le_refl _) (.cells #[.func (.func F) #[] lb] 165));clear hle d1 hrow;go_wp2
  go_ret
  exact ⟨rfl, HB1.out⟩
theorem zfc (F : Nat) (lb : Array Value) (eF : ∀ args w, (callFunc F args).run prog w = .ok (.enter F args) w) (bx : Nat) (u0 u1 u2 u3 u4 u5 u6 u7 u8 : Value) (q : Bool) (W : World) (hlt : bx < W.heap.size) (hbx : W.cell? ⟨bx, 0, none⟩ = some (.func (.func F) #[] lb))
 (hc : ∀ X, Below W.heap.size W X -> Calls prog F (#[.agg #[u0, u1, u2, u3, u4, u5, u6, u7, u8]] ++ lb) X fun e w' => e = .returned (.bool q) /\ Below X.heap.size X w') :
 Calls prog 132 (#[.agg #[u0, u1, u2, u3, u4, u5, u6, u7, u8]] ++ #[.pointer (some ⟨bx, 0, none⟩)]) W fun e w' => e = .returned (.bool (!q)) /\ Below W.heap.size W w' := by
 have hb := (Below.refl W.heap.size W).alloc (Nat.le_refl _) (.cells #[u0, u1, u2, u3, u4, u5, u6, u7, u8] 83);have HB := hid hb;have HC := hid (hc _ hb);have hb1 := (hb.cell (p := ⟨bx, 0, none⟩) hlt).trans hbx;clear hc hb hbx;show Calls prog 132 #[.agg #[u0, u1, u2, u3, u4, u5, u6, u7, u8], .pointer (some ⟨bx, 0, none⟩)] W _;go_enter Tryz.func132, Tryz.ntmps132
 go_wp2_with ((with_reducible refine HC.out.mono ?_); rintro e w' ⟨rfl, hr⟩)
 go_ret
 exact ⟨rfl, HB.out.trans (hr.mono HB.out.size)⟩
theorem zgv (v : Value) (L : List MIns) (w : World) (hR : zf 9 insE w v L) (most : Nat) (z : Int) (hz : z = (most : Int)) (hm : most <= 1000) (F : Nat) (lb : Array Value) (eF : ∀ args w, (callFunc F args).run prog w = .ok (.enter F args) w) (p : MIns -> Bool) (hp : Says insE w F lb p L) :
 Calls prog 105 #[v, .int .i64 z, .func (.func F) #[] lb] w fun e w' => e = .returned (.bool (decide (L.length <= most) && L.all p)) /\ Below w.heap.size w w' := by
 subst hz;have HR := hid hR;have HP := hid hp;have hen : ∀ args w, (callFunc 132 args).run prog w = .ok (.enter 132 args) w := fun _ _ => by kernel_rfl
 obtain ⟨A, c, rfl, hn1, _, _, _⟩ := hR;obtain ⟨n, hn⟩ : ∃ n, L.length = n := ⟨_, rfl⟩;have HN := hid hn;rw [hn] at hn1 ⊢;have HEF := hid eF;clear hp hn eF;go_enter Tryz.func105, Tryz.ntmps105
 have hrow := HR.out;rw [HN.out] at hrow;by_cases hle : n <= most
 ·have g1 : (n : Int) <= (most : Int) := by omega
  have d1 : decide (n <= most) = true := by simp [hle]
  rw [d1, Bool.true_and];have HB1 := hid ((Below.refl w.heap.size w).alloc (Nat.le_refl _) (.cells #[.func (.func F) #[] lb] 99));obtain ⟨W1, hW1⟩ : ∃ W1, W1 = w.alloc (.cells #[.func (.func F) #[] lb] 99) := ⟨_, rfl⟩;have hbox : W1.cell? ⟨w.heap.size, 0, none⟩ = some (.func (.func F) #[] lb) := by rw [hW1];simp only [World.cell?];rw [heap_alloc_new];rfl
  have HS : Says insE W1 132 #[.pointer (some ⟨w.heap.size, 0, none⟩)] (fun x => !p x) L := by
   intro W hb x hx cs hE;have hb1 := HB1.out;rw [<- hW1] at hb1;have hlt : w.heap.size < W1.heap.size := by rw [hW1]; simp
   have hlen : cs.length = 9 := zfq hE
   match cs, hlen with
   | [u0, u1, u2, u3, u4, u5, u6, u7, u8], _ =>
   exact zfc F lb HEF.out w.heap.size u0 u1 u2 u3 u4 u5 u6 u7 u8 (p x) W (Nat.lt_of_lt_of_le hlt hb.size) ((hb.cell (p := ⟨w.heap.size, 0, none⟩) hlt).trans hbox) fun X hX => HP.out X ((hb1.trans (hb.mono hb1.size)).trans (hX.mono (hb1.trans (hb.mono hb1.size)).size)) x hx _ (insE.kept hE hX)
  have HC1 := hid (zf5 (.slice A n c) L W1 (hrow.kept (fun cs x hx => insE.kept hx (by have := HB1.out; rw [<- hW1] at this; exact this)) (by have := HB1.out; rw [<- hW1] at this; exact this)) 132 #[.pointer (some ⟨w.heap.size, 0, none⟩)] hen (fun x => !p x) HS);rw [<- za0 p L];rw [hW1] at HC1;clear HS hbox hW1 hle d1 hrow;go_wp2_with ((with_reducible refine HC1.out.mono ?_); rintro e w' ⟨rfl, hr⟩)
  go_ret
  exact ⟨rfl, HB1.out.trans (hr.mono HB1.out.size)⟩
 ·have g1 : ¬ (n : Int) <= (most : Int) := by omega
  have d1 : decide (n <= most) = false := by simp [hle]
  rw [d1, Bool.false_and];have HB1 := hid ((Below.refl w.heap.size w).alloc (Nat.le_refl _) (.cells #[.func (.func F) #[] lb] 99));clear hle d1 hrow;go_wp2
  go_ret
  exact ⟨rfl, HB1.out⟩
def limB (b : MBank) : Bool := decide (b.regs.length <= 64)
def limO (o : MOper) : Bool := decide (o.pieces.length <= 4)
def limI (i : MIns) : Bool := decide (i.effs.length <= 4) && (decide (i.opers.length <= 4) && i.opers.all limO)
def limM (m : Mach) : Bool := decide (m.regs.length <= 64) && decide (m.units.length <= 8) && (decide (m.banks.length <= 16) && m.banks.all limB) && (decide (m.instrs.length <= 64) && m.instrs.all limI)
theorem zdc (n k : Nat) : decide ((n : Int) <= (k : Int)) = decide (n <= k) := by simp
theorem zfu (w : World) (L : List MBank) : Says z1m w 104 #[] limB L := by
 intro W hb x hx cs hE;obtain ⟨sv, rfl, _, A, c, rfl, _⟩ := hE;have HB := hid ((Below.refl W.heap.size W).alloc (Nat.le_refl _) (.cells #[.string x.name, .slice A x.regs.length c] 79));have hd : decide ((x.regs.length : Int) <= 64) = limB x := zdc x.regs.length 64;obtain ⟨q, hq⟩ : ∃ q, limB x = q := ⟨_, rfl⟩;rw [hq] at hd ⊢;obtain ⟨nm, hnm⟩ : ∃ nm, x.name = nm := ⟨_, rfl⟩;obtain ⟨n, hn⟩ : ∃ n, x.regs.length = n := ⟨_, rfl⟩;rw [hn] at hd HB ⊢;rw [hnm] at HB ⊢;show Calls prog 104 #[.agg #[.string nm, .slice A n c]] W _;clear hx hn hnm hq;go_enter Tryz.func104, Tryz.ntmps104
 go_wp2
 go_ret
 exact ⟨by rw [<- hd]; rfl, HB.out⟩
theorem zfv (w : World) (L : List MOper) : Says z1g w 108 #[] limO L := by
 intro W hb x hx cs hE;obtain ⟨sv, rfl, _, _, _, _, ⟨A, c, rfl, _⟩, _⟩ := hE;have HB := hid ((Below.refl W.heap.size W).alloc (Nat.le_refl _) (.cells #[.string x.name, .int .u8 x.kind, .int .i64 x.bank, .int .i64 x.scale, .slice A x.pieces.length c, .int .i64 x.tied] 86));have hd : decide ((x.pieces.length : Int) <= 4) = limO x := zdc x.pieces.length 4;obtain ⟨q, hq⟩ : ∃ q, limO x = q := ⟨_, rfl⟩;rw [hq] at hd ⊢;obtain ⟨n, hn⟩ : ∃ n, x.pieces.length = n := ⟨_, rfl⟩;rw [hn] at hd HB ⊢;show Calls prog 108 #[.agg #[.string x.name, .int .u8 x.kind, .int .i64 x.bank, .int .i64 x.scale, .slice A n c, .int .i64 x.tied]] W _;clear hx hn hq;go_enter Tryz.func108, Tryz.ntmps108
 go_wp2
 go_ret
 exact ⟨by rw [<- hd]; rfl, HB.out⟩
theorem zgt : ∀ (args : Array Value) (w : World), Sem.run prog (callFunc 104 args) w = .ok (.enter 104 args) w := fun _ _ => by kernel_rfl
theorem zgu : ∀ (args : Array Value) (w : World), Sem.run prog (callFunc 106 args) w = .ok (.enter 106 args) w := fun _ _ => by kernel_rfl
theorem zfa : ∀ (args : Array Value) (w : World), Sem.run prog (callFunc 108 args) w = .ok (.enter 108 args) w := fun _ _ => by kernel_rfl
theorem zgy (w : World) (L : List MIns) : Says insE w 106 #[] limI L := by
 intro W hb x hx cs hE;obtain ⟨so, se, rfl, _, _, _, hro, ⟨A, c, rfl, _⟩, _⟩ := hE;obtain ⟨ob, hob⟩ : ∃ ob : Obj, ob = .cells #[.string x.name, .int .u64 x.mask, .int .u64 x.mtch, so, .slice A x.effs.length c, .int .i64 x.unit, .int .i64 x.busy, .int .i64 x.lat, .int .i64 x.slots] 83 := ⟨_, rfl⟩;have hB := (Below.refl W.heap.size W).alloc (Nat.le_refl _) ob;have HB := hid hB;have HF := hid (zfe so x.opers (W.alloc ob) (hro.kept (fun cs x hx => z1g.kept hx hB) hB) 4 4 rfl (by decide) 108 #[] zfa limO (zfv _ _));unfold limI;obtain ⟨r, hr⟩ : ∃ r, (decide (x.opers.length <= 4) && x.opers.all limO) = r := ⟨_, rfl⟩;rw [hr] at HF ⊢;obtain ⟨n, hn⟩ : ∃ n, x.effs.length = n := ⟨_, rfl⟩;rw [hn] at hob ⊢;rw [hob] at HB HF;show Calls prog 106 #[.agg #[.string x.name, .int .u64 x.mask, .int .u64 x.mtch, so, .slice A n c, .int .i64 x.unit, .int .i64 x.busy, .int .i64 x.lat, .int .i64 x.slots]] W _;clear hx hn hr hro hB hob;by_cases hle : n <= 4
 ·have g1 : (n : Int) <= 4 := by omega
  have d1 : decide (n <= 4) = true := by simp [hle]
  rw [d1, Bool.true_and];clear hle d1;go_enter Tryz.func106, Tryz.ntmps106
  go_wp2_with ((with_reducible refine HF.out.mono ?_); rintro e w' ⟨rfl, hr⟩)
  go_ret
  exact ⟨rfl, HB.out.trans (hr.mono HB.out.size)⟩
 ·have g1 : ¬ (n : Int) <= 4 := by omega
  have d1 : decide (n <= 4) = false := by simp [hle]
  rw [d1, Bool.false_and];clear hle d1;go_enter Tryz.func106, Tryz.ntmps106
  go_wp2
  go_ret
  exact ⟨rfl, HB.out⟩
theorem z80 (w : World) (v : Value) (m : Mach) (hm : zz w v m) :
 Calls prog 82 #[v] w fun e w' => e = .returned (.bool (limM m)) /\ Below w.heap.size w w' := by
 obtain ⟨cs0, rfl, sr, sb, su, si, hcs, _, _, _, hR, hB, hU, hI⟩ := hm;obtain rfl : cs0 = #[.string m.name, .int .i64 m.word, .int .i64 m.address, sr, sb, su, si] := by cases cs0; simp_all
 obtain ⟨Ar, cr, rfl, _⟩ := hR;obtain ⟨Au, cu, rfl, _⟩ := hU;unfold limM;obtain ⟨nr, hnr⟩ : ∃ n, m.regs.length = n := ⟨_, rfl⟩;obtain ⟨nu, hnu⟩ : ∃ n, m.units.length = n := ⟨_, rfl⟩;rw [hnr, hnu];obtain ⟨ob, hob⟩ : ∃ ob : Obj, ob = .cells #[.string m.name, .int .i64 m.word, .int .i64 m.address, .slice Ar nr cr, sb, .slice Au nu cu, si] 27 := ⟨_, rfl⟩;have hb := (Below.refl w.heap.size w).alloc (Nat.le_refl _) ob;have HBB := hid hb;have HFB := hid (fun W (h : Below w.heap.size w W) => zfd sb m.banks W (hB.kept (fun cs x hx => z1m.kept hx h) h) 16 16 rfl (by decide) 104 #[] zgt limB (zfu _ _));have HFI := hid (fun W (h : Below w.heap.size w W) => zgv si m.instrs W (hI.kept (fun cs x hx => insE.kept hx h) h) 64 64 rfl (by decide) 106 #[] zgu limI (zgy _ _));obtain ⟨rb, hrb⟩ : ∃ r, (decide (m.banks.length <= 16) && m.banks.all limB) = r := ⟨_, rfl⟩;obtain ⟨ri, hri⟩ : ∃ r, (decide (m.instrs.length <= 64) && m.instrs.all limI) = r := ⟨_, rfl⟩;rw [hrb] at HFB ⊢;rw [hri] at HFI ⊢;rw [hob] at HBB;have HC6 := hid (show (w.alloc (.cells #[.string m.name, .int .i64 m.word, .int .i64 m.address, .slice Ar nr cr, sb, .slice Au nu cu, si] 27)).cell? ⟨w.heap.size, 6, none⟩ = some si by simp only [World.cell?];rw [heap_alloc_new];rfl)
 clear hrb hri hB hI hob hb hcs hnr hnu;by_cases h1 : nr <= 64
 ·have g1 : (nr : Int) <= 64 := by omega
  have d1 : decide (nr <= 64) = true := by simp [h1]
  rw [d1, Bool.true_and];clear h1 d1;by_cases h2 : nu <= 8
  ·have g2 : (nu : Int) <= 8 := by omega
   have d2 : decide (nu <= 8) = true := by simp [h2]
   rw [d2, Bool.true_and];clear h2 d2
   cases rb with
   | true =>
     go_enter Tryz.func82, Tryz.ntmps82
     go_wp2_with (first
      | (go_at_call 103; (with_reducible refine (HFB.out _ HBB.out).mono ?_); rintro e w1 ⟨rfl, hr⟩; have HB1 := hid (HBB.out.trans (hr.mono HBB.out.size)); have hc6 := (hr.cell (p := ⟨w.heap.size, 6, none⟩) (by simp)).trans HC6.out; clear hr)
      | (go_at_call 105; (with_reducible refine (HFI.out _ HB1.out).mono ?_); rintro e w2 ⟨rfl, hr2⟩))
     go_ret
     exact ⟨rfl, HB1.out.trans (hr2.mono HB1.out.size)⟩
   | false =>
     go_enter Tryz.func82, Tryz.ntmps82
     go_wp2_with (first
      | (go_at_call 103; (with_reducible refine (HFB.out _ HBB.out).mono ?_); rintro e w1 ⟨rfl, hr⟩; have HB1 := hid (HBB.out.trans (hr.mono HBB.out.size)); clear hr))
     go_ret
     exact ⟨rfl, HB1.out⟩
  ·have g2 : ¬ (nu : Int) <= 8 := by omega
   have d2 : decide (nu <= 8) = false := by simp [h2]
   rw [d2, Bool.false_and, Bool.false_and];clear h2 d2;go_enter Tryz.func82, Tryz.ntmps82
   go_wp2
   go_ret
   exact ⟨rfl, HBB.out⟩
 ·have g1 : ¬ (nr : Int) <= 64 := by omega
  have d1 : decide (nr <= 64) = false := by simp [h1]
  rw [d1, Bool.false_and, Bool.false_and, Bool.false_and];clear h1 d1;go_enter Tryz.func82, Tryz.ntmps82
  go_wp2
  go_ret
  exact ⟨rfl, HBB.out⟩
end Go.Proofs.YtdmadnfadgggcaaGreatDoor
