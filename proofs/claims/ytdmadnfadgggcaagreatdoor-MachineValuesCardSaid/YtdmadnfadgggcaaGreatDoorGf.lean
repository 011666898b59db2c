import Derived.Test.YtdmadnfadgggcaaGreatDoorGe
import Derived.Test.YtdmadnfadgggcaaGreatDoorGa
import Derived.Maps.OwnSet
import Derived.Maps.Views
set_option linter.unusedVariables false
set_option linter.unusedSimpArgs false
set_option warningAsError false
set_option maxHeartbeats 4000000
open Go.Lib (hid)
open Go.Proofs.Tryz (prog)
noncomputable section
namespace Go.Proofs.YtdmadnfadgggcaaGreatDoor
open Go.RowKit Go.Instr
set_option maxRecDepth 100000
theorem z85 (s : ByteArray) (w : World) : Calls prog 136 #[.string s] w fun e w' => e = .returned (.bool (z1t s)) /\ Below w.heap.size w w' := by
 by_cases hm : s.size <= 1000
 ·exact zb3 s w hm
 ·rw [z2f (fun h => by have := h.2.1; omega)];obtain ⟨L, hL⟩ : ∃ L, s.size = L := ⟨_, rfl⟩;have h0 : 24 < L := by omega
  have h1 : 1 <= L := by omega
  clear hm;go_enter Tryz.func136, Tryz.ntmps136
  go_wp2
  go_ret
  exact ⟨rfl, Below.refl _ _⟩
noncomputable instance decMem (s : ByteArray) (l : List ByteArray) : Decidable (s ∈ l) := Classical.propDecidable _
def zq (met : List ByteArray) : List ByteArray -> Bool
 | [] => true
 | s :: l => !(decide (s ∈ met)) && z1t s && zq (met ++ [s]) l
theorem zca {met l : List ByteArray} {s : ByteArray} (h : s ∈ met) : zq met (s :: l) = false := by simp [zq, h]
theorem ze8 {met l : List ByteArray} {s : ByteArray} (h : z1t s = false) : zq met (s :: l) = false := by simp [zq, h]
theorem ze7 {met l : List ByteArray} {s : ByteArray} (h1 : ¬ s ∈ met) (h2 : z1t s = true) : zq met (s :: l) = zq (met ++ [s]) l := by simp [zq, h1, h2]
def MetD (D : DataW Unit) (ss : List ByteArray) : Prop := Maps.IsMap D /\ ∀ s : ByteArray, D.atKey (.string s.data.toList) (.lit (.bool false)) = .lit (.bool (decide (s ∈ ss)))
theorem ze5 : MetD (.map []) [] := ⟨⟨[], rfl⟩, fun s => by simp; rfl⟩
theorem zdz (s : ByteArray) : WideAt.IsKeyLit (.string s.data.toList) := by simp [WideAt.IsKeyLit]
theorem zh2 {a b : ByteArray} (h : Lit.string a.data.toList = Lit.string b.data.toList) : a = b := by
 injection h with h;cases a; cases b
 congr
 exact Array.toList_inj.1 h
theorem zfw {D : DataW Unit} {ss : List ByteArray} (h : MetD D ss) (s : ByteArray) : MetD (D.put (.string s.data.toList) (.lit (.bool true))) (ss ++ [s]) := ⟨h.1.put _ _, fun u => by
 by_cases hu : u = s
 ·subst hu;rw [Maps.atKey_put_same h.1 (zdz _)];simp
 ·rw [Maps.atKey_put_other (fun q => hu (zh2 q)), h.2 u];simp [hu]⟩
theorem zfs {W : World} {B n : Nat} {D : DataW Unit} {ss : List ByteArray} (h : W.ownsMap prog 9 (plainElem prog 4) B n D) (hk : MetD D ss) (s : ByteArray) (hs : s.size <= maxLen) :
 (Instr.lookup 205 (.map (some B)) (.string s) false).run prog W = .ok (.bool (decide (s ∈ ss))) W := by
 obtain ⟨v, ps, hrun, hv⟩ := h.lookup (Maps.string_keyed Tryz.underlying9) Tryz.underlying205 (z := .bool false) (by kernel_rfl) (plainElem_bool Tryz.underlying4 false) (Go.WideMaps.keyOf_string_mk Tryz.underlying9 hs);rw [hk.2 s] at hv;have e : v = .bool (decide (s ∈ ss)) := by unfold plainElem at hv;rw [Tryz.underlying4] at hv;cases v <;> simp_all
 rw [<- e];exact hrun
theorem z7p {W W' : World} {B n : Nat} {D : DataW Unit} (h : W.ownsMap prog 9 (plainElem prog 4) B n D) (hb : Below W.heap.size W W') : W'.ownsMap prog 9 (plainElem prog 4) B n D := by have hlt := h.lt;obtain ⟨es, clock, h1, F, hs, hD⟩ := h;exact ⟨es, clock, (hb.block B hlt).trans h1, F, hs, hD⟩
theorem zdr {w W W' : World} {B : Nat} (hB : w.heap.size <= B) (hb : Below w.heap.size w W) (hg : W.grownBy W' (some B)) : Below w.heap.size w W' :=
 ⟨hg.1.trans hb.1, hg.2.trans hb.2, hg.3.trans hb.3, Nat.le_trans hb.size hg.4, fun i hi => (hg.block i (Nat.lt_of_lt_of_le hi hb.size) (by simp; omega)).trans (hb.block i hi)⟩
def zbf {α : Type} (E : World -> List Value -> α -> Prop) (w : World) (g : Nat) (f : α -> ByteArray) (L : List α) : Prop :=
 ∀ (W : World), Below w.heap.size w W -> ∀ x, x ∈ L -> ∀ cs, E W cs x -> Calls prog g #[.agg cs.toArray] W fun e w' => e = .returned (.string (f x)) /\ Below W.heap.size W w'
theorem zaq (w : World) (n : Nat) : (Instr.makeMap 205 (some (.int .i64 n))).run prog w = .ok (.map (some w.heap.size)) (w.alloc (.map #[] 0)) := by simp [Instr.makeMap, run_underlying Tryz.underlying3, asInt, asIntOf, Result.andThen]
abbrev z4j {α : Type} (k : Nat) (E : World -> List Value -> α -> Prop) (fn : Nat) : Prop := ∀ (v : Value) (L : List α) (w : World), zf k E w v L -> L.length <= 1000 -> ∀ (g : Nat), (∀ args w, (callFunc g args).run prog w = .ok (.enter g args) w) -> ∀ (f : α -> ByteArray), (∀ x, x ∈ L -> (f x).size <= maxLen) -> zbf E w g f L ->
 Calls prog fn #[v, .func (.func g) #[] #[]] w fun e w' => e = .returned (.bool (zq [] (L.map f))) /\ Below w.heap.size w w'
theorem z43 : z4j 4 regE 138 /\ z4j 2 z3u 144 /\ z4j 2 z1m 141 /\ z4j 6 z1g 170 /\ z4j 9 insE 146 := by
 refine ⟨?_, ?_, ?_, ?_, ?_⟩
 all_goals
  intro v L w hR hlen g eg f hf hp;have HR := hid hR;have HP := hid hp;have HF := hid hf;obtain ⟨A, c, rfl, hn1, _, _, _⟩ := hR;obtain ⟨n, hn⟩ : ∃ n, L.length = n := ⟨_, rfl⟩;have HN := hid hn;rw [hn] at hn1 hlen ⊢;obtain ⟨r, hr⟩ : ∃ r, zq [] (L.map f) = r := ⟨_, rfl⟩;have HRR := hid hr;rw [hr];clear hp hn hf hr
  first
   | go_enter Tryz.func138, Tryz.ntmps138
   | go_enter Tryz.func144, Tryz.ntmps144
   | go_enter Tryz.func141, Tryz.ntmps141
   | go_enter Tryz.func170, Tryz.ntmps170
   | go_enter Tryz.func146, Tryz.ntmps146
  have hmm := fun W => zaq W n;go_wp2
  obtain ⟨B, hB⟩ : ∃ B, w.heap.size = B := ⟨_, rfl⟩;have HBB := hid hB;have HB0 := hid ((Below.refl w.heap.size w).alloc (Nat.le_refl _) (.map #[] 0));have HM0 := hid (World.ownsMap_made (H := Unit) w prog 9 (plainElem prog 4));rw [hB] at HM0;rw [hB];clear hmm hB;go_loopw [14] (fun v wr => ∃ i : Nat, v = .int .i64 i /\ i <= n /\ Hid (Below w.heap.size w wr /\ r = zq ((L.map f).take i) ((L.map f).drop i) /\ ∃ D, wr.ownsMap prog 9 (plainElem prog 4) B i D /\ MetD D ((L.map f).take i))) (fun v _ => n - (intOf v).toNat)
  case atStart => exact ⟨0, rfl, Nat.zero_le _, hid ⟨HB0.out, by rw [<- HRR.out]; simp, _, HM0.out, by simpa using ze5⟩⟩
  case round =>
   obtain ⟨i, rfl, hi, HI⟩ := hrel;by_cases hlt : i < n
   ·obtain ⟨x, hx⟩ : ∃ x, L[i]? = some x := ⟨_, List.getElem?_eq_getElem (by rw [HN.out]; exact hlt)⟩;obtain ⟨A', c', e1, _, _, _, hall⟩ := HR.out.kept (fun cs x hx => by first | exact regE.kept hx HI.out.1 | exact z3u.kept hx HI.out.1 | exact z1m.kept hx HI.out.1 | exact z1g.kept hx HI.out.1 | exact insE.kept hx HI.out.1) HI.out.1;obtain ⟨b, o, cs, e2, hb, hcl, hcell, hE⟩ := hall i x hx;obtain ⟨rfl, rfl⟩ : A = A' /\ c = c' := by cases e1; exact ⟨rfl, rfl⟩
    subst e2;obtain ⟨b1, b2, D, b3, b4⟩ := HI.out;have HX := hid hx;have HLT := hid hlt;have hxm := List.mem_of_getElem? hx;have hdrop : (L.map f).drop i = f x :: (L.map f).drop (i + 1) := by
     rw [List.drop_eq_getElem_cons (by rw [List.length_map, HN.out]; exact hlt)]
     congr 1
     rw [List.getElem_map];rw [List.getElem?_eq_getElem (by rw [HN.out]; exact hlt)] at hx;rw [Option.some.inj hx]
    have htake : (L.map f).take (i + 1) = (L.map f).take i ++ [f x] := by rw [List.take_add_one, List.getElem?_map, hx];rfl
    first
     | (have HE := hE
        obtain ⟨rfl, _⟩ := hE;have c0 : wr.cell? ⟨b, o + i * 4, none⟩ = some (.string x.name) := hcell 0 _ rfl;have c1 : wr.cell? ⟨b, o + i * 4 + 1, none⟩ = some (.int .i64 x.width) := hcell 1 _ rfl;have c2 : wr.cell? ⟨b, o + i * 4 + 2, none⟩ = some (.int .i64 x.par) := hcell 2 _ rfl;have c3 : wr.cell? ⟨b, o + i * 4 + 3, none⟩ = some (.int .i64 x.low) := hcell 3 _ rfl;have HB1 := hid (b1.alloc b1.size (.cells #[.string x.name, .int .i64 x.width, .int .i64 x.par, .int .i64 x.low] 96));have hbw : Below wr.heap.size wr (wr.alloc (.cells #[.string x.name, .int .i64 x.width, .int .i64 x.par, .int .i64 x.low] 96)) := (Below.refl _ _).alloc (Nat.le_refl _) _
        have HCL := hid (show Calls prog g #[.agg #[.string x.name, .int .i64 x.width, .int .i64 x.par, .int .i64 x.low]] (wr.alloc (.cells #[.string x.name, .int .i64 x.width, .int .i64 x.par, .int .i64 x.low] 96)) fun e w' => e = .returned (.string (f x)) /\ Below w.heap.size w w' /\ Below wr.heap.size wr w' from (HP.out _ HB1.out x hxm _ (regE.kept HE hbw)).mono fun e w' ⟨h1, h2⟩ => ⟨h1, HB1.out.trans (h2.mono HB1.out.size), hbw.trans (h2.mono hbw.size)⟩))
     | (have HE := hE
        obtain ⟨rfl, _⟩ := hE;have c0 : wr.cell? ⟨b, o + i * 2, none⟩ = some (.string x.name) := hcell 0 _ rfl;have c1 : wr.cell? ⟨b, o + i * 2 + 1, none⟩ = some (.int .i64 x.count) := hcell 1 _ rfl;have HB1 := hid (b1.alloc b1.size (.cells #[.string x.name, .int .i64 x.count] 158));have hbw : Below wr.heap.size wr (wr.alloc (.cells #[.string x.name, .int .i64 x.count] 158)) := (Below.refl _ _).alloc (Nat.le_refl _) _
        have HCL := hid (show Calls prog g #[.agg #[.string x.name, .int .i64 x.count]] (wr.alloc (.cells #[.string x.name, .int .i64 x.count] 158)) fun e w' => e = .returned (.string (f x)) /\ Below w.heap.size w w' /\ Below wr.heap.size wr w' from (HP.out _ HB1.out x hxm _ (z3u.kept HE hbw)).mono fun e w' ⟨h1, h2⟩ => ⟨h1, HB1.out.trans (h2.mono HB1.out.size), hbw.trans (h2.mono hbw.size)⟩))
     | (have HE := hE
        obtain ⟨_, rfl, _, Ab, cb, rfl, _⟩ := hE;obtain ⟨nb, hnb⟩ : ∃ nb, x.regs.length = nb := ⟨_, rfl⟩;rw [hnb] at HE hcell;have c0 : wr.cell? ⟨b, o + i * 2, none⟩ = some (.string x.name) := hcell 0 _ rfl;have c1 : wr.cell? ⟨b, o + i * 2 + 1, none⟩ = some (.slice Ab nb cb) := hcell 1 _ rfl;have HB1 := hid (b1.alloc b1.size (.cells #[.string x.name, .slice Ab nb cb] 79));have hbw : Below wr.heap.size wr (wr.alloc (.cells #[.string x.name, .slice Ab nb cb] 79)) := (Below.refl _ _).alloc (Nat.le_refl _) _
        have HCL := hid (show Calls prog g #[.agg #[.string x.name, .slice Ab nb cb]] (wr.alloc (.cells #[.string x.name, .slice Ab nb cb] 79)) fun e w' => e = .returned (.string (f x)) /\ Below w.heap.size w w' /\ Below wr.heap.size wr w' from (HP.out _ HB1.out x hxm _ (z1m.kept HE hbw)).mono fun e w' ⟨h1, h2⟩ => ⟨h1, HB1.out.trans (h2.mono HB1.out.size), hbw.trans (h2.mono hbw.size)⟩))
     | (have HE := hE
        obtain ⟨_, rfl, _, _, _, _, ⟨Ab, cb, rfl, _⟩, _⟩ := hE;obtain ⟨nb, hnb⟩ : ∃ nb, x.pieces.length = nb := ⟨_, rfl⟩;rw [hnb] at HE hcell;have c0 : wr.cell? ⟨b, o + i * 6, none⟩ = some (.string x.name) := hcell 0 _ rfl;have c1 : wr.cell? ⟨b, o + i * 6 + 1, none⟩ = some (.int .u8 x.kind) := hcell 1 _ rfl;have c2 : wr.cell? ⟨b, o + i * 6 + 2, none⟩ = some (.int .i64 x.bank) := hcell 2 _ rfl;have c3 : wr.cell? ⟨b, o + i * 6 + 3, none⟩ = some (.int .i64 x.scale) := hcell 3 _ rfl;have c4 : wr.cell? ⟨b, o + i * 6 + 4, none⟩ = some (.slice Ab nb cb) := hcell 4 _ rfl;have c5 : wr.cell? ⟨b, o + i * 6 + 5, none⟩ = some (.int .i64 x.tied) := hcell 5 _ rfl;have HB1 := hid (b1.alloc b1.size (.cells #[.string x.name, .int .u8 x.kind, .int .i64 x.bank, .int .i64 x.scale, .slice Ab nb cb, .int .i64 x.tied] 86));have hbw : Below wr.heap.size wr (wr.alloc (.cells #[.string x.name, .int .u8 x.kind, .int .i64 x.bank, .int .i64 x.scale, .slice Ab nb cb, .int .i64 x.tied] 86)) := (Below.refl _ _).alloc (Nat.le_refl _) _
        have HCL := hid (show Calls prog g #[.agg #[.string x.name, .int .u8 x.kind, .int .i64 x.bank, .int .i64 x.scale, .slice Ab nb cb, .int .i64 x.tied]] (wr.alloc (.cells #[.string x.name, .int .u8 x.kind, .int .i64 x.bank, .int .i64 x.scale, .slice Ab nb cb, .int .i64 x.tied] 86)) fun e w' => e = .returned (.string (f x)) /\ Below w.heap.size w w' /\ Below wr.heap.size wr w' from (HP.out _ HB1.out x hxm _ (z1g.kept HE hbw)).mono fun e w' ⟨h1, h2⟩ => ⟨h1, HB1.out.trans (h2.mono HB1.out.size), hbw.trans (h2.mono hbw.size)⟩))
     | (have HE := hE
        obtain ⟨_, _, rfl, _, _, _, ⟨Ab, cb, rfl, _⟩, ⟨Ac, cc, rfl, _⟩, _⟩ := hE;obtain ⟨nb, hnb⟩ : ∃ nb, x.opers.length = nb := ⟨_, rfl⟩;obtain ⟨nc, hnc⟩ : ∃ nc, x.effs.length = nc := ⟨_, rfl⟩;rw [hnb, hnc] at HE hcell;have c0 : wr.cell? ⟨b, o + i * 9, none⟩ = some (.string x.name) := hcell 0 _ rfl;have c1 : wr.cell? ⟨b, o + i * 9 + 1, none⟩ = some (.int .u64 x.mask) := hcell 1 _ rfl;have c2 : wr.cell? ⟨b, o + i * 9 + 2, none⟩ = some (.int .u64 x.mtch) := hcell 2 _ rfl;have c3 : wr.cell? ⟨b, o + i * 9 + 3, none⟩ = some (.slice Ab nb cb) := hcell 3 _ rfl;have c4 : wr.cell? ⟨b, o + i * 9 + 4, none⟩ = some (.slice Ac nc cc) := hcell 4 _ rfl;have c5 : wr.cell? ⟨b, o + i * 9 + 5, none⟩ = some (.int .i64 x.unit) := hcell 5 _ rfl;have c6 : wr.cell? ⟨b, o + i * 9 + 6, none⟩ = some (.int .i64 x.busy) := hcell 6 _ rfl;have c7 : wr.cell? ⟨b, o + i * 9 + 7, none⟩ = some (.int .i64 x.lat) := hcell 7 _ rfl;have c8 : wr.cell? ⟨b, o + i * 9 + 8, none⟩ = some (.int .i64 x.slots) := hcell 8 _ rfl;have HB1 := hid (b1.alloc b1.size (.cells #[.string x.name, .int .u64 x.mask, .int .u64 x.mtch, .slice Ab nb cb, .slice Ac nc cc, .int .i64 x.unit, .int .i64 x.busy, .int .i64 x.lat, .int .i64 x.slots] 83));have hbw : Below wr.heap.size wr (wr.alloc (.cells #[.string x.name, .int .u64 x.mask, .int .u64 x.mtch, .slice Ab nb cb, .slice Ac nc cc, .int .i64 x.unit, .int .i64 x.busy, .int .i64 x.lat, .int .i64 x.slots] 83)) := (Below.refl _ _).alloc (Nat.le_refl _) _;have HCL := hid (show Calls prog g #[.agg #[.string x.name, .int .u64 x.mask, .int .u64 x.mtch, .slice Ab nb cb, .slice Ac nc cc, .int .i64 x.unit, .int .i64 x.busy, .int .i64 x.lat, .int .i64 x.slots]] (wr.alloc (.cells #[.string x.name, .int .u64 x.mask, .int .u64 x.mtch, .slice Ab nb cb, .slice Ac nc cc, .int .i64 x.unit, .int .i64 x.busy, .int .i64 x.lat, .int .i64 x.slots] 83)) fun e w' => e = .returned (.string (f x)) /\ Below w.heap.size w w' /\ Below wr.heap.size wr w' from (HP.out _ HB1.out x hxm _ (insE.kept HE hbw)).mono fun e w' ⟨h1, h2⟩ => ⟨h1, HB1.out.trans (h2.mono HB1.out.size), hbw.trans (h2.mono hbw.size)⟩))
    have HLK := hid (fun W (h : Below wr.heap.size wr W) => zfs (z7p b3 h) b4 (f x) (HF.out x hxm));have HOW := hid (fun W (h : Below wr.heap.size wr W) => z7p b3 h);have HMD := hid b4;have HNR := hid b2;have HDR := hid hdrop;have HTK := hid htake;obtain ⟨met, hmet⟩ : ∃ m, (L.map f).take i = m := ⟨_, rfl⟩;rw [hmet] at HLK HMD HNR HTK;obtain ⟨s, hs⟩ : ∃ s, f x = s := ⟨_, rfl⟩;rw [hs] at HLK HCL HDR HTK;have HSZ := hid (show s.size <= maxLen by rw [<- hs]; exact HF.out x hxm);clear hall hcell HE hx e1 b1 b2 b3 b4 hbw hdrop htake hxm hmet hs;by_cases hin : s ∈ met
    ·have HRF : Hid (r = false) := hid (by rw [HNR.out, HDR.out]; exact zca hin);have e : decide (s ∈ met) = true := (by simp [hin]);rw [e] at HLK;clear e hin
     go_wp2_with (first
      | ((with_reducible refine HCL.out.mono ?_); rintro e w2 ⟨rfl, hb2, hbr⟩; have HB2 := hid hb2; have hlk := HLK.out w2 hbr; clear hb2 hbr))
     go_ret
     exact ⟨by rw [HRF.out]; rfl, HB2.out⟩
    ·have e : decide (s ∈ met) = false := (by simp [hin]);rw [e] at HLK;have HIN := hid hin;clear e hin
     cases hq : z1t s with
     | false =>
       have HRF : Hid (r = false) := hid (by rw [HNR.out, HDR.out]; exact ze8 hq);have HNM := hid (fun W => z85 s W);rw [hq] at HNM;clear hq
       go_wp2_with (first
        | ((with_reducible refine HCL.out.mono ?_); rintro e w2 ⟨rfl, hb2, hbr⟩; have HB2 := hid hb2; have hlk := HLK.out w2 hbr; clear hb2 hbr)
        | (go_at_call 136; (with_reducible refine (HNM.out _).mono ?_); rintro e w3 ⟨rfl, hb3⟩; have HB3 := hid (HB2.out.trans (hb3.mono HB2.out.size)); clear hb3))
       go_ret
       exact ⟨by rw [HRF.out]; rfl, HB3.out⟩
     | true =>
       have HRG : Hid (r = zq (met ++ [s]) ((L.map f).drop (i + 1))) := hid (by rw [HNR.out, HDR.out]; exact ze7 HIN.out hq);have HNM := hid (fun W => z85 s W);rw [hq] at HNM;clear hq
       go_wp2_with (first
        | ((with_reducible refine HCL.out.mono ?_); rintro e w2 ⟨rfl, hb2, hbr⟩; have HB2 := hid hb2; have HBR := hid hbr; have hlk := HLK.out w2 hbr; clear hb2 hbr)
        | (go_at_call 136; (with_reducible refine (HNM.out _).mono ?_); rintro e w3 ⟨rfl, hb3⟩; have HB3 := hid (HB2.out.trans (hb3.mono HB2.out.size)); have HR3 := hid (HBR.out.trans (hb3.mono HBR.out.size)); clear hb3; clear hlk
           obtain ⟨w4, hup, hown, hg4⟩ := World.ownsMap.update (key := .string s) (val := .bool true) (HOW.out w3 HR3.out) (Maps.string_keyed Tryz.underlying9) Tryz.underlying205 (by unfold maxLen; omega) (Go.WideMaps.keyOf_string_mk Tryz.underlying9 HSZ.out) (plainElem_bool Tryz.underlying4 true);have HO4 := hid (And.intro hown hg4); clear hown hg4))
       go_roundw
       case rel => exact ⟨i + 1, by first | rfl | go_num | (congr 1), by have := HLT.out; omega, hid ⟨zdr (by rw [HBB.out]; exact Nat.le_refl _) HB3.out HO4.out.2, by rw [HTK.out]; exact HRG.out, _, HO4.out.1, by rw [HTK.out]; exact zfw HMD.out s⟩⟩
       case measure => simp only [intOf]; have := HLT.out; omega
   ·obtain rfl : i = n := by omega
    have HI2 : Hid (r = true) := hid (by rw [HI.out.2.1, List.drop_eq_nil_of_le (by rw [List.length_map, HN.out]; exact Nat.le_refl _)];rfl)
    go_wp2
    go_ret
    exact ⟨by rw [HI2.out]; rfl, HI.out.1⟩
theorem zea : z4j 4 regE 138 := z43.1
theorem zcd : z4j 2 z3u 144 := z43.2.1
theorem zcb : z4j 2 z1m 141 := z43.2.2.1
theorem zcc : z4j 6 z1g 170 := z43.2.2.2.1
theorem ze9 : z4j 9 insE 146 := z43.2.2.2.2
theorem zc9 (w : World) (L : List MReg) : zbf regE w 139 (fun x => x.name) L := by
 intro W hb x hx cs hE;obtain ⟨rfl, _⟩ := hE;have HB := hid (fun cs => (Below.refl W.heap.size W).alloc (Nat.le_refl _) (.cells cs 96));clear hx hb;go_enter Tryz.func139, Tryz.ntmps139
 go_wp2
 go_ret
 exact ⟨rfl, HB.out _⟩
theorem z7y : ∀ (args : Array Value) (w : World), Sem.run prog (callFunc 139 args) w = .ok (.enter 139 args) w := fun _ _ => by kernel_rfl
theorem zah (w : World) (L : List MUnit) : zbf z3u w 145 (fun x => x.name) L := by
 intro W hb x hx cs hE;obtain ⟨rfl, _⟩ := hE;have HB := hid (fun cs => (Below.refl W.heap.size W).alloc (Nat.le_refl _) (.cells cs 158));clear hx hb;go_enter Tryz.func145, Tryz.ntmps145
 go_wp2
 go_ret
 exact ⟨rfl, HB.out _⟩
theorem z77 : ∀ (args : Array Value) (w : World), Sem.run prog (callFunc 145 args) w = .ok (.enter 145 args) w := fun _ _ => by kernel_rfl
theorem zaf (w : World) (L : List MBank) : zbf z1m w 142 (fun x => x.name) L := by
 intro W hb x hx cs hE;obtain ⟨_, rfl, _, Ab, cb, rfl, _⟩ := hE;have HB := hid (fun cs => (Below.refl W.heap.size W).alloc (Nat.le_refl _) (.cells cs 79));clear hx hb;go_enter Tryz.func142, Tryz.ntmps142
 go_wp2
 go_ret
 exact ⟨rfl, HB.out _⟩
theorem z75 : ∀ (args : Array Value) (w : World), Sem.run prog (callFunc 142 args) w = .ok (.enter 142 args) w := fun _ _ => by kernel_rfl
theorem zag (w : World) (L : List MOper) : zbf z1g w 171 (fun x => x.name) L := by
 intro W hb x hx cs hE;obtain ⟨_, rfl, _, _, _, _, ⟨Ab, cb, rfl, _⟩, _⟩ := hE;have HB := hid (fun cs => (Below.refl W.heap.size W).alloc (Nat.le_refl _) (.cells cs 86));clear hx hb;go_enter Tryz.func171, Tryz.ntmps171
 go_wp2
 go_ret
 exact ⟨rfl, HB.out _⟩
theorem z76 : ∀ (args : Array Value) (w : World), Sem.run prog (callFunc 171 args) w = .ok (.enter 171 args) w := fun _ _ => by kernel_rfl
theorem zc8 (w : World) (L : List MIns) : zbf insE w 147 (fun x => x.name) L := by
 intro W hb x hx cs hE;obtain ⟨_, _, rfl, _, _, _, ⟨Ab, cb, rfl, _⟩, ⟨Ac, cc, rfl, _⟩, _⟩ := hE;have HB := hid (fun cs => (Below.refl W.heap.size W).alloc (Nat.le_refl _) (.cells cs 83));clear hx hb;go_enter Tryz.func147, Tryz.ntmps147
 go_wp2
 go_ret
 exact ⟨rfl, HB.out _⟩
theorem z7x : ∀ (args : Array Value) (w : World), Sem.run prog (callFunc 147 args) w = .ok (.enter 147 args) w := fun _ _ => by kernel_rfl
theorem z2p (n a b : Int) (w : World) : Calls prog 137 #[.int .i64 n, .int .i64 a, .int .i64 b] w fun e w' => e = .returned (.bool (decide (a <= n /\ n <= b))) /\ w = w' := by
 by_cases h1 : a <= n
 ·by_cases h2 : n <= b
  ·rw [show decide (a <= n /\ n <= b) = true by simp [h1, h2]];go_enter Tryz.func137, Tryz.ntmps137
   go_wp2
   go_ret
   exact ⟨rfl, rfl⟩
  ·rw [show decide (a <= n /\ n <= b) = false by simp [h2]];go_enter Tryz.func137, Tryz.ntmps137
   go_wp2
   go_ret
   exact ⟨rfl, rfl⟩
 ·rw [show decide (a <= n /\ n <= b) = false by simp [h1]];go_enter Tryz.func137, Tryz.ntmps137
  go_wp2
  go_ret
  exact ⟨rfl, rfl⟩
theorem z2m (i : Int) (A : Option Addr) (n c : Nat) (w : World) : Calls prog 85 #[.int .i64 i, .slice A n c] w fun e w' => e = .returned (.bool (decide (0 <= i /\ i < n))) /\ w = w' := by
 by_cases h1 : 0 <= i
 ·by_cases h2 : i < n
  ·rw [show decide (0 <= i /\ i < n) = true by simp [h1, h2]];go_enter Tryz.func85, Tryz.ntmps85
   go_wp2
   go_ret
   exact ⟨rfl, rfl⟩
  ·rw [show decide (0 <= i /\ i < n) = false by simp [h2]];go_enter Tryz.func85, Tryz.ntmps85
   go_wp2
   go_ret
   exact ⟨rfl, rfl⟩
 ·rw [show decide (0 <= i /\ i < n) = false by simp [h1]];go_enter Tryz.func85, Tryz.ntmps85
  go_wp2
  go_ret
  exact ⟨rfl, rfl⟩
theorem z8z (i : Int) (A : Option Addr) (n c : Nat) (w : World) : Calls prog 161 #[.int .i64 i, .slice A n c] w fun e w' => e = .returned (.bool (decide (0 <= i /\ i < n))) /\ w = w' := by
 by_cases h1 : 0 <= i
 ·by_cases h2 : i < n
  ·rw [show decide (0 <= i /\ i < n) = true by simp [h1, h2]];go_enter Tryz.func161, Tryz.ntmps161
   go_wp2
   go_ret
   exact ⟨rfl, rfl⟩
  ·rw [show decide (0 <= i /\ i < n) = false by simp [h2]];go_enter Tryz.func161, Tryz.ntmps161
   go_wp2
   go_ret
   exact ⟨rfl, rfl⟩
 ·rw [show decide (0 <= i /\ i < n) = false by simp [h1]];go_enter Tryz.func161, Tryz.ntmps161
  go_wp2
  go_ret
  exact ⟨rfl, rfl⟩
theorem z8y (i : Int) (A : Option Addr) (n c : Nat) (w : World) : Calls prog 183 #[.int .i64 i, .slice A n c] w fun e w' => e = .returned (.bool (decide (0 <= i /\ i < n))) /\ w = w' := by
 by_cases h1 : 0 <= i
 ·by_cases h2 : i < n
  ·rw [show decide (0 <= i /\ i < n) = true by simp [h1, h2]];go_enter Tryz.func183, Tryz.ntmps183
   go_wp2
   go_ret
   exact ⟨rfl, rfl⟩
  ·rw [show decide (0 <= i /\ i < n) = false by simp [h2]];go_enter Tryz.func183, Tryz.ntmps183
   go_wp2
   go_ret
   exact ⟨rfl, rfl⟩
 ·rw [show decide (0 <= i /\ i < n) = false by simp [h1]];go_enter Tryz.func183, Tryz.ntmps183
  go_wp2
  go_ret
  exact ⟨rfl, rfl⟩
theorem z5x (i : Int) (A : Option Addr) (n c : Nat) (w : World) : Calls prog 184 #[.int .i64 i, .slice A n c] w fun e w' => e = .returned (.bool (decide (0 <= i /\ i < n))) /\ w = w' := by
 by_cases h1 : 0 <= i
 ·by_cases h2 : i < n
  ·rw [show decide (0 <= i /\ i < n) = true by simp [h1, h2]];go_enter Tryz.func184, Tryz.ntmps184
   go_wp2
   go_ret
   exact ⟨rfl, rfl⟩
  ·rw [show decide (0 <= i /\ i < n) = false by simp [h2]];go_enter Tryz.func184, Tryz.ntmps184
   go_wp2
   go_ret
   exact ⟨rfl, rfl⟩
 ·rw [show decide (0 <= i /\ i < n) = false by simp [h1]];go_enter Tryz.func184, Tryz.ntmps184
  go_wp2
  go_ret
  exact ⟨rfl, rfl⟩
def z2v (r : MReg) : Bool := decide (r.par = -1 /\ r.low = 0)
theorem z4d (w W : World) (x : MReg) (cs : List Value) (hE : regE W cs x) : Calls prog 84 #[.agg cs.toArray] W fun e w' => e = .returned (.bool (z2v x)) /\ Below W.heap.size W w' := by
 obtain ⟨rfl, _⟩ := hE;have HB := hid (fun cs => (Below.refl W.heap.size W).alloc (Nat.le_refl _) (.cells cs 96));unfold z2v;obtain ⟨p, hp⟩ : ∃ p, x.par = p := ⟨_, rfl⟩;obtain ⟨l, hl⟩ : ∃ l, x.low = l := ⟨_, rfl⟩;rw [hp, hl];clear hp hl;by_cases h1 : p = -1
 ·subst h1;by_cases h2 : l = 0
  ·subst h2;go_enter Tryz.func84, Tryz.ntmps84
   go_wp2
   go_ret
   exact ⟨rfl, HB.out _⟩
  ·have g : (l == 0) = false := by simp [h2]
   rw [show decide ((-1 : Int) = -1 /\ l = 0) = false by simp [h2]];clear h2;go_enter Tryz.func84, Tryz.ntmps84
   go_wp2
   go_ret
   exact ⟨by first | rfl | (rw [<- g]; rfl), HB.out _⟩
 ·have g : (p == -1) = false := by simp [h1]
  rw [show decide (p = -1 /\ l = 0) = false by simp [h1]];clear h1;go_enter Tryz.func84, Tryz.ntmps84
  go_wp2
  go_ret
  exact ⟨rfl, HB.out _⟩
end Go.Proofs.YtdmadnfadgggcaaGreatDoor
