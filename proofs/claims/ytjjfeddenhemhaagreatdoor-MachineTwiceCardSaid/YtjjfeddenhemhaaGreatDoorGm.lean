import Derived.Test.YtjjfeddenhemhaaGreatDoorGl
import Derived.Laws.BitsAllLaws
namespace Go.Proofs.YtjjfeddenhemhaaGreatDoor
open Go.RowKit Go.Instr Go.Sort
set_option linter.unusedVariables false
set_option linter.unusedSimpArgs false
set_option maxRecDepth 100000
set_option warningAsError false in
set_option maxHeartbeats 8000000 in
theorem za2 (W : World) (k : Nat) (m : Mach) (sr sb su si : Value) (B n : Nat) (D : DataW Unit) (K : ByteArray → Int) (bad : Bool) (hC : ChkAt W k m sr sb su si (.map (some B)) bad) (hkB : k < B)
 (hown : W.ownsMap Tryz.prog 9 (plainElem Tryz.prog 3) B n D) (hn9 : n ≤ 1000000) (hKD : z1l K D) (hadr : m.address = 16 ∨ m.address = 32) (hword : 1 ≤ m.word ∧ m.word ≤ 4)
 (V : World) (hVk : V.heap.size ≤ k) (hVW : Below V.heap.size V W) (hT : zh V) (hR : zd 4 regE V sr m.regs) (hL : zd 2 z1k V sb m.banks) (hU : zd 2 z4q V su m.units) (hbk : ∀ x ∈ m.banks, z4m m.regs x = true)
 (x : MIns) (cs : List Value) (hE : insE V cs x) (hlen : x.opers.length ≤ 1000) (hlene : x.effs.length ≤ 1000) (hpl : ∀ o ∈ x.opers, o.pieces.length ≤ 1000) (hok : ∀ f ∈ x.effs, z3f f) (hK0 : ∀ s, z2n s = true → s ≠ z1n → K s = 0) :
 Calls Tryz.prog 112 #[.pointer (some ⟨k, 0, none⟩), .agg cs.toArray] W fun e w' => e = .returned (.tuple #[]) ∧ Then7 k B W w' (bad || !(insR m K x)) ∧ ∃ D' n', n' ≤ n + 1000 ∧ w'.ownsMap Tryz.prog 9 (plainElem Tryz.prog 3) B n' D' ∧ z1l K D' := by
 have hk := hC.lt
 have hVs : V.heap.size ≤ W.heap.size := hVW.size
 have hBl : B < W.heap.size := hown.lt
 have hE' := hE
 obtain ⟨so, se, rfl, _, hmask, hmtch, hO0, hE0, hu1, hu2, hu3, hu4⟩ := hE
 have HO := Lib.hid hO0
 have HF := Lib.hid hE0
 obtain ⟨A, c, rfl, ho1, ho2, ho3, _⟩ := hO0
 obtain ⟨Ae, ce, rfl, he1, he2, he3, _⟩ := hE0
 obtain ⟨Au, cu, rfl, _⟩ := id hU
 obtain ⟨CS, hCS⟩ : ∃ CS : Array Value, CS = #[.string x.name, .int .u64 (x.mask : Nat), .int .u64 (x.mtch : Nat), .slice A x.opers.length c, .slice Ae x.effs.length ce, .int .i64 x.unit, .int .i64 x.busy, .int .i64 x.lat, .int .i64 x.slots] := ⟨_, rfl⟩
 obtain ⟨W0, hW0⟩ : ∃ W0, W0 = W.alloc (.cells CS 57) := ⟨_, rfl⟩
 have hb0 : Below W.heap.size W W0 := by rw [hW0]; exact (Below.refl _ _).alloc (Nat.le_refl _) _
 have hblk0 : W0.heap[W.heap.size]? = some (.cells CS 57) := by rw [hW0]; exact heap_alloc_new _ _
 have hl0 : W.heap.size < W0.heap.size := by rw [hW0]; simp
 have HI57 := Lib.hid (show (Tryz.prog.info? 57).map (·.size) = some CS.size by rw [hCS]; kernel_rfl)
 have i1 : W0.cell? ⟨W.heap.size, 1, none⟩ = some (.int .u64 (x.mask : Nat)) := zb hblk0 (by rw [hCS]; rfl)
 have i2 : W0.cell? ⟨W.heap.size, 2, none⟩ = some (.int .u64 (x.mtch : Nat)) := zb hblk0 (by rw [hCS]; rfl)
 have i4 : W0.cell? ⟨W.heap.size, 4, none⟩ = some (.slice Ae x.effs.length ce) := zb hblk0 (by rw [hCS]; rfl)
 have i5 : W0.cell? ⟨W.heap.size, 5, none⟩ = some (.int .i64 x.unit) := zb hblk0 (by rw [hCS]; rfl)
 have i6 : W0.cell? ⟨W.heap.size, 6, none⟩ = some (.int .i64 x.busy) := zb hblk0 (by rw [hCS]; rfl)
 have i7 : W0.cell? ⟨W.heap.size, 7, none⟩ = some (.int .i64 x.lat) := zb hblk0 (by rw [hCS]; rfl)
 have i8 : W0.cell? ⟨W.heap.size, 8, none⟩ = some (.int .i64 x.slots) := zb hblk0 (by rw [hCS]; rfl)
 have hC0 := hC.later hb0
 have hk0 := hC0.lt
 have HT0 := Lib.hid (Then8.grown hb0 hk hC.c8 hC.fz)
 have hV0 : Below V.heap.size V W0 := hVW.trans (hb0.mono hVs)
 have HV0 := Lib.hid hV0
 have HC0 := Lib.hid hC0
 have d1 := hC0.c1
 have d5 := hC0.c5
 obtain ⟨jm, hjm⟩ : ∃ z : Nat, z5s 3 x.effs = z := ⟨_, rfl⟩
 obtain ⟨tr, htr⟩ : ∃ z : Nat, z5s 4 x.effs = z := ⟨_, rfl⟩
 have HJ := Lib.hid (show ∀ d os, Calls Tryz.prog 120 #[.slice Ae x.effs.length ce, .int .u8 3] (grow (redrawn W0 d) os) fun e w'' => e = .returned (.int .i64 jm) ∧ ∃ p : Regrown, w'' = grow (redrawn W0 p.d) p.os from fun d os => Calls.regrown_of (by
  have hX := hV0.trans ((below_regrown W0 d os).mono hV0.size)
  have h := z8c (grow (redrawn W0 d) os) 3 _ x.effs (HF.out.kept (fun cs x hx => effE.kept hx hX) hX) hlene
  rw [hjm] at h
  exact h))
 have HTR := Lib.hid (show ∀ d os, Calls Tryz.prog 120 #[.slice Ae x.effs.length ce, .int .u8 4] (grow (redrawn W0 d) os) fun e w'' => e = .returned (.int .i64 tr) ∧ ∃ p : Regrown, w'' = grow (redrawn W0 p.d) p.os from fun d os => Calls.regrown_of (by
  have hX := hV0.trans ((below_regrown W0 d os).mono hV0.size)
  have h := z8c (grow (redrawn W0 d) os) 4 _ x.effs (HF.out.kept (fun cs x hx => effE.kept hx hX) hX) hlene
  rw [htr] at h
  exact h))
 have J1 := fun d os => cell_regrown i1 d os
 have J2 := fun d os => cell_regrown i2 d os
 have J4 := fun d os => cell_regrown i4 d os
 have J5 := fun d os => cell_regrown i5 d os
 have J6 := fun d os => cell_regrown i6 d os
 have J7 := fun d os => cell_regrown i7 d os
 have J8 := fun d os => cell_regrown i8 d os
 have E1 := fun d os => cell_regrown d1 d os
 have E5 := fun d os => cell_regrown d5 d os
 have HW := Lib.hid hW0
 show Calls Tryz.prog 112 #[.pointer (some ⟨k, 0, none⟩), .agg #[.string x.name, .int .u64 (x.mask : Nat), .int .u64 (x.mtch : Nat), .slice A x.opers.length c, .slice Ae x.effs.length ce, .int .i64 x.unit, .int .i64 x.busy, .int .i64 x.lat, .int .i64 x.slots]] W _
 rw [← hCS]
 have HCS := Lib.hid hCS
 have HBL := Lib.hid (show ∀ (X : World) (b : Bool), Then8 k W0 X b → X.heap[W.heap.size]? = some (.cells CS 57) from fun X b h => by rw [h.block _ hl0 (by omega)]; exact hblk0)
 have HBX := Lib.hid (below_regrown W0)
 have HROW := Lib.hid (show ∀ X : World, X.heap[W.heap.size]? = some (.cells CS 57) → ∀ j v, CS[j]? = some v → X.cell? ⟨W.heap.size, 0 + j, none⟩ = some v from fun X hX j v hj => by
  rw [Nat.zero_add]
  exact zb hX hj)
 have HCELL := Lib.hid (show ∀ X : World, X.heap[W.heap.size]? = some (.cells CS 57) → X.cell? ⟨W.heap.size, 3, none⟩ = some (.slice A x.opers.length c) ∧ X.cell? ⟨W.heap.size, 4, none⟩ = some (.slice Ae x.effs.length ce) from fun X hX => ⟨zb hX (by rw [hCS]; rfl), zb hX (by rw [hCS]; rfl)⟩)
 have HM9 := Lib.hid (show ∀ (a1 a2 a3 a4 a5 a6 a7 a8 a9 : Bool) X, Below W0.heap.size W0 X → Calls Tryz.prog 99 #[.pointer (some ⟨k, 0, none⟩), .slice (some ⟨X.heap.size, 0, none⟩) 9 9] (X.alloc (.cells #[.bool a1, .bool a2, .bool a3, .bool a4, .bool a5, .bool a6, .bool a7, .bool a8, .bool a9] 4)) fun e w' => e = .returned (.tuple #[]) ∧ Then8 k W0 w' (bad || !(a1 && (a2 && (a3 && (a4 && (a5 && (a6 && (a7 && (a8 && a9))))))))) from fun a1 a2 a3 a4 a5 a6 a7 a8 a9 X hX => by
  refine (zxz X k m sr sb _ si _ bad (hC0.later hX) [a1, a2, a3, a4, a5, a6, a7, a8, a9] (by simp)).mono fun e w' ⟨h1, h2⟩ => ⟨h1, ?_⟩
  have e1 : ([a1, a2, a3, a4, a5, a6, a7, a8, a9].all id) = (a1 && (a2 && (a3 && (a4 && (a5 && (a6 && (a7 && (a8 && a9)))))))) := by simp [List.all_cons]
  rw [e1] at h2
  exact (Then8.grown hX hk0 hC0.c8 hC0.fz).trans h2)
 have HOP := Lib.hid (show ∀ (b : Bool) X, Then8 k W0 X b → Calls Tryz.prog 122 #[.pointer (some ⟨k, 0, none⟩), .agg CS] X fun e w' => e = .returned (.tuple #[]) ∧ Then8 k W0 w' (b || !(z5w m.word m.address m.banks x.mask x.opers)) from fun b X hX => by
  have hVX : Below V.heap.size V X := hV0.trans (hX.below hVk (Nat.le_trans hVk (Nat.le_of_lt hk0)))
  have h := z7k X k m sr sb _ si _ b (hX.chk hC0) (by omega) hword V hVk hVX hL (fun y hy => by have := hbk y hy; unfold z4m at this; simp at this; exact this.1) x _ hE' hlen hpl
  rw [hCS]
  exact h.mono fun e w' ⟨h1, h2⟩ => ⟨h1, hX.trans h2⟩)
 have HMSK := Lib.hid (fun w => z33 (8 * m.word).toNat w (by omega) (by omega))
 have hw8 : (((8 * m.word).toNat : Nat) : Int) = 8 * m.word := by omega
 obtain ⟨mw, hmw⟩ : ∃ z, (8 * m.word).toNat = z := ⟨_, rfl⟩
 rw [hmw] at HMSK hw8
 obtain ⟨mk8, hmk8⟩ : ∃ z, mk mw = z := ⟨_, rfl⟩
 rw [hmk8] at HMSK
 rw [hw8] at HMSK
 obtain ⟨W8, hW8⟩ : ∃ z, m.word = z := ⟨_, rfl⟩
 rw [hW8] at d1 E1 HMSK
 have hwr : wrap64 (8 * W8) = 8 * W8 := zg _ (by omega) (by omega)
 clear hw8
 obtain ⟨r, hr⟩ : ∃ r, (bad || !(insR m K x)) = r := ⟨_, rfl⟩
 have HR := Lib.hid hr
 obtain ⟨MK, hMK⟩ : ∃ z, x.mask = z := ⟨_, rfl⟩
 obtain ⟨MT, hMT⟩ : ∃ z, x.mtch = z := ⟨_, rfl⟩
 obtain ⟨xu, hxu⟩ : ∃ z, x.unit = z := ⟨_, rfl⟩
 obtain ⟨xb, hxb⟩ : ∃ z, x.busy = z := ⟨_, rfl⟩
 obtain ⟨xl, hxl⟩ : ∃ z, x.lat = z := ⟨_, rfl⟩
 obtain ⟨xs, hxs⟩ : ∃ z, x.slots = z := ⟨_, rfl⟩
 obtain ⟨nu, hnu⟩ : ∃ z, m.units.length = z := ⟨_, rfl⟩
 obtain ⟨ne, hne⟩ : ∃ z, x.effs.length = z := ⟨_, rfl⟩
 rw [hMK] at i1 J1
 rw [hMT] at i2 J2
 rw [hne] at i4 J4 HJ HTR HCELL HF
 obtain ⟨no, hno⟩ : ∃ z, x.opers.length = z := ⟨_, rfl⟩
 rw [hno] at HCELL HO
 rw [hxu] at i5 J5
 rw [hxb] at i6 J6
 rw [hxl] at i7 J7
 rw [hxs] at i8 J8
 rw [hnu] at d5 E5
 have hne4 : ne ≤ 9223372036854775807 := by omega
 rw [hr]
 have HNO := Lib.hid hno
 have HNE := Lib.hid hne
 have HN1 := Lib.hid (show no ≤ 1000 by omega)
 have HOWN := Lib.hid (z1s hown hb0)
 have HW0lt := Lib.hid hl0
 have HBW := Lib.hid (show B < W0.heap.size by omega)
 have HW0s := Lib.hid (Nat.le_refl W0.heap.size)
 have HBL7 := Lib.hid (show ∀ (X : World) (b : Bool), Then7 k B W0 X b → X.heap[W.heap.size]? = some (.cells CS 57) from fun X b h => by rw [h.block _ hl0 (by omega) (by omega)]; exact hblk0)
 have HSH := Lib.hid hT
 have HVs := Lib.hid (show V.heap.size ≤ W0.heap.size by omega)
 have HRG := Lib.hid hR
 have HLB := Lib.hid hL
 have hno4 : no ≤ 9223372036854775807 := by omega
 clear hCS hr hW0 hb0 hblk0 hl0 hC hC0 hV0 hown hE' hR hL hU
 go_enter Tryz.func112, Tryz.ntmps112
 go_wp2_with fail
 rw [← HW.out]
 refine wp_region_quiet_below (by kernel_rfl) (by kernel_rfl) ?_
 repeat (first | go_big_quiet_step (first | (with_reducible exact HJ.out _ _) | (with_reducible exact HTR.out _ _)) | quiet_step (first | (with_reducible exact HJ.out _ _) | (with_reducible exact HTR.out _ _)))
 refine wpQuiet_nil ?_
 intro G hG
 have k1 : G.cell? ⟨W.heap.size, 1, none⟩ = some (.int .u64 MK) := by obtain ⟨p, rfl⟩ := hG; exact J1 _ _
 have k2 : G.cell? ⟨W.heap.size, 2, none⟩ = some (.int .u64 MT) := by obtain ⟨p, rfl⟩ := hG; exact J2 _ _
 have k4 : G.cell? ⟨W.heap.size, 4, none⟩ = some (.slice Ae ne ce) := by obtain ⟨p, rfl⟩ := hG; exact J4 _ _
 have k5 : G.cell? ⟨W.heap.size, 5, none⟩ = some (.int .i64 xu) := by obtain ⟨p, rfl⟩ := hG; exact J5 _ _
 have k6 : G.cell? ⟨W.heap.size, 6, none⟩ = some (.int .i64 xb) := by obtain ⟨p, rfl⟩ := hG; exact J6 _ _
 have k7 : G.cell? ⟨W.heap.size, 7, none⟩ = some (.int .i64 xl) := by obtain ⟨p, rfl⟩ := hG; exact J7 _ _
 have k8 : G.cell? ⟨W.heap.size, 8, none⟩ = some (.int .i64 xs) := by obtain ⟨p, rfl⟩ := hG; exact J8 _ _
 have g1 : G.cell? ⟨k, 1, none⟩ = some (.int .i64 W8) := by obtain ⟨p, rfl⟩ := hG; exact E1 _ _
 have g5 : G.cell? ⟨k, 5, none⟩ = some (.slice Au nu cu) := by obtain ⟨p, rfl⟩ := hG; exact E5 _ _
 have hbG : Below W0.heap.size W0 G := by obtain ⟨p, rfl⟩ := hG; exact HBX.out _ _
 clear hG J1 J2 J4 J5 J6 J7 J8 E1 E5 i1 i2 i4 i5 i6 i7 i8 d1 d5
 have L1 := fun d os => cell_regrown k1 d os
 have L2 := fun d os => cell_regrown k2 d os
 have L4 := fun d os => cell_regrown k4 d os
 have L5 := fun d os => cell_regrown k5 d os
 have L6 := fun d os => cell_regrown k6 d os
 have L7 := fun d os => cell_regrown k7 d os
 have L8 := fun d os => cell_regrown k8 d os
 have M1 := fun d os => cell_regrown g1 d os
 have M5 := fun d os => cell_regrown g5 d os
 obtain ⟨cu5, hc5⟩ : ∃ z, decide (0 ≤ xu ∧ xu < (nu : Int)) = z := ⟨_, rfl⟩
 obtain ⟨cb6, hc6⟩ : ∃ z, decide (1 ≤ xb ∧ xb ≤ 15) = z := ⟨_, rfl⟩
 obtain ⟨cl7, hc7⟩ : ∃ z, decide (1 ≤ xl ∧ xl ≤ 15) = z := ⟨_, rfl⟩
 obtain ⟨cs8, hc8⟩ : ∃ z, decide (0 ≤ xs ∧ xs ≤ 2) = z := ⟨_, rfl⟩
 have HI5 := Lib.hid (show ∀ d os, Calls Tryz.prog 121 #[.int .i64 xu, .slice Au nu cu] (grow (redrawn G d) os) fun e w'' => e = .returned (.bool cu5) ∧ ∃ p : Regrown, w'' = grow (redrawn G p.d) p.os from fun d os => zl (by rw [← hc5]; exact zfc _ _ _ _ _))
 have HI6 := Lib.hid (show ∀ d os, Calls Tryz.prog 101 #[.int .i64 xb, .int .i64 1, .int .i64 15] (grow (redrawn G d) os) fun e w'' => e = .returned (.bool cb6) ∧ ∃ p : Regrown, w'' = grow (redrawn G p.d) p.os from fun d os => zl (by rw [← hc6]; exact z2p _ _ _ _))
 have HI7 := Lib.hid (show ∀ d os, Calls Tryz.prog 101 #[.int .i64 xl, .int .i64 1, .int .i64 15] (grow (redrawn G d) os) fun e w'' => e = .returned (.bool cl7) ∧ ∃ p : Regrown, w'' = grow (redrawn G p.d) p.os from fun d os => zl (by rw [← hc7]; exact z2p _ _ _ _))
 have HI8 := Lib.hid (show ∀ d os, Calls Tryz.prog 101 #[.int .i64 xs, .int .i64 0, .int .i64 2] (grow (redrawn G d) os) fun e w'' => e = .returned (.bool cs8) ∧ ∃ p : Regrown, w'' = grow (redrawn G p.d) p.os from fun d os => zl (by rw [← hc8]; exact z2p _ _ _ _))
 have HIM := Lib.hid (show ∀ d os, Calls Tryz.prog 32 #[.int .i64 (8 * W8)] (grow (redrawn G d) os) fun e w'' => e = .returned (.int .u64 mk8) ∧ ∃ p : Regrown, w'' = grow (redrawn G p.d) p.os from fun d os => zl (HMSK.out _))
 have h2v : (bits BinOp.andNot IntKind.u64 (MT : Int) (MK : Int) == 0) = decide (MT &&& (18446744073709551615 - MK) = 0) := by
  rw [u64_andNot_nat MT MK (by rw [← hMT]; exact hmtch) (by rw [← hMK]; exact hmask)]
  by_cases h : MT &&& (18446744073709551615 - MK) = 0 <;> simp [h] <;> omega
 have hins : ∀ p4 s9 : Bool, p4 = (decide (tr = 0) || decide (ne = 1)) → s9 = (decide (xs = 0) || decide (0 < jm)) → (decide (MK ≤ mk8) && ((bits BinOp.andNot IntKind.u64 (MT : Int) (MK : Int) == 0) && (decide ((jm : Int) ≤ 1) && (p4 && (cu5 && (cb6 && (cl7 && (cs8 && s9)))))))) = z5g m.word m.units.length x := fun p4 s9 h4 h9 => by
  unfold z5g
  rw [h2v, h4, h9, hMK, hMT, hjm, htr, hne, hxu, hxb, hxl, hxs, hnu, hmw, hmk8, hc5, hc6, hc7, hc8, show decide ((jm : Int) ≤ 1) = decide (jm ≤ 1) by simp; omega]
 have HINS := Lib.hid hins
 obtain ⟨etr', exs'⟩ : (tr = 0 ∨ ¬ tr = 0) ∧ (xs = 0 ∨ ¬ xs = 0) := ⟨Classical.em _, Classical.em _⟩
 clear hins h2v hc5 hc6 hc7 hc8 hMK hMT hxu hxb hxl hxs hnu hne hno hmw hmk8 hW8 hjm htr
 rcases etr' with etr | etr <;> rcases exs' with exs | exs
 all_goals first
  | (subst etr
     subst exs
     have HHD := Lib.hid (HINS.out true true (by simp) (by simp)))
  | (subst etr
     have g8 : (xs == 0) = false := by simp [exs]
     have HHD := Lib.hid (HINS.out true (decide (0 < jm)) (by simp) (by simp [exs])))
  | (have g4 : ((tr : Int) == 0) = false := by (simp; omega)
     subst exs
     have HHD := Lib.hid (HINS.out ((ne : Int) == 1) true (by simp [etr]; rw [Bool.eq_iff_iff]; simp; omega) (by simp))
     clear etr)
  | (have g4 : ((tr : Int) == 0) = false := by (simp; omega)
     have g8 : (xs == 0) = false := by simp [exs]
     have HHD := Lib.hid (HINS.out ((ne : Int) == 1) (decide (0 < jm)) (by simp [etr]; rw [Bool.eq_iff_iff]; simp; omega) (by simp [exs]))
     clear etr)
 all_goals
  go_wp2_with fail
  refine zi 50 (.pointer (some ⟨k, 0, none⟩)) (by kernel_rfl) (by kernel_rfl) (fun _ _ _ h => h) rfl (fun _ => rfl) ?_
  simp only [List.take_succ_cons, List.take_zero, List.drop_succ_cons, List.drop_zero]
  repeat (first | go_big_quiet_step (first | (with_reducible exact HIM.out _ _) | (with_reducible exact HI5.out _ _) | (with_reducible exact HI6.out _ _) | (with_reducible exact HI7.out _ _) | (with_reducible exact HI8.out _ _)) | quiet_step (first | (with_reducible exact HIM.out _ _) | (with_reducible exact HI5.out _ _) | (with_reducible exact HI6.out _ _) | (with_reducible exact HI7.out _ _) | (with_reducible exact HI8.out _ _)))
  refine wpQuiet_nil ?_
  intro X hX
  have hbX : Below G.heap.size G X := by obtain ⟨p, rfl⟩ := hX; exact below_regrown _ _ _
  clear hX
  have hbX := hbG.trans (hbX.mono hbG.size)
  clear L1 L2 L4 L5 L6 L7 L8 M1 M5 k1 k2 k4 k5 k6 k7 k8 g1 g5
  go_wp2_with (first
   | (refine z1i rfl 57 _ rfl W.heap.size 0 rfl CS _ Tryz.underlying57 rfl HI57.out (HROW.out _ (HBL.out _ _ hT5)) ?_)
   | (go_at_call 99; (with_reducible refine (HM9.out _ _ _ _ _ _ _ _ _ X hbX).mono ?_); rintro e w5 ⟨rfl, hT5⟩)
   | (go_at_call 122; (with_reducible refine (HOP.out _ w5 hT5).mono ?_); rintro e w6 ⟨rfl, hT6⟩; have ⟨b2, hb2, hT7⟩ : ∃ b2, _ = b2 ∧ Then8 k W0 w6 b2 := ⟨_, rfl, hT6⟩; have HB2 := Lib.hid hb2; clear hb2 hT6; have hc8 := hT7.c8; have q3 := (HCELL.out _ (HBL.out _ _ hT7)).1; have q4 := (HCELL.out _ (HBL.out _ _ hT7)).2; cases b2))
  ·have hb2 := HB2.out
   simp only [Bool.or_eq_false_iff, Bool.not_eq_false'] at hb2
   obtain ⟨⟨hbad, hcond⟩, hopr⟩ := hb2
   subst hbad
   have hdd := hcond
   rw [HHD.out] at hcond
   have HHEAD := Lib.hid hcond
   have HOPR := Lib.hid hopr
   have hnm : ∀ o ∈ x.opers, z2n o.name = true ∧ o.name ≠ z1n ∧ zcd m.regs m.banks o := fun o ho => by
    unfold z5w at hopr
    simp only [Bool.and_eq_true] at hopr
    obtain ⟨h1, oth, h2⟩ := zj0 _ _ _ hopr.2 o ho
    exact ⟨zaq _ _ hopr.1 _ (List.mem_map_of_mem ho), h1, znm h2 hbk⟩
   have HNM := Lib.hid hnm
   have hwB : w6.heap[B]? = W0.heap[B]? := hT7.block _ (Nat.lt_of_lt_of_le HBW.out (by have := HW0s.out; omega)) (by omega)
   have HS1 := Lib.hid (show ∃ D2, Then7 k B W0 w6 false ∧ w6.ownsMap Tryz.prog 9 (plainElem Tryz.prog 3) B (n + 0) D2 ∧ z1l (z3h m.address m.regs m.banks K (x.opers.take 0)) D2 from ⟨D, hT7.to7 B, z9k HOWN.out hwB, by rw [List.take_zero]; exact hKD⟩)
   clear hT7 hwB hnm hcond hopr hdd hc8 q4 HM9 HOP HJ HTR HIM HI5 HI6 HI7 HI8 HMSK
   go_loopw [81] (fun v wr => ∃ i : Nat, v = .int .i64 i ∧ i ≤ no ∧ Hid (∃ D2, Then7 k B W0 wr false ∧ wr.ownsMap Tryz.prog 9 (plainElem Tryz.prog 3) B (n + i) D2 ∧ z1l (z3h m.address m.regs m.banks K (x.opers.take i)) D2)) (fun v _ => no - (intOf v).toNat)
   case atStart => exact ⟨0, rfl, Nat.zero_le _, Lib.hid HS1.out⟩
   case round =>
    obtain ⟨i, rfl, hi, HI⟩ := hrel
    obtain ⟨D2, hT, hown2, hK2⟩ := HI.out
    by_cases hlt : i < no
    ·obtain ⟨y, hy⟩ : ∃ z, x.opers[i]? = some z := ⟨_, List.getElem?_eq_getElem (by rw [HNO.out]; exact hlt)⟩
     have hVr : Below V.heap.size V wr := HV0.out.trans (hT.below hVk (Nat.le_trans hVk (Nat.le_of_lt hkB)) HVs.out)
     have hO2 := HO.out
     obtain ⟨A', c', e1, _, _, _, hall⟩ := hO2
     obtain ⟨b, o, cs, e2, hb, hcl, hcell, hE⟩ := hall i y hy
     obtain ⟨rfl, rfl⟩ : A = A' ∧ c = c' := by cases e1; exact ⟨rfl, rfl⟩
     subst e2
     have hEy := hE
     obtain ⟨sp, rfl, hys, _, _, _, hsp, _⟩ := hE
     obtain ⟨Ap, cp, rfl, _⟩ := hsp
     obtain ⟨np, hnp⟩ : ∃ z, y.pieces.length = z := ⟨_, rfl⟩
     rw [hnp] at hcell hEy
     have p0 : wr.cell? ⟨b, o + i * 6, none⟩ = some (.string y.name) := (hVr.cell (p := ⟨b, o + i * 6, none⟩) hb).trans (by simpa using hcell 0 _ rfl)
     have p1 : wr.cell? ⟨b, o + i * 6 + 1, none⟩ = some (.int .u8 (y.kind : Nat)) := (hVr.cell (p := ⟨b, o + i * 6 + 1, none⟩) hb).trans (hcell 1 _ rfl)
     have p2 : wr.cell? ⟨b, o + i * 6 + 2, none⟩ = some (.int .i64 y.bank) := (hVr.cell (p := ⟨b, o + i * 6 + 2, none⟩) hb).trans (hcell 2 _ rfl)
     have p3 : wr.cell? ⟨b, o + i * 6 + 3, none⟩ = some (.int .i64 y.scale) := (hVr.cell (p := ⟨b, o + i * 6 + 3, none⟩) hb).trans (hcell 3 _ rfl)
     have p4 : wr.cell? ⟨b, o + i * 6 + 4, none⟩ = some (.slice Ap np cp) := (hVr.cell (p := ⟨b, o + i * 6 + 4, none⟩) hb).trans (hcell 4 _ rfl)
     have p5 : wr.cell? ⟨b, o + i * 6 + 5, none⟩ = some (.int .i64 y.tied) := (hVr.cell (p := ⟨b, o + i * 6 + 5, none⟩) hb).trans (hcell 5 _ rfl)
     have hCw := hT.chk HC0.out
     have hkw := hCw.lt
     obtain ⟨W1, hW1⟩ : ∃ W1, W1 = wr.alloc (.cells #[.string y.name, .int .u8 (y.kind : Nat), .int .i64 y.bank, .int .i64 y.scale, .slice Ap np cp, .int .i64 y.tied] 60) := ⟨_, rfl⟩
     have HW1 := Lib.hid hW1
     have hb1 : Below wr.heap.size wr W1 := by rw [hW1]; exact (Below.refl _ _).alloc (Nat.le_refl _) _
     have hblk1 := z82 wr (.string y.name) (.int .u8 (y.kind : Nat)) (.int .i64 y.bank) (.int .i64 y.scale) (.slice Ap np cp) (.int .i64 y.tied) _ rfl
     rw [← hW1] at hblk1
     have f0 : W1.cell? ⟨wr.heap.size, 0, none⟩ = some (.string y.name) := zb hblk1 rfl
     have f1 : W1.cell? ⟨wr.heap.size, 1, none⟩ = some (.int .u8 (y.kind : Nat)) := zb hblk1 rfl
     have f2 : W1.cell? ⟨wr.heap.size, 2, none⟩ = some (.int .i64 y.bank) := zb hblk1 rfl
     have f3 : W1.cell? ⟨wr.heap.size, 3, none⟩ = some (.int .i64 y.scale) := zb hblk1 rfl
     have f4 : W1.cell? ⟨wr.heap.size, 4, none⟩ = some (.slice Ap np cp) := zb hblk1 rfl
     have f5 : W1.cell? ⟨wr.heap.size, 5, none⟩ = some (.int .i64 y.tied) := zb hblk1 rfl
     have d7 := (hb1.cell (p := ⟨k, 7, none⟩) hkw).trans hCw.c7
     have F0 := fun d os => cell_regrown f0 d os
     have F1 := fun d os => cell_regrown f1 d os
     have F2 := fun d os => cell_regrown f2 d os
     have F3 := fun d os => cell_regrown f3 d os
     have F4 := fun d os => cell_regrown f4 d os
     have F5 := fun d os => cell_regrown f5 d os
     have D7 := fun d os => cell_regrown d7 d os
     have hbX : ∀ X, Below W1.heap.size W1 X → Below wr.heap.size wr X := fun X hX => hb1.trans (hX.mono hb1.size)
     obtain ⟨wo, hwo⟩ : ∃ z, z1q m.address m.regs m.banks y = z := ⟨_, rfl⟩
     have HWO := Lib.hid (show ∀ d os, Calls Tryz.prog 123 #[.pointer (some ⟨k, 0, none⟩), .agg #[.string y.name, .int .u8 (y.kind : Nat), .int .i64 y.bank, .int .i64 y.scale, .slice Ap np cp, .int .i64 y.tied]] (grow (redrawn W1 d) os) fun e w'' => e = .returned (.int .i64 wo) ∧ ∃ p : Regrown, w'' = grow (redrawn W1 p.d) p.os from fun d os => Calls.regrown_of (by
      have hX := hbX _ (below_regrown W1 d os)
      have hcx := hCw.later hX
      have hVX := hVr.trans (hX.mono hVr.size)
      have h := z9x (grow (redrawn W1 d) os) k m.address m.regs m.banks sr sb hcx.lt hcx.c2 hcx.c3 hcx.c4 (HRG.out.kept (fun cs x hx => regE.kept hx hVX) hVX) (HLB.out.kept (fun cs x hx => z1k.kept hx hVX) hVX) y _ (hEy.kept hVX) (HNM.out y (List.mem_of_getElem? hy)).2.2
      rw [hwo] at h
      exact h))
     have HPOST := Lib.hid (show ∀ X, Below W1.heap.size W1 X → X.ownsMap Tryz.prog 9 (plainElem Tryz.prog 3) B (n + i) D2 ∧ ∀ w4, w4.ownsMap Tryz.prog 9 (plainElem Tryz.prog 3) B (n + i + 1) (D2.put (zk y.name) (.lit (.int .i64 wo))) → X.mapTurned w4 B → Then7 k B W0 w4 false ∧ w4.ownsMap Tryz.prog 9 (plainElem Tryz.prog 3) B (n + (i + 1)) (D2.put (zk y.name) (.lit (.int .i64 wo))) ∧ z1l (z3h m.address m.regs m.banks K (x.opers.take (i + 1))) (D2.put (zk y.name) (.lit (.int .i64 wo))) from fun X hX => by
      have hX1 := hbX X hX
      refine ⟨z1s hown2 hX1, fun w4 h4 ht4 => ⟨?_, h4, ?_⟩⟩
      ·have h5 : Then7 k B W0 X false := hT.trans ((Then8.grown hX1 hkw hCw.c8 hCw.fz).to7 B)
       exact h5.trans (Then7.turned ht4 (by omega) h5.c8 h5.fz)
      ·have htk2 : x.opers.take (i + 1) = x.opers.take i ++ [y] := by rw [List.take_add_one, hy]; rfl
       rw [htk2, zav, hwo]
       exact z7w hK2 _ _)
     have HLT := Lib.hid hlt
     have HNS := Lib.hid hys
     have HNI := Lib.hid (show n + i < maxLen by have := HN1.out; unfold maxLen; omega)
     have HWW := Lib.hid (show (Lit.int .i64 wo).wf = true by
      rw [← hwo]
      exact zn7 HRG.out (by omega) y)
     have hin : (i : Int) < (no : Int) := by omega
     obtain ⟨YN, hYN⟩ : ∃ z, y.name = z := ⟨_, rfl⟩
     obtain ⟨y1, h1⟩ : ∃ z : Int, (y.kind : Int) = z := ⟨_, rfl⟩
     obtain ⟨y2, h2⟩ : ∃ z : Int, y.bank = z := ⟨_, rfl⟩
     obtain ⟨y3, h3⟩ : ∃ z : Int, y.scale = z := ⟨_, rfl⟩
     obtain ⟨y5, h5⟩ : ∃ z : Int, y.tied = z := ⟨_, rfl⟩
     rw [hYN] at p0 f0 F0 HWO HW1 HPOST HNS
     rw [h1] at p1 f1 F1 HWO HW1
     rw [h2] at p2 f2 F2 HWO HW1
     rw [h3] at p3 f3 F3 HWO HW1
     rw [h5] at p5 f5 F5 HWO HW1
     clear hT hown2 hK2 hVr e1 hall hcell hcl hEy hy hW1 hblk1 hbX hwo hYN h1 h2 h3 h5 HI hb1 hCw hys hnp
     go_wp2_with fail
     rw [← HW1.out]
     refine z1r 9 (by kernel_rfl) (by kernel_rfl) ?_
     simp only [List.take_succ_cons, List.take_zero, List.drop_succ_cons, List.drop_zero]
     repeat (first | go_big_quiet_step (with_reducible exact HWO.out _ _) | quiet_step (with_reducible exact HWO.out _ _))
     refine wpQuiet_nil ?_
     intro X hX
     have hbX : Below W1.heap.size W1 X := by obtain ⟨p, rfl⟩ := hX; exact below_regrown _ _ _
     have HPX := Lib.hid (HPOST.out X hbX)
     clear hX hbX f0 f1 f2 f3 f4 f5 F0 F1 F2 F3 F4 F5 d7 D7 p0 p1 p2 p3 p4 p5
     refine wpList_mapUpdate_in _ rfl _ _ _ 105 rfl 9 3 (Maps.string_keyed Tryz.underlying9) Tryz.underlying105 _ B (n + i) D2 rfl HPX.out.1 HNI.out _ _ _ rfl rfl (Go.WideMaps.keyOf_string_mk Tryz.underlying9 HNS.out) _ _ (plainElem_int Tryz.underlying3 HWW.out) ?_
     intro w4 hown4 ht4
     have HP4 := Lib.hid (HPX.out.2 w4 hown4 ht4)
     clear hown4 ht4
     go_wp2
     go_roundw
     case rel => exact ⟨i + 1, by first | rfl | go_num | (congr 1), by have := HLT.out; omega, Lib.hid ⟨_, HP4.out⟩⟩
     case measure => simp only [intOf]; have := HLT.out; omega
    ·obtain rfl : i = no := by omega
     rw [List.take_of_length_le (by rw [HNO.out]; exact Nat.le_refl _)] at hK2
     have q4 := (HCELL.out _ (HBL7.out _ _ hT)).2
     have HS2 := Lib.hid (show ∃ b D3, Then7 k B W0 wr b ∧ (b || !((x.effs.drop 0).all (effR (z3h m.address m.regs m.banks K x.opers) m.address m.regs m.banks x.opers))) = r ∧ wr.ownsMap Tryz.prog 9 (plainElem Tryz.prog 3) B (n + i) D3 ∧ z1l (z3h m.address m.regs m.banks K x.opers) D3 from ⟨false, D2, hT, by
      rw [← HR.out, List.drop_zero]
      unfold insR
      rw [HHEAD.out, HOPR.out]
      simp, hown2, hK2⟩)
     obtain ⟨Z, hZs, hZ⟩ : ∃ Z : Array Value, Z.size = 21 ∧ ∀ w, (Instr.alloc 79 true (.tuple #[])).run Tryz.prog w = .ok (.pointer (some ⟨w.heap.size, 0, none⟩)) (w.alloc (.cells Z 79)) :=
      ⟨#[.int .u8 0, .int .i64 0, .int .i64 0, .int .u8 0, .int .i64 0, .int .u64 0, .string ⟨#[]⟩, .int .i64 0, .slice none 0 0, .int .u8 0, .int .i64 0, .int .u64 0, .string ⟨#[]⟩, .int .i64 0, .slice none 0 0, .int .u8 0, .int .i64 0, .int .u64 0, .string ⟨#[]⟩, .int .i64 0, .slice none 0 0], rfl, fun w => by kernel_rfl⟩
     have HZ := Lib.hid hZ
     have HZS := Lib.hid hZs
     clear hZ hZs hT hown2 hK2 HI hlt hi
     go_wp2
     go_loopw [98] (fun v wr => ∃ j : Nat, v = .int .i64 j ∧ j ≤ ne ∧ Hid (∃ b D3, Then7 k B W0 wr b ∧ (b || !((x.effs.drop j).all (effR (z3h m.address m.regs m.banks K x.opers) m.address m.regs m.banks x.opers))) = r ∧ wr.ownsMap Tryz.prog 9 (plainElem Tryz.prog 3) B (n + i) D3 ∧ z1l (z3h m.address m.regs m.banks K x.opers) D3)) (fun v _ => ne - (intOf v).toNat)
     case atStart => exact ⟨0, rfl, Nat.zero_le _, Lib.hid HS2.out⟩
     case round =>
      obtain ⟨j, rfl, hj, HI⟩ := hrel
      obtain ⟨bj, D3, hT, hbj, hown2, hK2⟩ := HI.out
      by_cases hlt : j < ne
      ·obtain ⟨f, hf⟩ : ∃ z, x.effs[j]? = some z := ⟨_, List.getElem?_eq_getElem (by rw [HNE.out]; exact hlt)⟩
       have hVr : Below V.heap.size V wr := HV0.out.trans (hT.below hVk (Nat.le_trans hVk (Nat.le_of_lt hkB)) HVs.out)
       obtain ⟨A', c', e1, _, _, _, hall⟩ := HF.out
       obtain ⟨b, o, cs, e2, hb, hcl, hcell, hE⟩ := hall j f hf
       obtain ⟨rfl, rfl⟩ : Ae = A' ∧ ce = c' := by cases e1; exact ⟨rfl, rfl⟩
       subst e2
       have hEf := hE
       obtain ⟨_, _, _, rfl, _, _, _, _, hs1, _, hs2, _, hs3⟩ := hE
       obtain ⟨S1, n1, z1, _, rfl, _⟩ := hs1.inv
       obtain ⟨S2, n2, z2, _, rfl, _⟩ := hs2.inv
       obtain ⟨S3, n3, z3, _, rfl, _⟩ := hs3.inv
       obtain ⟨CF, hCF⟩ : ∃ CF : Array Value, CF = (([.int .u8 f.kind, .int .i64 f.oper, .int .i64 f.reg] : List Value) ++ Tm.cells f.addr (.slice S1 n1 z1) ++ Tm.cells f.value (.slice S2 n2 z2) ++ Tm.cells f.cond (.slice S3 n3 z3)).toArray := ⟨_, rfl⟩
       have hCl : CF.size = 21 := by rw [hCF]; rfl
       have HI79 := Lib.hid (show (Tryz.prog.info? 79).map (·.size) = some CF.size by rw [hCl]; kernel_rfl)
       have HZ2 := Lib.hid (show Z.size = CF.size by rw [hCl]; exact HZS.out)
       have HONE := Lib.hid (show CF.all (·.oneCell') = true by rw [hCF]; simp [Tm.cells, Value.oneCell'])
       have HCC := Lib.hid (show ∀ q v, CF[q]? = some v → wr.cell? ⟨b, o + j * 21 + q, none⟩ = some v from fun q v hq => (hVr.cell (p := ⟨b, o + j * 21 + q, none⟩) hb).trans (hcell q v (by rw [hCF] at hq; simpa using hq)))
       have hb1 : Below wr.heap.size wr (wr.alloc (.cells CF 79)) := (Below.refl _ _).alloc (Nat.le_refl _) _
       have HNEW := Lib.hid (show ∀ q v, CF[q]? = some v → (wr.alloc (.cells CF 79)).cell? ⟨wr.heap.size, 0 + q, none⟩ = some v from fun q v hq => by
        rw [Nat.zero_add]
        exact zj rfl hq)
       have hCw := hT.chk HC0.out
       have hkw := hCw.lt
       have hlW : W.heap.size < wr.heap.size := by have h1 := hT.size; have h2 := HW0lt.out; omega
       have m3 : (wr.alloc (.cells CF 79)).cell? ⟨W.heap.size, 3, none⟩ = some (.slice A i c) := (hb1.cell (p := ⟨W.heap.size, 3, none⟩) hlW).trans (HCELL.out _ (HBL7.out _ _ hT)).1
       have hBw : B < wr.heap.size := hown2.lt
       have HCE := Lib.hid (show Calls Tryz.prog 124 #[.pointer (some ⟨k, 0, none⟩), .agg CF, .slice A i c] (wr.alloc (.cells CF 79)) fun e w' => e = .returned (.tuple #[]) ∧ Then7 k B W0 w' (bj || !((effR (z3h m.address m.regs m.banks K x.opers) m.address m.regs m.banks x.opers) f)) ∧ w'.ownsMap Tryz.prog 9 (plainElem Tryz.prog 3) B (n + i) D3 from by
        have hV1 := hVr.trans (hb1.mono hVr.size)
        have h := z91 (wr.alloc (.cells CF 79)) k m sr sb _ si B (n + i) D3 (z3h m.address m.regs m.banks K x.opers) bj (hCw.later hb1) (z1s hown2 hb1) hK2 (HSH.out.below hV1) (HRG.out.kept (fun cs x hx => regE.kept hx hV1) hV1) (HLB.out.kept (fun cs x hx => z1k.kept hx hV1) hV1) x.opers (.slice A i c) (HO.out.kept (fun cs x hx => z1c.kept hx hV1) hV1) (fun o ho => (HNM.out o ho).2.2) f _ (fun X hX => hEf.kept (hV1.trans (hX.mono hVk))) (hok f (List.mem_of_getElem? hf))
        rw [← hCF] at h
        refine h.mono fun e w' ⟨h1, h2⟩ => ⟨h1, hT.trans (((Then8.grown hb1 hkw hCw.c8 hCw.fz).to7 B).trans (h2.to7 B)), ?_⟩
        refine z9k (z1s hown2 hb1) (h2.block _ (by simp; omega) (by omega)))
       have hdj : x.effs.drop j = f :: x.effs.drop (j + 1) := by
        rw [List.drop_eq_getElem_cons (by rw [HNE.out]; exact hlt)]
        congr 1
        exact Option.some.inj ((List.getElem?_eq_getElem _).symm.trans hf)
       rw [hdj, List.all_cons] at hbj
       have HBJ := Lib.hid hbj
       have HLT := Lib.hid hlt
       have HK2 := Lib.hid hK2
       have hjn : (j : Int) < (ne : Int) := by omega
       clear hcell hcl hall hf e1 hVr HI hCF hCl hs1 hs2 hs3 hT hb1 hCw hkw hbj hown2 hEf hdj hK2 hlW hBw
       go_wp2_with (first
        | (refine z1i rfl 79 _ rfl b (o + j * 21) rfl CF _ Tryz.underlying79 rfl HI79.out HCC.out ?_)
        | (refine z3t rfl 79 rfl Z HZ.out ?_)
        | (refine z3u rfl 79 _ _ rfl Z CF rfl rfl HI79.out HZ2.out HONE.out ?_)
        | (refine z1i rfl 79 _ rfl wr.heap.size 0 rfl CF _ Tryz.underlying79 rfl HI79.out HNEW.out ?_)
        | (go_at_call 124; (with_reducible refine HCE.out.mono ?_); rintro e w9 ⟨rfl, hT9, hown9⟩))
       go_roundw
       case rel => exact ⟨j + 1, by first | rfl | go_num | (congr 1), by have := HLT.out; omega, Lib.hid ⟨_, D3, hT9, by rw [← HBJ.out]; cases bj <;> cases (effR (z3h m.address m.regs m.banks K x.opers) m.address m.regs m.banks x.opers) f <;> simp, hown9, HK2.out⟩⟩
       case measure => simp only [intOf]; have := HLT.out; omega
      ·obtain rfl : j = ne := by omega
       rw [List.drop_eq_nil_of_le (by rw [HNE.out]; exact Nat.le_refl _)] at hbj
       obtain rfl : bj = r := by simpa using hbj
       have q3 := (HCELL.out _ (HBL7.out _ _ hT)).1
       have HS3 := Lib.hid (show ∃ D4, Then7 k B W0 wr bj ∧ wr.ownsMap Tryz.prog 9 (plainElem Tryz.prog 3) B (n + i) D4 ∧ z1l (za4 (z3h m.address m.regs m.banks K x.opers) (x.opers.take 0)) D4 from ⟨D3, hT, hown2, by rw [List.take_zero, zoc]; exact hK2⟩)
       have hK00 : ∀ o ∈ x.opers, K o.name = 0 := fun o ho => hK0 _ (HNM.out o ho).1 (HNM.out o ho).2.1
       have HK00 := Lib.hid hK00
       clear hT hown2 hK2 HI hlt hbj hK00 hj
       go_wp2
       go_loopw [111] (fun v wr => ∃ q : Nat, v = .int .i64 q ∧ q ≤ i ∧ Hid (∃ D4, Then7 k B W0 wr bj ∧ wr.ownsMap Tryz.prog 9 (plainElem Tryz.prog 3) B (n + i) D4 ∧ z1l (za4 (z3h m.address m.regs m.banks K x.opers) (x.opers.take q)) D4)) (fun v _ => i - (intOf v).toNat)
       case atStart => exact ⟨0, rfl, Nat.zero_le _, Lib.hid HS3.out⟩
       case round =>
        obtain ⟨q, rfl, hq, HI⟩ := hrel
        obtain ⟨D4, hT, hown2, hK2⟩ := HI.out
        by_cases hlt : q < i
        ·obtain ⟨y, hy⟩ : ∃ z, x.opers[q]? = some z := ⟨_, List.getElem?_eq_getElem (by rw [HNO.out]; exact hlt)⟩
         have hVr : Below V.heap.size V wr := HV0.out.trans (hT.below hVk (Nat.le_trans hVk (Nat.le_of_lt hkB)) HVs.out)
         obtain ⟨A', c', e1, _, _, _, hall⟩ := HO.out
         obtain ⟨b, o, cs, e2, hb, hcl, hcell, hE⟩ := hall q y hy
         obtain ⟨rfl, rfl⟩ : A = A' ∧ c = c' := by cases e1; exact ⟨rfl, rfl⟩
         subst e2
         obtain ⟨sp, rfl, hys, _, _, _, hsp, _⟩ := hE
         obtain ⟨Ap, cp, rfl, _⟩ := hsp
         obtain ⟨np, hnp⟩ : ∃ z, y.pieces.length = z := ⟨_, rfl⟩
         rw [hnp] at hcell
         have p0 : wr.cell? ⟨b, o + q * 6, none⟩ = some (.string y.name) := (hVr.cell (p := ⟨b, o + q * 6, none⟩) hb).trans (by simpa using hcell 0 _ rfl)
         have p1 : wr.cell? ⟨b, o + q * 6 + 1, none⟩ = some (.int .u8 (y.kind : Nat)) := (hVr.cell (p := ⟨b, o + q * 6 + 1, none⟩) hb).trans (hcell 1 _ rfl)
         have p2 : wr.cell? ⟨b, o + q * 6 + 2, none⟩ = some (.int .i64 y.bank) := (hVr.cell (p := ⟨b, o + q * 6 + 2, none⟩) hb).trans (hcell 2 _ rfl)
         have p3 : wr.cell? ⟨b, o + q * 6 + 3, none⟩ = some (.int .i64 y.scale) := (hVr.cell (p := ⟨b, o + q * 6 + 3, none⟩) hb).trans (hcell 3 _ rfl)
         have p4 : wr.cell? ⟨b, o + q * 6 + 4, none⟩ = some (.slice Ap np cp) := (hVr.cell (p := ⟨b, o + q * 6 + 4, none⟩) hb).trans (hcell 4 _ rfl)
         have p5 : wr.cell? ⟨b, o + q * 6 + 5, none⟩ = some (.int .i64 y.tied) := (hVr.cell (p := ⟨b, o + q * 6 + 5, none⟩) hb).trans (hcell 5 _ rfl)
         have hCw := hT.chk HC0.out
         have hkw := hCw.lt
         obtain ⟨W1, hW1⟩ : ∃ W1, W1 = wr.alloc (.cells #[.string y.name, .int .u8 (y.kind : Nat), .int .i64 y.bank, .int .i64 y.scale, .slice Ap np cp, .int .i64 y.tied] 60) := ⟨_, rfl⟩
         have HW1 := Lib.hid hW1
         have hb1 : Below wr.heap.size wr W1 := by rw [hW1]; exact (Below.refl _ _).alloc (Nat.le_refl _) _
         have hblk1 := z82 wr (.string y.name) (.int .u8 (y.kind : Nat)) (.int .i64 y.bank) (.int .i64 y.scale) (.slice Ap np cp) (.int .i64 y.tied) _ rfl
         rw [← hW1] at hblk1
         have f0 : W1.cell? ⟨wr.heap.size, 0, none⟩ = some (.string y.name) := zb hblk1 rfl
         have d7 := (hb1.cell (p := ⟨k, 7, none⟩) hkw).trans hCw.c7
         have F0 := fun d os => cell_regrown f0 d os
         have D7 := fun d os => cell_regrown d7 d os
         have hbX : ∀ X, Below W1.heap.size W1 X → Below wr.heap.size wr X := fun X hX => hb1.trans (hX.mono hb1.size)
         have HPOST := Lib.hid (show ∀ X, Below W1.heap.size W1 X → X.ownsMap Tryz.prog 9 (plainElem Tryz.prog 3) B (n + i) D4 ∧ ∀ w4, w4.ownsMap Tryz.prog 9 (plainElem Tryz.prog 3) B (n + i) (D4.del (zk y.name)) → X.mapTurned w4 B → Then7 k B W0 w4 bj ∧ w4.ownsMap Tryz.prog 9 (plainElem Tryz.prog 3) B (n + i) (D4.del (zk y.name)) ∧ z1l (za4 (z3h m.address m.regs m.banks K x.opers) (x.opers.take (q + 1))) (D4.del (zk y.name)) from fun X hX => by
          have hX1 := hbX X hX
          refine ⟨z1s hown2 hX1, fun w4 h4 ht4 => ⟨?_, h4, ?_⟩⟩
          ·have h5 : Then7 k B W0 X bj := hT.trans ((Then8.grown hX1 hkw hCw.c8 hCw.fz).to7 B)
           exact h5.trans (Then7.turned ht4 (by omega) h5.c8 h5.fz)
          ·have htk2 : x.opers.take (q + 1) = x.opers.take q ++ [y] := by rw [List.take_add_one, hy]; rfl
           rw [htk2, zlg]
           exact zm2 hK2 _ h4.isMap)
         have HLT := Lib.hid hlt
         have HNS := Lib.hid hys
         have hin : (q : Int) < (i : Int) := by omega
         obtain ⟨YN, hYN⟩ : ∃ z, y.name = z := ⟨_, rfl⟩
         obtain ⟨y1, h1⟩ : ∃ z : Int, (y.kind : Int) = z := ⟨_, rfl⟩
         obtain ⟨y2, h2⟩ : ∃ z : Int, y.bank = z := ⟨_, rfl⟩
         obtain ⟨y3, h3⟩ : ∃ z : Int, y.scale = z := ⟨_, rfl⟩
         obtain ⟨y5, h5⟩ : ∃ z : Int, y.tied = z := ⟨_, rfl⟩
         rw [hYN] at p0 f0 F0 HW1 HPOST HNS
         rw [h1] at p1 HW1
         rw [h2] at p2 HW1
         rw [h3] at p3 HW1
         rw [h5] at p5 HW1
         clear hT hown2 hK2 hVr e1 hall hcell hcl hy hW1 hblk1 hbX hYN h1 h2 h3 h5 HI hb1 hCw hys hnp
         go_wp2_with fail
         rw [← HW1.out]
         refine z1r 6 (by kernel_rfl) (by kernel_rfl) ?_
         simp only [List.take_succ_cons, List.take_zero, List.drop_succ_cons, List.drop_zero]
         repeat (first | go_big_quiet_step (fail) | quiet_step (fail))
         refine wpQuiet_nil ?_
         intro X hX
         have hbX : Below W1.heap.size W1 X := by obtain ⟨p, rfl⟩ := hX; exact below_regrown _ _ _
         have HPX := Lib.hid (HPOST.out X hbX)
         clear hX hbX f0 F0 d7 D7 p0 p1 p2 p3 p4 p5
         refine wpList_delete_own _ rfl _ _ 105 9 rfl 3 (Maps.string_keyed Tryz.underlying9) Tryz.underlying105 _ B (n + i) D4 rfl HPX.out.1 _ _ rfl (Go.WideMaps.keyOf_string_mk Tryz.underlying9 HNS.out) ?_
         intro w4 hown4 ht4
         have HP4 := Lib.hid (HPX.out.2 w4 hown4 ht4)
         clear hown4 ht4
         go_wp2
         go_roundw
         case rel => exact ⟨q + 1, by first | rfl | go_num | (congr 1), by have := HLT.out; omega, Lib.hid ⟨_, HP4.out⟩⟩
         case measure => simp only [intOf]; have := HLT.out; omega
        ·obtain rfl : q = i := by omega
         rw [List.take_of_length_le (by rw [HNO.out]; exact Nat.le_refl _), zh7 HK00.out] at hK2
         have HFIN := Lib.hid (show Then7 k B W wr bj ∧ ∃ D' n', n' ≤ n + 1000 ∧ wr.ownsMap Tryz.prog 9 (plainElem Tryz.prog 3) B n' D' ∧ z1l K D' from ⟨(HT0.out.to7 B).trans hT, D4, n + q, by have := HN1.out; omega, hown2, hK2⟩)
         clear hK2 hT hown2 HI
         go_wp2
         exact bodyPost_end (v := .tuple #[]) (by simp [results, Tryz.results112, go_sem]) rfl ⟨rfl, HFIN.out⟩
  ·have hr1 : r = true := by
    have hb2 := HB2.out
    rw [HHD.out] at hb2
    rw [← HR.out]
    unfold insR
    revert hb2
    cases bad <;> cases z5g m.word m.units.length x <;> cases z5w m.word m.address m.banks x.mask x.opers <;> simp
   have hwB : w6.heap[B]? = W0.heap[B]? := hT7.block _ HBW.out (by omega)
   exact bodyPost_ret (v := .tuple #[]) (by simp [results, Tryz.results112, go_sem]) rfl ⟨rfl, by rw [hr1]; exact (HT0.out.to7 B).trans (hT7.to7 B), D, n, by omega, z9k HOWN.out hwB, hKD⟩
end Go.Proofs.YtjjfeddenhemhaaGreatDoor
