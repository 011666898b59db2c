import Derived.Test.YtjjfeddenhemhaaGreatDoorPd
import Derived.Test.YtjjfeddenhemhaaGreatDoorPe
import Derived.Test.YtjjfeddenhemhaaGreatDoorPf
import Derived.KernelRfl
namespace Go.Proofs.YtjjfeddenhemhaaGreatDoor
open Go.RowKit
set_option linter.unusedVariables false
set_option linter.unusedSimpArgs false
set_option maxRecDepth 1000000
theorem z8q {α : Type} {m : Mach} (hv : chkR m = 0) {f : α → ByteArray} {s : ByteArray} {L : List α} {k : Nat} (h : L.findIdx? (fun x => eqB (f x) s) = some k) :
 z5v m (fun x => (f x).toList == s.toList) L = k ∧ z3p m (fun x => (f x).toList == s.toList) L = 0 := by
 have hp : (fun x => (f x).toList == s.toList) = fun x => eqB (f x) s := by
  funext x
  rw [Bool.eq_iff_iff, z7l, beq_iff_eq, ByteArray.toList_eq, ByteArray.toList_eq]
  constructor
  ·intro q
   have := z7l (a := f x) (b := s)
   exact this.1 ((zhb _ _).2 q)
  ·intro q; rw [q]
 unfold z5v z3p ixF
 rw [hp, h, if_pos hv, if_pos hv]
 simp only
 rw [if_pos (by omega), if_pos (by omega)]
 exact ⟨rfl, rfl⟩
def vals11 : List Nat := [4660, 0, 0, 0, 0, 0, 0, 0, 0, 0, 0]
def next11 : List Nat := [4863, 0, 0, 0, 0, 0, 0, 0, 0, 0, 0]
theorem zxf (X : World) (v : Value) (hm : zu X v given1) (hT : zh X) : Calls Tryz.prog 19 #[v, .string ⟨#[97, 108]⟩] X fun e w' => e = .returned (.tuple #[.int .i64 8, .int .i64 0]) ∧ Below X.heap.size X w' := by
 have h := z89 X v given1 hm hT effs1 ⟨#[97, 108]⟩
 obtain ⟨e1, e2⟩ := z8q (f := fun x : MReg => x.name) (s := ⟨#[97, 108]⟩) valid1 (k := 8) (L := given1.regs) (by kernel_rfl)
 rw [e1, e2] at h
 exact h
theorem zxe (X : World) (v : Value) (hm : zu X v given1) (hT : zh X) : Calls Tryz.prog 19 #[v, .string ⟨#[97, 104]⟩] X fun e w' => e = .returned (.tuple #[.int .i64 12, .int .i64 0]) ∧ Below X.heap.size X w' := by
 have h := z89 X v given1 hm hT effs1 ⟨#[97, 104]⟩
 obtain ⟨e1, e2⟩ := z8q (f := fun x : MReg => x.name) (s := ⟨#[97, 104]⟩) valid1 (k := 12) (L := given1.regs) (by kernel_rfl)
 rw [e1, e2] at h
 exact h
theorem zsl (X : World) (v : Value) (hm : zu X v given0) (hT : zh X) : Calls Tryz.prog 20 #[v, .string ⟨#[106, 117, 109, 112]⟩] X fun e w' => e = .returned (.tuple #[.int .i64 32, .int .i64 0]) ∧ Below X.heap.size X w' := by
 have h := z4r X v given0 hm hT effs0 ⟨#[106, 117, 109, 112]⟩
 obtain ⟨e1, e2⟩ := z8q (f := fun x : MIns => x.name) (s := ⟨#[106, 117, 109, 112]⟩) valid0 (k := 32) (L := given0.instrs) (by kernel_rfl)
 rw [e1, e2] at h
 exact h
theorem zsm (X : World) (v : Value) (hm : zu X v given1) (hT : zh X) : Calls Tryz.prog 20 #[v, .string ⟨#[109, 111, 118, 105]⟩] X fun e w' => e = .returned (.tuple #[.int .i64 1, .int .i64 0]) ∧ Below X.heap.size X w' := by
 have h := z4r X v given1 hm hT effs1 ⟨#[109, 111, 118, 105]⟩
 obtain ⟨e1, e2⟩ := z8q (f := fun x : MIns => x.name) (s := ⟨#[109, 111, 118, 105]⟩) valid1 (k := 1) (L := given1.instrs) (by kernel_rfl)
 rw [e1, e2] at h
 exact h
theorem zqu (X : World) (v : Value) (hm : zu X v given1) (hT : zh X) : Calls Tryz.prog 10 #[v] X fun e w' => ∃ A c, e = .returned (.tuple #[.slice A 11 c, .int .i64 0]) ∧ Below X.heap.size X w' := by
 refine (z6u X v given1 hm hT effs1).mono fun e w' ⟨sv, h1, h2, h3, h4⟩ => ?_
 rw [valid1] at h1
 obtain ⟨A, c, rfl, _⟩ := h2 valid1
 have hl : ((z1p given1.regs).map fun (z : Nat) => (z : Int)).length = 11 := by kernel_rfl
 rw [hl] at h1
 exact ⟨A, c, h1, h4⟩
theorem idx1 (a b : Int) (h : [a, b].all (idxM given1) = true) : zz given1 [a, b] = 0 := by unfold zz; rw [if_pos valid1, if_pos h]
theorem ztb (X : World) (v : Value) (hm : zu X v given1) (hT : zh X) : Calls Tryz.prog 9 #[v, .int .i64 8, .int .i64 0] X fun e w' => e = .returned (.tuple #[.bool true, .int .i64 0]) ∧ Below X.heap.size X w' := by
 have h := z2o X v given1 hm hT effs1 8 0 (by omega) (by omega)
 have e1 := idx1 8 0 (by kernel_rfl)
 have e2 : ovB given1 8 0 = true := by unfold ovB; rw [if_pos e1]; kernel_rfl
 rw [e1, e2] at h
 exact h
theorem ztc (X : World) (v : Value) (hm : zu X v given1) (hT : zh X) : Calls Tryz.prog 9 #[v, .int .i64 8, .int .i64 12] X fun e w' => e = .returned (.tuple #[.bool false, .int .i64 0]) ∧ Below X.heap.size X w' := by
 have h := z2o X v given1 hm hT effs1 8 12 (by omega) (by omega)
 have e1 := idx1 8 12 (by kernel_rfl)
 have e2 : ovB given1 8 12 = false := by unfold ovB; rw [if_pos e1]; kernel_rfl
 rw [e1, e2] at h
 exact h
theorem zjh (V : List Nat) (a : Int) (h1 : [a].all (idxM given1) = true) (h2 : eqF (okV given1) (z1d given1) V = true) : z1x given1 V a = 0 := by
 unfold z1x zz
 rw [if_pos valid1, if_pos h1, if_pos rfl, if_pos h2]
theorem zre (X : World) (v u : Value) (hm : zu X v given1) (hT : zh X) (hu : zd 1 u64E X u vals11) : Calls Tryz.prog 12 #[v, u, .int .i64 8, .int .u64 255] X fun e w' => ∃ A c, e = .returned (.tuple #[.slice A 11 c, .int .i64 0]) ∧ zd 1 u64E w' (.slice A 11 c) next11 ∧ Below X.heap.size X w' := by
 refine (z7g X v given1 hm hT effs1 u vals11 hu 8 (by omega) 255 (by omega)).mono fun e w' ⟨sv, h1, h2, h3⟩ => ?_
 have e1 := zjh vals11 8 (by kernel_rfl) (by kernel_rfl)
 have e2 : z29 given1 vals11 8 255 = 0 := by unfold z29; rw [if_pos e1]; kernel_rfl
 have e3 : wrL given1 vals11 8 255 = next11 := by unfold wrL; rw [if_pos e2]; kernel_rfl
 rw [e2] at h1
 rw [e3] at h2
 obtain ⟨A, c, rfl, _⟩ := id h2
 exact ⟨A, c, h1, h2, h3⟩
theorem zvv (X : World) (v u : Value) (hm : zu X v given1) (hT : zh X) (hu : zd 1 u64E X u vals11) : Calls Tryz.prog 13 #[v, u, .int .i64 12] X fun e w' => e = .returned (.tuple #[.int .u64 18, .int .i64 0]) ∧ Below X.heap.size X w' := by
 have h := z4h X v given1 hm hT effs1 u vals11 hu 12 (by omega)
 have e1 := zjh vals11 12 (by kernel_rfl) (by kernel_rfl)
 have e2 : z2i given1 vals11 12 = 18 := by unfold z2i; rw [if_pos e1]; kernel_rfl
 rw [e1, e2] at h
 exact h
theorem zqp (X : World) (v u : Value) (hm : zu X v given1) (hT : zh X) (hu : zd 1 u64E X u next11) : Calls Tryz.prog 13 #[v, u, .int .i64 0] X fun e w' => e = .returned (.tuple #[.int .u64 4863, .int .i64 0]) ∧ Below X.heap.size X w' := by
 have h := z4h X v given1 hm hT effs1 u next11 hu 0 (by omega)
 have e1 := zjh next11 0 (by kernel_rfl) (by kernel_rfl)
 have e2 : z2i given1 next11 0 = 4863 := by unfold z2i; rw [if_pos e1]; kernel_rfl
 rw [e1, e2] at h
 exact h
theorem zva (X : World) (v sa : Value) (hm : zu X v given1) (hT : zh X) (ha : zd 1 intE X sa [2, -64]) : Calls Tryz.prog 17 #[v, .agg #[.int .i64 1, sa]] X fun e w' => e = .returned (.int .i64 0) ∧ Below X.heap.size X w' := by
 have h := z6b X v given1 hm hT effs1 1 (by omega) sa [2, -64] ha
 have e1 : z6i given1 1 [2, -64] = 0 := by unfold z6i; rw [if_pos valid1]; kernel_rfl
 rw [e1] at h
 exact h
theorem zwl (X : World) (v sa : Value) (hm : zu X v given1) (hT : zh X) (ha : zd 1 intE X sa [2, -65]) : Calls Tryz.prog 17 #[v, .agg #[.int .i64 1, sa]] X fun e w' => e = .returned (.int .i64 24) ∧ Below X.heap.size X w' := by
 have h := z6b X v given1 hm hT effs1 1 (by omega) sa [2, -65] ha
 have e1 : z6i given1 1 [2, -65] = 24 := by unfold z6i; rw [if_pos valid1]; kernel_rfl
 rw [e1] at h
 exact h
theorem ztv (X : World) (v sa : Value) (hm : zu X v given0) (hT : zh X) (ha : zd 1 intE X sa [-2]) : Calls Tryz.prog 16 #[v, .agg #[.int .i64 32, sa], .int .u64 100] X fun e w' => ∃ g c, e = .returned (.tuple #[.slice (some ⟨g, 0, none⟩) 2 c, .int .i64 0]) ∧ (g < w'.heap.size ∧ w'.cell? ⟨g, 0, none⟩ = some (.string ⟨#[116, 111]⟩) ∧ w'.cell? ⟨g, 1, none⟩ = some (.int .i64 32) ∧ w'.cell? ⟨g, 2, none⟩ = some (.int .u64 96) ∧ w'.cell? ⟨g, 3, none⟩ = some (.string ⟨#[112, 99]⟩) ∧ w'.cell? ⟨g, 4, none⟩ = some (.int .i64 32) ∧ w'.cell? ⟨g, 5, none⟩ = some (.int .u64 100)) ∧ Below X.heap.size X w' := by
 refine (ztu X v given0 hm hT effs0 32 (by omega) sa [-2] ha 100 (by omega)).mono fun e w' ⟨v', h1, h2, h3⟩ => ?_
 have e0 : z6i given0 32 [-2] = 0 := by unfold z6i; rw [if_pos valid0]; kernel_rfl
 have e1 : z62 given0 32 [-2] 100 = 0 := by unfold z62; rw [if_pos e0]; kernel_rfl
 have e2 : zaf given0 32 [-2] 100 = [(⟨#[116, 111]⟩, 32, 96), (⟨#[112, 99]⟩, 32, 100)] := by unfold zaf; rw [if_pos e1]; kernel_rfl
 rw [e1] at h1
 rw [e2] at h2
 obtain ⟨g, c, rfl, _, hg, c0, c1, c2⟩ := znk h2 (i := 0) rfl
 obtain ⟨g', c', e3, _, _, c3, c4, c5⟩ := znk h2 (i := 1) rfl
 cases e3
 exact ⟨g, c, h1, ⟨hg, c0, c1, c2, c3, c4, c5⟩, h3⟩
end Go.Proofs.YtjjfeddenhemhaaGreatDoor
namespace Go.Proofs.YtjjfeddenhemhaaGreatDoor
open Go.RowKit Go.Instr
set_option linter.unusedVariables false
set_option linter.unusedSimpArgs false
set_option maxRecDepth 100000
theorem zqq (w : World) (u : Value) (hT : zh w) (hu : zd 1 u64E w u vals11) : Calls Tryz.prog 21 #[u, .int .i64 12, .int .u64 18] w fun e w' => e = .returned (.bool true) ∧ Below w.heap.size w w' := by
 have HG := Lib.hid (fun X => z5f X)
 have HR := Lib.hid (show ∀ v X, Below w.heap.size w X → zu X v given1 → Calls Tryz.prog 13 #[v, u, .int .i64 12] X fun e w' => e = .returned (.tuple #[.int .u64 18, .int .i64 0]) ∧ Below X.heap.size X w' from fun v X hX hm => zvv X v u hm (hT.below hX) (hu.kept (fun cs x hx => u64E.kept hx hX) hX))
 clear hT hu
 go_enter Tryz.func21, Tryz.ntmps21
 go_wp2_with (first
  | (go_at_call 18; (with_reducible refine (HG.out _).mono ?_); rintro e w1 ⟨v1, rfl, hm1, hb1⟩)
  | (go_at_call 13; (with_reducible refine (HR.out _ _ hb1 hm1).mono ?_); rintro e w2 ⟨rfl, hb2⟩))
 go_ret
 exact ⟨rfl, hb1.trans (hb2.mono hb1.size)⟩
theorem zqr (w : World) (u : Value) (hT : zh w) (hu : zd 1 u64E w u next11) : Calls Tryz.prog 21 #[u, .int .i64 0, .int .u64 4863] w fun e w' => e = .returned (.bool true) ∧ Below w.heap.size w w' := by
 have HG := Lib.hid (fun X => z5f X)
 have HR := Lib.hid (show ∀ v X, Below w.heap.size w X → zu X v given1 → Calls Tryz.prog 13 #[v, u, .int .i64 0] X fun e w' => e = .returned (.tuple #[.int .u64 4863, .int .i64 0]) ∧ Below X.heap.size X w' from fun v X hX hm => zqp X v u hm (hT.below hX) (hu.kept (fun cs x hx => u64E.kept hx hX) hX))
 clear hT hu
 go_enter Tryz.func21, Tryz.ntmps21
 go_wp2_with (first
  | (go_at_call 18; (with_reducible refine (HG.out _).mono ?_); rintro e w1 ⟨v1, rfl, hm1, hb1⟩)
  | (go_at_call 13; (with_reducible refine (HR.out _ _ hb1 hm1).mono ?_); rintro e w2 ⟨rfl, hb2⟩))
 go_ret
 exact ⟨rfl, hb1.trans (hb2.mono hb1.size)⟩
theorem zjz (w : World) (sa : Value) (L : List Int) (r : Int) (hT : zh w) (ha : zd 1 intE w sa L) (hc : ∀ X v, zu X v given1 → zh X → zd 1 intE X sa L → Calls Tryz.prog 17 #[v, .agg #[.int .i64 1, sa]] X fun e w' => e = .returned (.int .i64 r) ∧ Below X.heap.size X w') :
 Calls Tryz.prog 22 #[.int .i64 1, .string ⟨#[109, 111, 118, 105]⟩, sa] w fun e w' => e = .returned (.int .i64 r) ∧ Below w.heap.size w w' := by
 have HG := Lib.hid (fun X => z5f X)
 have HI := Lib.hid (show ∀ v X, Below w.heap.size w X → zu X v given1 → Calls Tryz.prog 20 #[v, .string ⟨#[109, 111, 118, 105]⟩] X fun e w' => e = .returned (.tuple #[.int .i64 1, .int .i64 0]) ∧ Below X.heap.size X w' from fun v X hX hm => zsm X v hm (hT.below hX))
 have HC := Lib.hid (show ∀ v X, Below w.heap.size w X → zu X v given1 → Calls Tryz.prog 17 #[v, .agg #[.int .i64 1, sa]] X fun e w' => e = .returned (.int .i64 r) ∧ Below X.heap.size X w' from fun v X hX hm => hc X v hm (hT.below hX) (ha.kept (fun cs x hx => intE.kept hx hX) hX))
 obtain ⟨As, cs, rfl, _⟩ := ha
 obtain ⟨ls, hls⟩ : ∃ z, L.length = z := ⟨_, rfl⟩
 rw [hls] at HC ⊢
 have hbw : Below w.heap.size w w := Below.refl _ _
 clear hT hc hls
 go_enter Tryz.func22, Tryz.ntmps22
 go_wp2_with (first
  | (go_at_call 18; (with_reducible refine (HG.out _).mono ?_); rintro e w1 ⟨v1, rfl, hm1, hb1⟩; have hbw := hbw.trans (hb1.mono hbw.size))
  | (go_at_call 20; (with_reducible refine (HI.out _ _ hbw hm1).mono ?_); rintro e w2 ⟨rfl, hb2⟩; have hbw := hbw.trans (hb2.mono hbw.size))
  | (go_at_call 17; (with_reducible refine (HC.out _ _ hbw hm1).mono ?_); rintro e w3 ⟨rfl, hb3⟩; have hbw := hbw.trans (hb3.mono hbw.size)))
 go_ret
 exact ⟨rfl, hbw⟩
theorem zd9 (w : World) : Calls Tryz.prog 18 #[.int .i64 1] w fun e w' => ∃ A1 c1 A2 c2 A3 c3 A4 c4, e = .returned (.agg #[.string given1.name, .int .i64 2, .int .i64 16, .slice A1 19 c1, .slice A2 2 c2, .slice A3 1 c3, .slice A4 49 c4]) ∧ zu w' (.agg #[.string given1.name, .int .i64 2, .int .i64 16, .slice A1 19 c1, .slice A2 2 c2, .slice A3 1 c3, .slice A4 49 c4]) given1 ∧ Below w.heap.size w w' := by
 refine (z5f w).mono fun e w' ⟨x, h1, hm, h2⟩ => ?_
 have hm' := hm
 obtain ⟨cs0, rfl, sr, sb, su, si, hcs, _, _, _, hR, hB, hU, hI⟩ := hm
 obtain ⟨A1, c1, rfl, _⟩ := hR
 obtain ⟨A2, c2, rfl, _⟩ := hB
 obtain ⟨A3, c3, rfl, _⟩ := hU
 obtain ⟨A4, c4, rfl, _⟩ := hI
 have l1 : given1.regs.length = 19 := by kernel_rfl
 have l2 : given1.banks.length = 2 := by kernel_rfl
 have l3 : given1.units.length = 1 := by kernel_rfl
 have l4 : given1.instrs.length = 49 := by kernel_rfl
 have l5 : given1.word = 2 := by kernel_rfl
 have l6 : given1.address = 16 := by kernel_rfl
 rw [l1, l2, l3, l4, l5, l6] at hcs
 obtain rfl : cs0 = #[.string given1.name, .int .i64 2, .int .i64 16, .slice A1 19 c1, .slice A2 2 c2, .slice A3 1 c3, .slice A4 49 c4] := by cases cs0; simp_all
 exact ⟨A1, c1, A2, c2, A3, c3, A4, c4, h1, hm', h2⟩
theorem cells7 {w1 X : World} {a0 a1 a2 a3 a4 a5 a6 : Value} {t : TypeId} (h : Below (w1.alloc (.cells #[a0, a1, a2, a3, a4, a5, a6] t)).heap.size (w1.alloc (.cells #[a0, a1, a2, a3, a4, a5, a6] t)) X) :
 X.cell? ⟨w1.heap.size, 0, none⟩ = some a0 ∧ X.cell? ⟨w1.heap.size, 1, none⟩ = some a1 ∧ X.cell? ⟨w1.heap.size, 2, none⟩ = some a2 ∧ X.cell? ⟨w1.heap.size, 3, none⟩ = some a3 ∧ X.cell? ⟨w1.heap.size, 4, none⟩ = some a4 ∧ X.cell? ⟨w1.heap.size, 5, none⟩ = some a5 ∧ X.cell? ⟨w1.heap.size, 6, none⟩ = some a6 := by
 have e := (h.block w1.heap.size (by simp)).trans (heap_alloc_new w1 (.cells #[a0, a1, a2, a3, a4, a5, a6] t))
 exact ⟨zb e rfl, zb e rfl, zb e rfl, zb e rfl, zb e rfl, zb e rfl, zb e rfl⟩
theorem zp {w w1 X : World} {o : Obj} (hb1 : Below w.heap.size w w1) (h : Below (w1.alloc o).heap.size (w1.alloc o) X) : Below w.heap.size w X ∧ Below w1.heap.size w1 X := by
 have h1 := (Below.refl w1.heap.size w1).alloc (Nat.le_refl _) o
 have h2 := h1.trans (h.mono h1.size)
 exact ⟨hb1.trans (h2.mono hb1.size), h2⟩
theorem zj2 (h : Array Obj) (o : Obj) (f : Obj → Obj) : (h.push o).modify h.size f = h.push (f o) := by
 apply Array.ext_getElem?
 intro j
 rw [Array.getElem?_modify, Array.getElem?_push, Array.getElem?_push]
 by_cases e : h.size = j
 ·subst e; simp
 ·rw [if_neg e, if_neg (fun q => e q.symm), if_neg (fun q => e q.symm)]
theorem zqz (w : World) (a : Array Value) (T : TypeId) (v : Value) (i : Nat) : (w.alloc (.cells a T)).setCell ⟨w.heap.size, i, none⟩ v = w.alloc (.cells (a.setIfInBounds i v) T) := by
 unfold World.setCell World.alloc
 dsimp only
 rw [zj2]
 rfl
theorem zqv (w4 : World) : zd 1 u64E (w4.alloc (.cells ((Array.replicate 11 (.int .u64 0)).setIfInBounds 0 (.int .u64 4660)) 41)) (.slice (some ⟨w4.heap.size, 0, none⟩) 11 11) vals11 := by
 have ho : (w4.alloc (.cells (Array.replicate 11 (.int .u64 0)) 41)).ownsRow w4.heap.size 41 1 (.slice (some ⟨w4.heap.size, 0, none⟩) 11 11) 11 (List.replicate 11 (.int .u64 0)) :=
  ⟨rfl, .inr ⟨w4.heap.size, 11, Array.replicate 11 (.int .u64 0), rfl, Nat.le_refl _, heap_alloc_new _ _, Nat.le_refl _, by simp [maxLen], by simp, by simp⟩⟩
 have h1 := zkc ho (p := 0) (by omega) (.int .u64 4660)
 have e : (w4.alloc (.cells (Array.replicate 11 (.int .u64 0)) 41)).setCell ⟨w4.heap.size, 0, none⟩ (.int .u64 4660) = (w4.alloc (.cells ((Array.replicate 11 (.int .u64 0)).setIfInBounds 0 (.int .u64 4660)) 41)) := by
  exact zqz w4 _ _ _ 0
 rw [← e]
 exact z6j (l := vals11) h1 (by simp [maxLen, vals11]) (by decide)
theorem make11 (w : World) : Sem.run Tryz.prog (makeSlice 38 (.int .i64 11) (.int .i64 11)) w = .ok (.slice (some ⟨w.heap.size, 0, none⟩) 11 11) (w.alloc (.cells (Array.replicate 11 (.int .u64 0)) 41)) := by kernel_rfl
theorem zwk (w : World) : (do eqGuard .eql 62 (.tmp 114) (.tmp 115) (.agg #[.string ⟨#[116, 111]⟩, .int .i64 32, .int .u64 96]) (.agg #[.string ⟨#[116, 111]⟩, .int .i64 32, .int .u64 96]); Go.binOp .eql 62 (.agg #[.string ⟨#[116, 111]⟩, .int .i64 32, .int .u64 96]) (.agg #[.string ⟨#[116, 111]⟩, .int .i64 32, .int .u64 96]) : Sem Value).run Tryz.prog w = .ok (.bool true) w := by kernel_rfl
theorem zwj (w : World) : (do eqGuard .eql 62 (.tmp 120) (.tmp 121) (.agg #[.string ⟨#[112, 99]⟩, .int .i64 32, .int .u64 100]) (.agg #[.string ⟨#[112, 99]⟩, .int .i64 32, .int .u64 100]); Go.binOp .eql 62 (.agg #[.string ⟨#[112, 99]⟩, .int .i64 32, .int .u64 100]) (.agg #[.string ⟨#[112, 99]⟩, .int .i64 32, .int .u64 100]) : Sem Value).run Tryz.prog w = .ok (.bool true) w := by kernel_rfl
set_option maxHeartbeats 4000000 in
theorem z65 (w : World) (hT : zh w) : Calls Tryz.prog 7 #[] w fun e w' => e = .returned (.bool true) ∧ Below w.heap.size w w' := by
 have HG1 := Lib.hid (fun X => zd9 X)
 have HG0 := Lib.hid (fun X => zln X)
 have HT := Lib.hid (show ∀ X, Below w.heap.size w X → zh X from fun X hX => hT.below hX)
 obtain ⟨nm, hnm⟩ : ∃ z, given1.name = z := ⟨_, rfl⟩
 rw [hnm] at HG1
 have hmk := make11
 have hq1 := zwk
 have hq2 := zwj
 clear hT
 go_enter Tryz.func7, Tryz.ntmps7
 go_wp2_with (first
  | (go_at_call 18; (with_reducible refine (HG1.out _).mono ?_); rintro e w1 ⟨A1, c1, A2, c2, A3, c3, A4, c4, rfl, hm1, hb1⟩; have hbx := Below.refl (w1.alloc (.cells #[.string nm, .int .i64 2, .int .i64 16, .slice A1 19 c1, .slice A2 2 c2, .slice A3 1 c3, .slice A4 49 c4] 27)).heap.size (w1.alloc (.cells #[.string nm, .int .i64 2, .int .i64 16, .slice A1 19 c1, .slice A2 2 c2, .slice A3 1 c3, .slice A4 49 c4] 27)))
  | (go_at_call 19; (with_reducible refine (zxf _ _ (hm1.kept (zp hb1 hbx).2) (HT.out _ (zp hb1 hbx).1)).mono ?_); rintro e w2 ⟨rfl, hb2⟩; have hbx := hbx.trans (hb2.mono hbx.size); obtain ⟨k0, k1, k2, k3, k4, k5, k6⟩ := cells7 hbx)
  | (go_at_call 19; (with_reducible refine (zxe _ _ (hm1.kept (zp hb1 hbx).2) (HT.out _ (zp hb1 hbx).1)).mono ?_); rintro e w3 ⟨rfl, hb3⟩; have hbx := hbx.trans (hb3.mono hbx.size); obtain ⟨k0, k1, k2, k3, k4, k5, k6⟩ := cells7 hbx)
  | (go_at_call 10; (with_reducible refine (zqu _ _ (hm1.kept (zp hb1 hbx).2) (HT.out _ (zp hb1 hbx).1)).mono ?_); rintro e w4 ⟨AR, cR, rfl, hb4⟩; have hbx := hbx.trans (hb4.mono hbx.size); have hbx := hbx.alloc hbx.size (.cells ((Array.replicate 11 (.int .u64 0)).setIfInBounds 0 (.int .u64 4660)) 41); have hv := zqv w4; obtain ⟨k0, k1, k2, k3, k4, k5, k6⟩ := cells7 hbx)
  | (go_at_call 12; (with_reducible refine (zre _ _ _ (hm1.kept (zp hb1 hbx).2) (HT.out _ (zp hb1 hbx).1) hv).mono ?_); rintro e w6 ⟨AN, cN, rfl, hn, hb6⟩; have hbx := hbx.trans (hb6.mono hbx.size); have hv := hv.kept (fun cs x hx => u64E.kept hx hb6) hb6; obtain ⟨k0, k1, k2, k3, k4, k5, k6⟩ := cells7 hbx)
  | (go_at_call 9; (with_reducible refine (ztb _ _ (hm1.kept (zp hb1 hbx).2) (HT.out _ (zp hb1 hbx).1)).mono ?_); rintro e w7 ⟨rfl, hb7⟩; have hbx := hbx.trans (hb7.mono hbx.size); have hv := hv.kept (fun cs x hx => u64E.kept hx hb7) hb7; have hn := hn.kept (fun cs x hx => u64E.kept hx hb7) hb7; obtain ⟨k0, k1, k2, k3, k4, k5, k6⟩ := cells7 hbx)
  | (go_at_call 9; (with_reducible refine (ztc _ _ (hm1.kept (zp hb1 hbx).2) (HT.out _ (zp hb1 hbx).1)).mono ?_); rintro e w8 ⟨rfl, hb8⟩; have hbx := hbx.trans (hb8.mono hbx.size); have hv := hv.kept (fun cs x hx => u64E.kept hx hb8) hb8; have hn := hn.kept (fun cs x hx => u64E.kept hx hb8) hb8; obtain ⟨k0, k1, k2, k3, k4, k5, k6⟩ := cells7 hbx)
  | (go_at_call 18; (with_reducible refine (HG0.out _).mono ?_); rintro e w9 ⟨y, rfl, hm0, hb9⟩; have hbx := hbx.trans (hb9.mono hbx.size); have hv := hv.kept (fun cs x hx => u64E.kept hx hb9) hb9; have hn := hn.kept (fun cs x hx => u64E.kept hx hb9) hb9; obtain ⟨k0, k1, k2, k3, k4, k5, k6⟩ := cells7 hbx; have hy := (Below.refl w9.heap.size w9).alloc (Nat.le_refl _) (.cells #[.int .i64 (-2)] 3))
  | (go_at_call 20; (with_reducible refine (zsl _ _ hm0 (HT.out _ (zp hb1 hbx).1)).mono ?_); rintro e w10 ⟨rfl, hb10⟩; clear hy; have hbx := hbx.trans (hb10.mono hbx.size); have hv := hv.kept (fun cs x hx => u64E.kept hx hb10) hb10; have hn := hn.kept (fun cs x hx => u64E.kept hx hb10) hb10; obtain ⟨k0, k1, k2, k3, k4, k5, k6⟩ := cells7 hbx)
  | (go_at_call 16; have hbx := hbx.trans (hy.mono hbx.size); have hv := hv.kept (fun cs x hx => u64E.kept hx hy) hy; have hn := hn.kept (fun cs x hx => u64E.kept hx hy) hy; (with_reducible refine (ztv _ _ _ (hm0.kept hy) (HT.out _ (zp hb1 hbx).1) (zc4 (heap_alloc_new _ _) (by decide))).mono ?_); rintro e w11 ⟨g, cg, rfl, ⟨gl, g0, g1, g2, g3, g4, g5⟩, hb11⟩; have hbx := hbx.trans (hb11.mono hbx.size); have hv := hv.kept (fun cs x hx => u64E.kept hx hb11) hb11; have hn := hn.kept (fun cs x hx => u64E.kept hx hb11) hb11; obtain ⟨k0, k1, k2, k3, k4, k5, k6⟩ := cells7 hbx)
  | (go_at_call 21; (with_reducible refine (zqq _ _ (HT.out _ (zp hb1 hbx).1) hv).mono ?_); rintro e w12 ⟨rfl, hb12⟩; have hbx := hbx.trans (hb12.mono hbx.size); have hv := hv.kept (fun cs x hx => u64E.kept hx hb12) hb12; have hn := hn.kept (fun cs x hx => u64E.kept hx hb12) hb12)
  | (go_at_call 21; (with_reducible refine (zqr _ _ (HT.out _ (zp hb1 hbx).1) hn).mono ?_); rintro e w13 ⟨rfl, hb13⟩; have hbx := hbx.trans (hb13.mono hbx.size); have hbx := hbx.alloc hbx.size (.cells #[.int .i64 2, .int .i64 (-64)] 3))
  | (go_at_call 22; (with_reducible refine (zjz _ _ [2, -64] 0 (HT.out _ (zp hb1 hbx).1) (zc5 (heap_alloc_new _ _) (by decide) (by decide)) (fun X v h1 h2 h3 => zva X v _ h1 h2 h3)).mono ?_); rintro e w14 ⟨rfl, hb14⟩; have hbx := hbx.trans (hb14.mono hbx.size); have hbx := hbx.alloc hbx.size (.cells #[.int .i64 2, .int .i64 (-65)] 3))
  | (go_at_call 22; (with_reducible refine (zjz _ _ [2, -65] 24 (HT.out _ (zp hb1 hbx).1) (zc5 (heap_alloc_new _ _) (by decide) (by decide)) (fun X v h1 h2 h3 => zwl X v _ h1 h2 h3)).mono ?_); rintro e w15 ⟨rfl, hb15⟩; have hbx := hbx.trans (hb15.mono hbx.size)))
 go_ret
 exact ⟨rfl, (zp hb1 hbx).1⟩
end Go.Proofs.YtjjfeddenhemhaaGreatDoor
