import Derived.Test.YtdmadnfadgggcaaGreatDoorGp
import Derived.Test.YtdmadnfadgggcaaGreatDoorGe
import Derived.WideShapes
import Derived.BigQuiet
set_option linter.unusedVariables false
set_option linter.unusedSimpArgs false
set_option warningAsError false
set_option maxHeartbeats 2000000
open Go.Lib (hid)
open Go.Proofs.Tryz (prog)
noncomputable section
namespace Go.Proofs.YtdmadnfadgggcaaGreatDoor
open Go.RowKit Go.Instr
set_option maxRecDepth 100000
theorem zba {w : World} {k : Nat} {a : Int} {T : Nat} (h : w.heap[k]? = some (.cells #[.int .i64 a] T)) (ha : -9223372036854775808 <= a /\ a <= 9223372036854775807) : zf 1 intE w (.slice (some ⟨k, 0, none⟩) 1 1) [a] := by
 refine ⟨some ⟨k, 0, none⟩, 1, rfl, by simp [maxLen], by simp, by simp [maxLen], ?_⟩;intro i x hx;have hk : k < w.heap.size := by obtain ⟨h1, _⟩ := Array.getElem?_eq_some_iff.1 h; exact h1
 match i, hx with
 | 0, hx =>
   obtain rfl : a = x := by simpa using hx
   refine ⟨k, 0, [.int .i64 a], rfl, hk, rfl, ?_, rfl, ha⟩;intro j u hj
   match j, hj with
   | 0, hj => obtain rfl : Value.int .i64 a = u := by simpa using hj
              exact zb h rfl
   | j + 1, hj => simp at hj
 | i + 1, hx => simp at hx
def z1y (m : Mach) (a : Int) : Int × Int × Int := if zy m [a] = 0 then (match m.regs[a.toNat]? with | some x => (z1l m.regs a.toNat x, x.low, x.width) | none => (0, 0, 0)) else (0, 0, 0)
theorem z97 (w : World) (v : Value) (m : Mach) (hm : zz w v m) (hT : zs w) (hef : ∀ x ∈ m.instrs, ∀ f ∈ x.effs, z3v f) (a : Int) (ha : -9223372036854775808 <= a /\ a <= 9223372036854775807) :
 Calls prog 14 #[v, .int .i64 a] w fun e w' => e = .returned (.tuple #[.int .i64 (z1y m a).1, .int .i64 (z1y m a).2.1, .int .i64 (z1y m a).2.2, .int .i64 (zy m [a])]) /\ Below w.heap.size w w' := by
 have hm' := hm;obtain ⟨cs0, rfl, sr, sb, su, si, hcs, h1, h2, h3, hR, hB, hU, hI⟩ := hm;obtain rfl : cs0 = #[.string m.name, .int .i64 m.word, .int .i64 m.address, sr, sb, su, si] := by cases cs0; simp_all
 obtain ⟨W1, hW1⟩ : ∃ W1, W1 = w.alloc (.cells #[.string m.name, .int .i64 m.word, .int .i64 m.address, sr, sb, su, si] 27) := ⟨_, rfl⟩;have hb1 : Below w.heap.size w W1 := by rw [hW1]; exact (Below.refl _ _).alloc (Nat.le_refl _) _
 have hl1 : w.heap.size < W1.heap.size := by rw [hW1]; simp
 have hs1 : W1.heap.size = w.heap.size + 1 := by rw [hW1]; simp
 have hblk1 : W1.heap[w.heap.size]? = some (.cells #[.string m.name, .int .i64 m.word, .int .i64 m.address, sr, sb, su, si] 27) := by rw [hW1]; exact heap_alloc_new _ _
 obtain ⟨W2, hW2⟩ : ∃ W2, W2 = W1.alloc (.cells #[.int .i64 a] 3) := ⟨_, rfl⟩;have hb2 : Below W1.heap.size W1 W2 := by rw [hW2]; exact (Below.refl _ _).alloc (Nat.le_refl _) _
 have hblk2 : W2.heap[w.heap.size + 1]? = some (.cells #[.int .i64 a] 3) := by rw [hW2, <- hs1]; exact heap_alloc_new _ _
 have hw2 : Below w.heap.size w W2 := hb1.trans (hb2.mono hb1.size);have HQ := hid (show ∀ X, Below W1.heap.size W1 X -> X.cell? ⟨w.heap.size, 0, none⟩ = some (.string m.name) /\ X.cell? ⟨w.heap.size, 1, none⟩ = some (.int .i64 m.word) /\ X.cell? ⟨w.heap.size, 2, none⟩ = some (.int .i64 m.address) /\ X.cell? ⟨w.heap.size, 3, none⟩ = some sr /\ X.cell? ⟨w.heap.size, 4, none⟩ = some sb /\ X.cell? ⟨w.heap.size, 5, none⟩ = some su /\ X.cell? ⟨w.heap.size, 6, none⟩ = some si from fun X hX => by have e1 := (hX.block _ hl1).trans hblk1;exact ⟨zb e1 rfl, zb e1 rfl, zb e1 rfl, zb e1 rfl, zb e1 rfl, zb e1 rfl, zb e1 rfl⟩)
 have HGR := hid (show ∀ X, Below W1.heap.size W1 X -> Below w.heap.size w X from fun X hX => hb1.trans (hX.mono hb1.size));obtain ⟨ce, hce⟩ : ∃ z, zy m [a] = z := ⟨_, rfl⟩;have HCI := hid ((z2u W2 (.agg #[.string m.name, .int .i64 m.word, .int .i64 m.address, sr, sb, su, si]) m (hm'.kept hw2) (hT.below hw2) hef _ [a] (zba hblk2 ha) (by simp)).mono (R' := fun e w' => e = .returned (.int .i64 ce) /\ Below W1.heap.size W1 w') fun e w' ⟨h1, h2⟩ => ⟨by rw [h1, hce], hb2.trans (h2.mono hb2.size)⟩);have hMV : ∀ X, Below W1.heap.size W1 X -> zz X (.agg #[.string m.name, .int .i64 m.word, .int .i64 m.address, sr, sb, su, si]) m := fun X hX => hm'.kept (HGR.out X hX);rw [hW2, hW1] at HCI;have HW1 := hid hW1;have HCE := hid hce;rw [hce];have hk : ce = 0 ∨ ce ≠ 0 := by omega
 rcases hk with rfl | hne
 ·have hce0 := hce;unfold zy at hce0;have hc0 : chkR m = 0 := by
   by_cases h : chkR m = 0
   ·exact h
   ·rw [if_neg h] at hce0; exact hce0
  rw [if_pos hc0] at hce0;have hall : idxM m a = true := by cases hA : idxM m a <;> simp [hA] at hce0 ⊢
  unfold idxM at hall;simp only [decide_eq_true_eq] at hall;obtain ⟨ha0, ha1⟩ := hall;obtain ⟨i, rfl⟩ : ∃ i : Nat, a = (i : Int) := ⟨a.toNat, by omega⟩;obtain ⟨x, hx⟩ : ∃ x, m.regs[i]? = some x := ⟨_, List.getElem?_eq_getElem (by omega)⟩;have hlr : m.regs.length <= 1000 := by have := z3m hc0; omega
  have hpt : z1y m i = (z1l m.regs i x, x.low, x.width) := by unfold z1y; rw [if_pos hce]; simp only [Int.toNat_natCast, hx]
  rw [hpt];obtain ⟨pa, hpa⟩ : ∃ z, z1l m.regs i x = z := ⟨_, rfl⟩;obtain ⟨xl, hxl⟩ : ∃ z, x.low = z := ⟨_, rfl⟩;obtain ⟨xw, hxw⟩ : ∃ z, x.width = z := ⟨_, rfl⟩;have HPA := hid (show ∀ X, Below W1.heap.size W1 X -> Calls prog 45 #[.agg #[.string m.name, .int .i64 m.word, .int .i64 m.address, sr, sb, su, si], .int .i64 i] X fun e w' => e = .returned (.tuple #[.int .i64 pa, .int .i64 xl, .int .i64 xw]) /\ Below W1.heap.size W1 w' from fun X hX => (z54 X _ m (hMV X hX) hlr i x hx).mono fun e w' ⟨h1, h2⟩ => ⟨by rw [h1, hpa, hxl, hxw], hX.trans (h2.mono hX.size)⟩);rw [hpa, hxl, hxw];clear hR hB hU hI hcs hW1 hW2 hblk1 hblk2 hl1 hs1 hb1 hb2 hw2 hm' hT hef hMV hce hce0 hx hxl hxw hpa hpt hc0 hlr ha0 ha1 ha;go_enter Tryz.func14, Tryz.ntmps14
  go_wp2_with (first
   | (go_at_call 44; (with_reducible refine HCI.out.mono ?_); rintro e w3 ⟨rfl, hb3⟩; rw [<- HW1.out] at hb3; obtain ⟨c0, c1, c2, c3, c4, c5, c6⟩ := HQ.out _ hb3)
   | (go_at_call 45; (with_reducible refine (HPA.out _ (by assumption)).mono ?_); rintro e w4 ⟨rfl, hb4⟩))
  exact bodyPost_ret (v := .tuple #[.int .i64 pa, .int .i64 xl, .int .i64 xw, .int .i64 0]) (by simp [results, Tryz.results14, go_sem]) rfl ⟨rfl, HGR.out _ hb4⟩
 ·have hpt : z1y m a = (0, 0, 0) := by unfold z1y; rw [if_neg (by rw [hce]; exact hne)]
  rw [hpt];have g : (ce != 0) = true := by simp [hne]
  clear hR hB hU hI hcs hW1 hW2 hblk1 hblk2 hl1 hs1 hb1 hb2 hw2 hm' hT hef hMV hce ha hne hpt;go_enter Tryz.func14, Tryz.ntmps14
  go_wp2_with (go_at_call 44; (with_reducible refine HCI.out.mono ?_); rintro e w3 ⟨rfl, hb3⟩; rw [<- HW1.out] at hb3)
  exact bodyPost_ret (v := .tuple #[.int .i64 0, .int .i64 0, .int .i64 0, .int .i64 ce]) (by simp [results, Tryz.results14, go_sem]) rfl ⟨rfl, HGR.out _ hb3⟩
theorem z84 (w : World) (v : Value) (m : Mach) (hm : zz w v m) (hT : zs w) (hef : ∀ x ∈ m.instrs, ∀ f ∈ x.effs, z3v f) :
 Calls prog 12 #[v] w fun e w' => ∃ sv, e = .returned (.tuple #[sv, .int .i64 (chkR m)]) /\ (chkR m = 0 -> zf 1 intE w' sv ((z29 m.regs).map fun (z : Nat) => (z : Int))) /\ (chkR m ≠ 0 -> sv = .slice none 0 0) /\ Below w.heap.size w w' := by
 have hm' := hm;obtain ⟨cs0, rfl, sr, sb, su, si, hcs, h1, h2, h3, hR, hB, hU, hI⟩ := hm;obtain rfl : cs0 = #[.string m.name, .int .i64 m.word, .int .i64 m.address, sr, sb, su, si] := by cases cs0; simp_all
 obtain ⟨W1, hW1⟩ : ∃ W1, W1 = w.alloc (.cells #[.string m.name, .int .i64 m.word, .int .i64 m.address, sr, sb, su, si] 27) := ⟨_, rfl⟩;have hb1 : Below w.heap.size w W1 := by rw [hW1]; exact (Below.refl _ _).alloc (Nat.le_refl _) _
 have hl1 : w.heap.size < W1.heap.size := by rw [hW1]; simp
 have hs1 : W1.heap.size = w.heap.size + 1 := by rw [hW1]; simp
 have hblk1 : W1.heap[w.heap.size]? = some (.cells #[.string m.name, .int .i64 m.word, .int .i64 m.address, sr, sb, su, si] 27) := by rw [hW1]; exact heap_alloc_new _ _
 have HQ := hid (show ∀ X, Below W1.heap.size W1 X -> X.cell? ⟨w.heap.size, 0, none⟩ = some (.string m.name) /\ X.cell? ⟨w.heap.size, 1, none⟩ = some (.int .i64 m.word) /\ X.cell? ⟨w.heap.size, 2, none⟩ = some (.int .i64 m.address) /\ X.cell? ⟨w.heap.size, 3, none⟩ = some sr /\ X.cell? ⟨w.heap.size, 4, none⟩ = some sb /\ X.cell? ⟨w.heap.size, 5, none⟩ = some su /\ X.cell? ⟨w.heap.size, 6, none⟩ = some si from fun X hX => by have e1 := (hX.block _ hl1).trans hblk1;exact ⟨zb e1 rfl, zb e1 rfl, zb e1 rfl, zb e1 rfl, zb e1 rfl, zb e1 rfl, zb e1 rfl⟩)
 have HGR := hid (show ∀ X, Below W1.heap.size W1 X -> Below w.heap.size w X from fun X hX => hb1.trans (hX.mono hb1.size));obtain ⟨ce, hce⟩ : ∃ z, chkR m = z := ⟨_, rfl⟩;have HCK := hid ((z4e W1 (.agg #[.string m.name, .int .i64 m.word, .int .i64 m.address, sr, sb, su, si]) m (hm'.kept hb1) (hT.below hb1) hef).mono (R' := fun e w' => e = .returned (.int .i64 ce) /\ Below W1.heap.size W1 w') fun e w' ⟨h1, h2⟩ => ⟨by rw [h1, hce], h2⟩);rw [hW1] at HCK;have HW1 := hid hW1;rw [hce];have hk : ce = 0 ∨ ce ≠ 0 := by omega
 rcases hk with rfl | hne
 ·have hlr : m.regs.length <= 1000 := by have := z3m hce; omega
  have HRO := hid (show ∀ X, Below W1.heap.size W1 X -> Calls prog 42 #[.agg #[.string m.name, .int .i64 m.word, .int .i64 m.address, sr, sb, su, si]] X fun e w' => ∃ sv, e = .returned sv /\ zf 1 intE w' sv ((z29 m.regs).map fun (z : Nat) => (z : Int)) /\ Below W1.heap.size W1 w' from fun X hX => (z6t X _ m (hm'.kept (HGR.out X hX)) hlr).mono fun e w' ⟨sv, h1, h2, h3⟩ => ⟨sv, h1, h2, hX.trans (h3.mono hX.size)⟩);clear hR hB hU hI hcs hW1 hblk1 hl1 hs1 hb1 hm' hT hef hce hlr;go_enter Tryz.func12, Tryz.ntmps12
  go_wp2_with (first
   | (go_at_call 41; (with_reducible refine HCK.out.mono ?_); rintro e w3 ⟨rfl, hb3⟩; rw [<- HW1.out] at hb3; obtain ⟨c0, c1, c2, c3, c4, c5, c6⟩ := HQ.out _ hb3)
   | (go_at_call 42; (with_reducible refine (HRO.out _ (by assumption)).mono ?_); rintro e w4 ⟨sv, rfl, hrow, hb4⟩))
  exact bodyPost_ret (v := .tuple #[sv, .int .i64 0]) (by simp [results, Tryz.results12, go_sem]) rfl ⟨sv, rfl, fun _ => hrow, fun h => absurd rfl h, HGR.out _ hb4⟩
 ·have g : (ce != 0) = true := by simp [hne]
  have HNE := hid hne;clear hR hB hU hI hcs hW1 hblk1 hl1 hs1 hb1 hm' hT hef hce hne;go_enter Tryz.func12, Tryz.ntmps12
  go_wp2_with (go_at_call 41; (with_reducible refine HCK.out.mono ?_); rintro e w3 ⟨rfl, hb3⟩; rw [<- HW1.out] at hb3)
  exact bodyPost_ret (v := .tuple #[.slice none 0 0, .int .i64 ce]) (by simp [results, Tryz.results12, go_sem]) rfl ⟨_, rfl, fun h => absurd h HNE.out, fun _ => rfl, HGR.out _ hb3⟩
def z1s {α : Type} (m : Mach) (p : α -> Bool) (L : List α) : Int := if chkR m = 0 then (if 0 <= ixF p L then 0 else 6) else chkR m
def z2b {α : Type} (m : Mach) (p : α -> Bool) (L : List α) : Int := if chkR m = 0 then (if 0 <= ixF p L then ixF p L else 0) else 0
theorem Says.later {α : Type} {E : World -> List Value -> α -> Prop} {w w' : World} {g : Nat} {lb : Array Value} {p : α -> Bool} {L : List α} (h : Says E w g lb p L) (hb : Below w.heap.size w w') : Says E w' g lb p L :=
 fun W hW x hx cs hE => h W (hb.trans (hW.mono hb.size)) x hx cs hE
theorem zfg (w : World) (v : Value) (m : Mach) (hm : zz w v m) (hT : zs w) (hef : ∀ x ∈ m.instrs, ∀ f ∈ x.effs, z3v f) (sl : Value) (L : List MReg) (hL : zf 4 regE w sl L) (g : Nat) (lb : Array Value) (eg : ∀ args w, (callFunc g args).run prog w = .ok (.enter g args) w) (p : MReg -> Bool) (hp : Says regE w g lb p L) :
 Calls prog 36 #[v, sl, .func (.func g) #[] lb] w fun e w' => e = .returned (.tuple #[.int .i64 (z2b m p L), .int .i64 (z1s m p L)]) /\ Below w.heap.size w w' := by
 have hm' := hm;obtain ⟨cs0, rfl, sr, sb, su, si, hcs, h1, h2, h3, hR, hB, hU, hI⟩ := hm;obtain rfl : cs0 = #[.string m.name, .int .i64 m.word, .int .i64 m.address, sr, sb, su, si] := by cases cs0; simp_all
 obtain ⟨W1, hW1⟩ : ∃ W1, W1 = w.alloc (.cells #[.string m.name, .int .i64 m.word, .int .i64 m.address, sr, sb, su, si] 27) := ⟨_, rfl⟩;have hb1 : Below w.heap.size w W1 := by rw [hW1]; exact (Below.refl _ _).alloc (Nat.le_refl _) _
 obtain ⟨ce, hce⟩ : ∃ z, chkR m = z := ⟨_, rfl⟩;obtain ⟨ix, hix⟩ : ∃ z, ixF p L = z := ⟨_, rfl⟩;have HCK := hid ((z4e W1 (.agg #[.string m.name, .int .i64 m.word, .int .i64 m.address, sr, sb, su, si]) m (hm'.kept hb1) (hT.below hb1) hef).mono (R' := fun e w' => e = .returned (.int .i64 ce) /\ Below w.heap.size w w') fun e w' ⟨h1, h2⟩ => ⟨by rw [h1, hce], hb1.trans (h2.mono hb1.size)⟩);have HIX := hid (show ∀ X, Below w.heap.size w X -> Calls prog 74 #[sl, .func (.func g) #[] lb] X fun e w' => e = .returned (.int .i64 ix) /\ Below w.heap.size w w' from fun X hX => (zgw sl L X (hL.kept (fun cs x hx => hx.kept hX) hX) g lb eg p (hp.later hX)).mono fun e w' ⟨h1, h2⟩ => ⟨by rw [h1, hix], hX.trans (h2.mono hX.size)⟩);rw [hW1] at HCK;unfold z2b z1s;rw [hce, hix];clear hR hB hU hI hcs hW1 hb1 hm' hT hef hce hix hL hp eg;have hk : ce = 0 ∨ ce ≠ 0 := by omega
 rcases hk with rfl | hne
 ·rw [if_pos rfl, if_pos rfl];by_cases hx : 0 <= ix
  ·rw [if_pos hx, if_pos hx];have g0 : decide (ix < 0) = false := by simp; omega
   clear hx;go_enter Tryz.func36, Tryz.ntmps36
   go_wp2_with (first
    | (go_at_call 41; (with_reducible refine HCK.out.mono ?_); rintro e w3 ⟨rfl, hb3⟩)
    | (go_at_call 74; (with_reducible refine (HIX.out _ (by assumption)).mono ?_); rintro e w4 ⟨rfl, hb4⟩))
   exact bodyPost_ret (v := .tuple #[.int .i64 ix, .int .i64 0]) (by simp [results, Tryz.results36, go_sem]) rfl ⟨rfl, hb4⟩
  ·rw [if_neg hx, if_neg hx];have g0 : decide (ix < 0) = true := by simp; omega
   clear hx;go_enter Tryz.func36, Tryz.ntmps36
   go_wp2_with (first
    | (go_at_call 41; (with_reducible refine HCK.out.mono ?_); rintro e w3 ⟨rfl, hb3⟩)
    | (go_at_call 74; (with_reducible refine (HIX.out _ (by assumption)).mono ?_); rintro e w4 ⟨rfl, hb4⟩))
   exact bodyPost_ret (v := .tuple #[.int .i64 0, .int .i64 6]) (by simp [results, Tryz.results36, go_sem]) rfl ⟨rfl, hb4⟩
 ·rw [if_neg hne, if_neg hne];have g0 : (ce != 0) = true := by simp [hne]
  clear hne;go_enter Tryz.func36, Tryz.ntmps36
  go_wp2_with (go_at_call 41; (with_reducible refine HCK.out.mono ?_); rintro e w3 ⟨rfl, hb3⟩)
  exact bodyPost_ret (v := .tuple #[.int .i64 0, .int .i64 ce]) (by simp [results, Tryz.results36, go_sem]) rfl ⟨rfl, hb3⟩
theorem zff (w : World) (v : Value) (m : Mach) (hm : zz w v m) (hT : zs w) (hef : ∀ x ∈ m.instrs, ∀ f ∈ x.effs, z3v f) (sl : Value) (L : List MIns) (hL : zf 9 insE w sl L) (g : Nat) (lb : Array Value) (eg : ∀ args w, (callFunc g args).run prog w = .ok (.enter g args) w) (p : MIns -> Bool) (hp : Says insE w g lb p L) :
 Calls prog 39 #[v, sl, .func (.func g) #[] lb] w fun e w' => e = .returned (.tuple #[.int .i64 (z2b m p L), .int .i64 (z1s m p L)]) /\ Below w.heap.size w w' := by
 have hm' := hm;obtain ⟨cs0, rfl, sr, sb, su, si, hcs, h1, h2, h3, hR, hB, hU, hI⟩ := hm;obtain rfl : cs0 = #[.string m.name, .int .i64 m.word, .int .i64 m.address, sr, sb, su, si] := by cases cs0; simp_all
 obtain ⟨W1, hW1⟩ : ∃ W1, W1 = w.alloc (.cells #[.string m.name, .int .i64 m.word, .int .i64 m.address, sr, sb, su, si] 27) := ⟨_, rfl⟩;have hb1 : Below w.heap.size w W1 := by rw [hW1]; exact (Below.refl _ _).alloc (Nat.le_refl _) _
 obtain ⟨ce, hce⟩ : ∃ z, chkR m = z := ⟨_, rfl⟩;obtain ⟨ix, hix⟩ : ∃ z, ixF p L = z := ⟨_, rfl⟩;have HCK := hid ((z4e W1 (.agg #[.string m.name, .int .i64 m.word, .int .i64 m.address, sr, sb, su, si]) m (hm'.kept hb1) (hT.below hb1) hef).mono (R' := fun e w' => e = .returned (.int .i64 ce) /\ Below w.heap.size w w') fun e w' ⟨h1, h2⟩ => ⟨by rw [h1, hce], hb1.trans (h2.mono hb1.size)⟩);have HIX := hid (show ∀ X, Below w.heap.size w X -> Calls prog 81 #[sl, .func (.func g) #[] lb] X fun e w' => e = .returned (.int .i64 ix) /\ Below w.heap.size w w' from fun X hX => (zdv sl L X (hL.kept (fun cs x hx => hx.kept hX) hX) g lb eg p (hp.later hX)).mono fun e w' ⟨h1, h2⟩ => ⟨by rw [h1, hix], hX.trans (h2.mono hX.size)⟩);rw [hW1] at HCK;unfold z2b z1s;rw [hce, hix];clear hR hB hU hI hcs hW1 hb1 hm' hT hef hce hix hL hp eg;have hk : ce = 0 ∨ ce ≠ 0 := by omega
 rcases hk with rfl | hne
 ·rw [if_pos rfl, if_pos rfl];by_cases hx : 0 <= ix
  ·rw [if_pos hx, if_pos hx];have g0 : decide (ix < 0) = false := by simp; omega
   clear hx;go_enter Tryz.func39, Tryz.ntmps39
   go_wp2_with (first
    | (go_at_call 41; (with_reducible refine HCK.out.mono ?_); rintro e w3 ⟨rfl, hb3⟩)
    | (go_at_call 81; (with_reducible refine (HIX.out _ (by assumption)).mono ?_); rintro e w4 ⟨rfl, hb4⟩))
   exact bodyPost_ret (v := .tuple #[.int .i64 ix, .int .i64 0]) (by simp [results, Tryz.results39, go_sem]) rfl ⟨rfl, hb4⟩
  ·rw [if_neg hx, if_neg hx];have g0 : decide (ix < 0) = true := by simp; omega
   clear hx;go_enter Tryz.func39, Tryz.ntmps39
   go_wp2_with (first
    | (go_at_call 41; (with_reducible refine HCK.out.mono ?_); rintro e w3 ⟨rfl, hb3⟩)
    | (go_at_call 81; (with_reducible refine (HIX.out _ (by assumption)).mono ?_); rintro e w4 ⟨rfl, hb4⟩))
   exact bodyPost_ret (v := .tuple #[.int .i64 0, .int .i64 6]) (by simp [results, Tryz.results39, go_sem]) rfl ⟨rfl, hb4⟩
 ·rw [if_neg hne, if_neg hne];have g0 : (ce != 0) = true := by simp [hne]
  clear hne;go_enter Tryz.func39, Tryz.ntmps39
  go_wp2_with (go_at_call 41; (with_reducible refine HCK.out.mono ?_); rintro e w3 ⟨rfl, hb3⟩)
  exact bodyPost_ret (v := .tuple #[.int .i64 0, .int .i64 ce]) (by simp [results, Tryz.results39, go_sem]) rfl ⟨rfl, hb3⟩
theorem z8w : ∀ (args : Array Value) (w : World), Sem.run prog (callFunc 37 args) w = .ok (.enter 37 args) w := fun _ _ => by kernel_rfl
theorem zes (w : World) (L : List MReg) (k : Nat) (s : ByteArray) (hk : k < w.heap.size) (hc : w.cell? ⟨k, 0, none⟩ = some (.string s)) : Says regE w 37 #[.pointer (some ⟨k, 0, none⟩)] (fun x => x.name.toList == s.toList) L := by
 intro W hb x hx cs hE;have hcW : W.cell? ⟨k, 0, none⟩ = some (.string s) := (hb.cell (p := ⟨k, 0, none⟩) hk).trans hc;obtain ⟨rfl, _⟩ := hE;have HB := hid (fun cs => (Below.refl W.heap.size W).alloc (Nat.le_refl _) (.cells cs 96));have HCB := hid (show ∀ cs, (W.alloc (.cells cs 96)).cell? ⟨k, 0, none⟩ = some (.string s) from fun cs => ((HB.out cs).cell (p := ⟨k, 0, none⟩) (Nat.lt_of_lt_of_le hk hb.size)).trans hcW);have c0 := HCB.out;clear hx hb hc hk hcW;go_enter Tryz.func37, Tryz.ntmps37
 go_wp2
 exact bodyPost_ret (v := .bool (x.name.toList == s.toList)) (by simp [results, Tryz.results37, go_sem]) rfl ⟨rfl, HB.out _⟩
theorem z8m (w : World) (v : Value) (m : Mach) (hm : zz w v m) (hT : zs w) (hef : ∀ x ∈ m.instrs, ∀ f ∈ x.effs, z3v f) (s : ByteArray) :
 Calls prog 8 #[v, .string s] w fun e w' => e = .returned (.tuple #[.int .i64 (z2b m (fun x : MReg => x.name.toList == s.toList) m.regs), .int .i64 (z1s m (fun x : MReg => x.name.toList == s.toList) m.regs)]) /\ Below w.heap.size w w' := by
 have hm' := hm;obtain ⟨cs0, rfl, sr, sb, su, si, hcs, h1, h2, h3, hR, hB, hU, hI⟩ := hm;obtain rfl : cs0 = #[.string m.name, .int .i64 m.word, .int .i64 m.address, sr, sb, su, si] := by cases cs0; simp_all
 obtain ⟨W1, hW1⟩ : ∃ W1, W1 = w.alloc (.cells #[.string m.name, .int .i64 m.word, .int .i64 m.address, sr, sb, su, si] 27) := ⟨_, rfl⟩;have hb1 : Below w.heap.size w W1 := by rw [hW1]; exact (Below.refl _ _).alloc (Nat.le_refl _) _
 have hs1 : W1.heap.size = w.heap.size + 1 := by rw [hW1]; simp
 obtain ⟨W2, hW2⟩ : ∃ W2, W2 = W1.alloc (.cells #[.string s] 9) := ⟨_, rfl⟩;have hb2 : Below W1.heap.size W1 W2 := by rw [hW2]; exact (Below.refl _ _).alloc (Nat.le_refl _) _
 have hs2 : W2.heap.size = w.heap.size + 2 := by rw [hW2]; simp [hs1]
 have hblk2 : W2.heap[w.heap.size + 1]? = some (.cells #[.string s] 9) := by rw [hW2, <- hs1]; exact heap_alloc_new _ _
 have hw2 : Below w.heap.size w W2 := hb1.trans (hb2.mono hb1.size);have HF := hid ((zfg W2 (.agg #[.string m.name, .int .i64 m.word, .int .i64 m.address, sr, sb, su, si]) m (hm'.kept hw2) (hT.below hw2) hef sr m.regs (zf.kept hR (fun cs x hx => hx.kept hw2) hw2) 37 #[.pointer (some ⟨w.heap.size + 1, 0, none⟩)] z8w (fun x => x.name.toList == s.toList) (zes W2 _ (w.heap.size + 1) s (by omega) (zb hblk2 rfl))).mono fun e w' ⟨h1, h2⟩ => (⟨h1, hw2.trans (h2.mono hw2.size)⟩ : _ /\ Below w.heap.size w w'));rw [hW2, hW1] at HF;obtain ⟨r1, hr1⟩ : ∃ z, z2b m (fun x : MReg => x.name.toList == s.toList) m.regs = z := ⟨_, rfl⟩;obtain ⟨r2, hr2⟩ : ∃ z, z1s m (fun x : MReg => x.name.toList == s.toList) m.regs = z := ⟨_, rfl⟩;rw [hr1, hr2] at HF ⊢;clear hR hB hU hI hcs hW1 hW2 hb1 hb2 hs1 hs2 hblk2 hw2 hm' hT hef hr1 hr2;go_enter Tryz.func8, Tryz.ntmps8
 go_wp2_with (go_at_call 36; (with_reducible refine HF.out.mono ?_); rintro e w3 ⟨rfl, hb3⟩)
 exact bodyPost_ret (v := .tuple #[.int .i64 r1, .int .i64 r2]) (by simp [results, Tryz.results8, go_sem]) rfl ⟨rfl, hb3⟩
theorem z8v : ∀ (args : Array Value) (w : World), Sem.run prog (callFunc 40 args) w = .ok (.enter 40 args) w := fun _ _ => by kernel_rfl
theorem zdx (w : World) (L : List MIns) (k : Nat) (s : ByteArray) (hk : k < w.heap.size) (hc : w.cell? ⟨k, 0, none⟩ = some (.string s)) : Says insE w 40 #[.pointer (some ⟨k, 0, none⟩)] (fun x => x.name.toList == s.toList) L := by
 intro W hb x hx cs hE;have hcW : W.cell? ⟨k, 0, none⟩ = some (.string s) := (hb.cell (p := ⟨k, 0, none⟩) hk).trans hc;obtain ⟨_, _, rfl, _, _, _, ⟨Ab, cb, rfl, _⟩, ⟨Ac, cc, rfl, _⟩, _⟩ := hE;have HB := hid (fun cs => (Below.refl W.heap.size W).alloc (Nat.le_refl _) (.cells cs 83));have HCB := hid (show ∀ cs, (W.alloc (.cells cs 83)).cell? ⟨k, 0, none⟩ = some (.string s) from fun cs => ((HB.out cs).cell (p := ⟨k, 0, none⟩) (Nat.lt_of_lt_of_le hk hb.size)).trans hcW);have c0 := HCB.out;clear hx hb hc hk hcW;go_enter Tryz.func40, Tryz.ntmps40
 go_wp2
 exact bodyPost_ret (v := .bool (x.name.toList == s.toList)) (by simp [results, Tryz.results40, go_sem]) rfl ⟨rfl, HB.out _⟩
theorem z63 (w : World) (v : Value) (m : Mach) (hm : zz w v m) (hT : zs w) (hef : ∀ x ∈ m.instrs, ∀ f ∈ x.effs, z3v f) (s : ByteArray) :
 Calls prog 10 #[v, .string s] w fun e w' => e = .returned (.tuple #[.int .i64 (z2b m (fun x : MIns => x.name.toList == s.toList) m.instrs), .int .i64 (z1s m (fun x : MIns => x.name.toList == s.toList) m.instrs)]) /\ Below w.heap.size w w' := by
 have hm' := hm;obtain ⟨cs0, rfl, sr, sb, su, si, hcs, h1, h2, h3, hR, hB, hU, hI⟩ := hm;obtain rfl : cs0 = #[.string m.name, .int .i64 m.word, .int .i64 m.address, sr, sb, su, si] := by cases cs0; simp_all
 obtain ⟨W1, hW1⟩ : ∃ W1, W1 = w.alloc (.cells #[.string m.name, .int .i64 m.word, .int .i64 m.address, sr, sb, su, si] 27) := ⟨_, rfl⟩;have hb1 : Below w.heap.size w W1 := by rw [hW1]; exact (Below.refl _ _).alloc (Nat.le_refl _) _
 have hs1 : W1.heap.size = w.heap.size + 1 := by rw [hW1]; simp
 obtain ⟨W2, hW2⟩ : ∃ W2, W2 = W1.alloc (.cells #[.string s] 9) := ⟨_, rfl⟩;have hb2 : Below W1.heap.size W1 W2 := by rw [hW2]; exact (Below.refl _ _).alloc (Nat.le_refl _) _
 have hs2 : W2.heap.size = w.heap.size + 2 := by rw [hW2]; simp [hs1]
 have hblk2 : W2.heap[w.heap.size + 1]? = some (.cells #[.string s] 9) := by rw [hW2, <- hs1]; exact heap_alloc_new _ _
 have hw2 : Below w.heap.size w W2 := hb1.trans (hb2.mono hb1.size);have HF := hid ((zff W2 (.agg #[.string m.name, .int .i64 m.word, .int .i64 m.address, sr, sb, su, si]) m (hm'.kept hw2) (hT.below hw2) hef si m.instrs (zf.kept hI (fun cs x hx => hx.kept hw2) hw2) 40 #[.pointer (some ⟨w.heap.size + 1, 0, none⟩)] z8v (fun x => x.name.toList == s.toList) (zdx W2 _ (w.heap.size + 1) s (by omega) (zb hblk2 rfl))).mono fun e w' ⟨h1, h2⟩ => (⟨h1, hw2.trans (h2.mono hw2.size)⟩ : _ /\ Below w.heap.size w w'));rw [hW2, hW1] at HF;obtain ⟨r1, hr1⟩ : ∃ z, z2b m (fun x : MIns => x.name.toList == s.toList) m.instrs = z := ⟨_, rfl⟩;obtain ⟨r2, hr2⟩ : ∃ z, z1s m (fun x : MIns => x.name.toList == s.toList) m.instrs = z := ⟨_, rfl⟩;rw [hr1, hr2] at HF ⊢;clear hR hB hU hI hcs hW1 hW2 hb1 hb2 hs1 hs2 hblk2 hw2 hm' hT hef hr1 hr2;go_enter Tryz.func10, Tryz.ntmps10
 go_wp2_with (go_at_call 39; (with_reducible refine HF.out.mono ?_); rintro e w3 ⟨rfl, hb3⟩)
 exact bodyPost_ret (v := .tuple #[.int .i64 r1, .int .i64 r2]) (by simp [results, Tryz.results10, go_sem]) rfl ⟨rfl, hb3⟩
end Go.Proofs.YtdmadnfadgggcaaGreatDoor
namespace Go.Proofs.YtdmadnfadgggcaaGreatDoor
open Go.RowKit Go.Instr Go.Sort
set_option maxRecDepth 100000
def u64E (w : World) (cs : List Value) (x : Nat) : Prop := cs = [.int .u64 (x : Nat)] /\ x < 18446744073709551616
theorem u64E.kept {w w' : World} {cs : List Value} {x : Nat} (h : u64E w cs x) (hb : Below w.heap.size w w') : u64E w' cs x := h
def eqF (p : Int -> Nat -> Bool) (L : List Int) (V : List Nat) : Bool := decide (L.length = V.length) && (L.zip V).all (fun q => p q.1 q.2)
def Says2 (w : World) (g : Nat) (lb : Array Value) (p : Int -> Nat -> Bool) (L : List Int) (V : List Nat) : Prop :=
 ∀ (W : World), Below w.heap.size w W -> ∀ z x, z ∈ L -> x ∈ V -> Calls prog g (#[.int .i64 z, .int .u64 (x : Nat)] ++ lb) W fun e w' => e = .returned (.bool (p z x)) /\ Below W.heap.size W w'
theorem zdj (v u : Value) (L : List Int) (V : List Nat) (w : World) (hR : zf 1 intE w v L) (hV : zf 1 u64E w u V) (g : Nat) (lb : Array Value) (eg : ∀ args w, (callFunc g args).run prog w = .ok (.enter g args) w) (p : Int -> Nat -> Bool) (hp : Says2 w g lb p L V) :
 Calls prog 88 #[v, u, .func (.func g) #[] lb] w fun e w' => e = .returned (.bool (eqF p L V)) /\ Below w.heap.size w w' := by
 have HR := hid hR;have HV := hid hV;have HP := hid hp;obtain ⟨A, c, rfl, hn1, _, _, _⟩ := hR;obtain ⟨Au, cu, rfl, hm1, _, _, _⟩ := hV;obtain ⟨r, hr⟩ : ∃ r, eqF p L V = r := ⟨_, rfl⟩;obtain ⟨n, hn⟩ : ∃ n, L.length = n := ⟨_, rfl⟩;obtain ⟨m, hm⟩ : ∃ m, V.length = m := ⟨_, rfl⟩;have HN := hid hn;have HM := hid hm;have HRR := hid hr;have hmx : maxLen <= 9223372036854775807 := by decide
 rw [hn] at hn1 ⊢;rw [hm] at hm1 ⊢;rw [hr];have hn2 : n <= 9223372036854775807 := Nat.le_trans hn1 hmx;have hm2 : m <= 9223372036854775807 := Nat.le_trans hm1 hmx;clear hp hn1 hm1 hmx hn hm hr;by_cases hnm : n = m
 ·subst hnm;have hr0 : ((L.zip V).drop 0).all (fun q => p q.1 q.2) = r := by rw [List.drop_zero, <- HRR.out]; unfold eqF; rw [HN.out, HM.out]; simp
  have HS := hid hr0;clear hr0;go_enter Tryz.func88, Tryz.ntmps88
  go_wp2
  go_loopw [7, 8, 9, 17] (fun _ _ _ v wr => ∃ i : Nat, v = .int .i64 i /\ i <= n /\ Hid (Below w.heap.size w wr /\ ((L.zip V).drop i).all (fun q => p q.1 q.2) = r)) (fun _ _ _ v _ => n - (intOf v).toNat)
  case atStart => exact ⟨0, rfl, Nat.zero_le _, hid ⟨Below.refl _ _, HS.out⟩⟩
  case round =>
   obtain ⟨i, rfl, hi, HI⟩ := hrel;by_cases hlt : i < n
   ·obtain ⟨z, hz⟩ : ∃ x, L[i]? = some x := ⟨_, List.getElem?_eq_getElem (by rw [HN.out]; exact hlt)⟩;obtain ⟨x, hx⟩ : ∃ x, V[i]? = some x := ⟨_, List.getElem?_eq_getElem (by rw [HM.out]; exact hlt)⟩;obtain ⟨A', c', e1, _, _, _, hall⟩ := HR.out.kept (fun cs x hx => intE.kept hx HI.out.1) HI.out.1;obtain ⟨b, o, cs, e2, hb, hcl, hcell, hE⟩ := hall i z hz;obtain ⟨rfl, rfl⟩ : A = A' /\ c = c' := by cases e1; exact ⟨rfl, rfl⟩
    subst e2;obtain ⟨rfl, _⟩ := hE;obtain ⟨Au', cu', e1u, _, _, _, hallu⟩ := HV.out.kept (fun cs x hx => u64E.kept hx HI.out.1) HI.out.1;obtain ⟨bu, ou, csu, e2u, hbu, hclu, hcellu, hEu⟩ := hallu i x hx;obtain ⟨rfl, rfl⟩ : Au = Au' /\ cu = cu' := by cases e1u; exact ⟨rfl, rfl⟩
    subst e2u;obtain ⟨rfl, _⟩ := hEu;have c0 : wr.cell? ⟨b, o + i, none⟩ = some (.int .i64 z) := (by simpa using hcell 0 _ rfl);have d0 : wr.cell? ⟨bu, ou + i, none⟩ = some (.int .u64 (x : Nat)) := (by simpa using hcellu 0 _ rfl);have hcall := (HP.out wr HI.out.1 z x (List.mem_of_getElem? hz) (List.mem_of_getElem? hx)).mono (R' := fun e w' => e = .returned (.bool (p z x)) /\ Below w.heap.size w w') fun e w' ⟨h1, h2⟩ => ⟨h1, HI.out.1.trans (h2.mono HI.out.1.size)⟩;have hzl : (L.zip V).length = n := (by rw [List.length_zip, HN.out, HM.out]; exact Nat.min_self _);have hd : (L.zip V).drop i = (z, x) :: (L.zip V).drop (i + 1) := by
     rw [List.drop_eq_getElem_cons (by rw [hzl]; exact hlt)]
     congr 1
     rw [List.getElem_zip];rw [Option.some.inj ((List.getElem?_eq_getElem _).symm.trans hz), Option.some.inj ((List.getElem?_eq_getElem _).symm.trans hx)]
    have hj2 := HI.out.2;rw [hd, List.all_cons] at hj2;simp only [] at hj2;have HLT := hid hlt;have hin : (i : Int) < (n : Int) := (by omega);obtain ⟨q, hq⟩ : ∃ q, p z x = q := ⟨_, rfl⟩;rw [hq] at hcall hj2;have HCL := hid hcall;have HJ := hid hj2;clear hall hallu hcell hcellu hz hx e1 e1u hcl hclu hcall hj2 hq hd hzl HI
    cases q with
    | false =>
      have hr2 : r = false := (by rw [<- HJ.out]; rfl);have HR2 := hid hr2;clear hr2;go_wp2_with ((with_reducible refine HCL.out.mono ?_); rintro e w' ⟨rfl, hb'⟩)
      go_ret
      exact ⟨by rw [HR2.out]; rfl, hb'⟩
    | true =>
      go_wp2_with ((with_reducible refine HCL.out.mono ?_); rintro e w' ⟨rfl, hb'⟩)
      go_roundw
      case rel => exact ⟨i + 1, by first | rfl | go_num | (congr 1), by have := HLT.out; omega, hid ⟨hb', by rw [<- HJ.out, Bool.true_and]⟩⟩
      case measure => simp only [intOf]; have := HLT.out; omega
   ·obtain rfl : i = n := by omega
    have hj2 := HI.out.2;rw [List.drop_eq_nil_of_le (by rw [List.length_zip, HN.out, HM.out]; exact Nat.min_le_left _ _)] at hj2;have hr2 : r = true := (by rw [<- hj2]; rfl);have HR2 := hid hr2;have HB := hid HI.out.1;clear hr2 hj2 HI;go_wp2
    go_ret
    exact ⟨by rw [HR2.out]; rfl, HB.out⟩
 ·have hr2 : r = false := by rw [<- HRR.out]; unfold eqF; rw [HN.out, HM.out]; simp [hnm]
  have HR2 := hid hr2;have g0 : ((n : Int) != (m : Int)) = true := by simp; omega
  clear hr2 hnm;go_enter Tryz.func88, Tryz.ntmps88
  go_wp2
  go_ret
  exact ⟨by rw [HR2.out]; rfl, Below.refl _ _⟩
end Go.Proofs.YtdmadnfadgggcaaGreatDoor
namespace Go.Proofs.YtdmadnfadgggcaaGreatDoor
open Go.RowKit Go.Instr
set_option maxRecDepth 100000
def okV (m : Mach) (z : Int) (x : Nat) : Bool := match m.regs[z.toNat]? with | some y => okB y.width.toNat x | none => false
def z23 (m : Mach) : List Int := (z29 m.regs).map fun (z : Nat) => (z : Int)
def z25 (m : Mach) (V : List Nat) (r : Int) : Int := if zy m [r] = 0 then (if eqF (okV m) (z23 m) V = true then 0 else 14) else zy m [r]
theorem z9s {m : Mach} {z : Int} (h : z ∈ z23 m) : ∃ i : Nat, z = (i : Int) /\ i < m.regs.length := by unfold z23 z29 z1w at h;obtain ⟨i, hi, rfl⟩ := List.mem_map.1 h;exact ⟨i, rfl, List.mem_range.1 (List.mem_filter.1 hi).1⟩
theorem zh7 : ∀ (args : Array Value) (w : World), Sem.run prog (callFunc 87 args) w = .ok (.enter 87 args) w := fun _ _ => by kernel_rfl
theorem zfz (W1 : World) (k : Nat) (m : Mach) (sr : Value) (V : List Nat) (hR : zf 4 regE W1 sr m.regs) (hQ : ∀ X, Below W1.heap.size W1 X -> X.cell? ⟨k, 3, none⟩ = some sr) (hw : ∀ y ∈ m.regs, 1 <= y.width /\ y.width <= 64) : Says2 W1 87 #[.pointer (some ⟨k, 0, none⟩)] (okV m) (z23 m) V := by
 intro W hb z x hz hx;obtain ⟨i, rfl, hi⟩ := z9s hz;obtain ⟨y, hy⟩ : ∃ y, m.regs[i]? = some y := ⟨_, List.getElem?_eq_getElem hi⟩;have hov : okV m i x = okB y.width.toNat x := by unfold okV; simp only [Int.toNat_natCast, hy]
 rw [hov];obtain ⟨hy1, hy2⟩ := hw y (List.mem_of_getElem? hy);obtain ⟨A, c, rfl, _, _, _, hall⟩ := hR.kept (fun cs x hx => regE.kept hx hb) hb;obtain ⟨b, o, cs, rfl, hbb, hcl, hcell, hE⟩ := hall i y hy;obtain ⟨rfl, _⟩ := hE;have c1 : W.cell? ⟨b, o + i * 4 + 1, none⟩ = some (.int .i64 y.width) := hcell 1 _ rfl;have c0 := hQ W hb;obtain ⟨n, hn⟩ : ∃ n, m.regs.length = n := ⟨_, rfl⟩;rw [hn] at c0 hi;have hin : (i : Int) < (n : Int) := by omega
 have hi0 : (0 : Int) <= (i : Int) := by omega
 obtain ⟨wd, hwd⟩ : ∃ wd : Nat, y.width = (wd : Int) := ⟨y.width.toNat, by omega⟩;rw [hwd] at c1 hy1 hy2;rw [hwd, Int.toNat_natCast];have HOK := hid (fun W => zb4 wd x W (by omega) (by omega));obtain ⟨q, hq⟩ : ∃ q, okB wd x = q := ⟨_, rfl⟩;rw [hq] at HOK ⊢;have HB := hid (Below.refl W.heap.size W);clear hall hcell hcl hy hov hz hx hw hQ hR hb hn hwd hy1 hy2 hq;go_enter Tryz.func87, Tryz.ntmps87
 go_wp2_with (go_at_call 52; (with_reducible refine (HOK.out _).mono ?_); rintro e w' ⟨rfl, rfl⟩)
 exact bodyPost_ret (v := .bool q) (by simp [results, Tryz.results87, go_sem]) rfl ⟨rfl, HB.out⟩
theorem z40 (w : World) (v : Value) (m : Mach) (hm : zz w v m) (hT : zs w) (hef : ∀ x ∈ m.instrs, ∀ f ∈ x.effs, z3v f) (u : Value) (V : List Nat) (hV : zf 1 u64E w u V) (a : Int) (ha : -9223372036854775808 <= a /\ a <= 9223372036854775807) :
 Calls prog 48 #[v, u, .int .i64 a] w fun e w' => e = .returned (.int .i64 (z25 m V a)) /\ Below w.heap.size w w' := by
 have hm' := hm;obtain ⟨cs0, rfl, sr, sb, su, si, hcs, h1, h2, h3, hR, hB, hU, hI⟩ := hm;obtain rfl : cs0 = #[.string m.name, .int .i64 m.word, .int .i64 m.address, sr, sb, su, si] := by cases cs0; simp_all
 obtain ⟨W1, hW1⟩ : ∃ W1, W1 = w.alloc (.cells #[.string m.name, .int .i64 m.word, .int .i64 m.address, sr, sb, su, si] 27) := ⟨_, rfl⟩;have hb1 : Below w.heap.size w W1 := by rw [hW1]; exact (Below.refl _ _).alloc (Nat.le_refl _) _
 have hl1 : w.heap.size < W1.heap.size := by rw [hW1]; simp
 have hs1 : W1.heap.size = w.heap.size + 1 := by rw [hW1]; simp
 have hblk1 : W1.heap[w.heap.size]? = some (.cells #[.string m.name, .int .i64 m.word, .int .i64 m.address, sr, sb, su, si] 27) := by rw [hW1]; exact heap_alloc_new _ _
 obtain ⟨W2, hW2⟩ : ∃ W2, W2 = W1.alloc (.cells #[.int .i64 a] 3) := ⟨_, rfl⟩;have hb2 : Below W1.heap.size W1 W2 := by rw [hW2]; exact (Below.refl _ _).alloc (Nat.le_refl _) _
 have hblk2 : W2.heap[w.heap.size + 1]? = some (.cells #[.int .i64 a] 3) := by rw [hW2, <- hs1]; exact heap_alloc_new _ _
 have hw2 : Below w.heap.size w W2 := hb1.trans (hb2.mono hb1.size);have HQ := hid (show ∀ X, Below W1.heap.size W1 X -> X.cell? ⟨w.heap.size, 0, none⟩ = some (.string m.name) /\ X.cell? ⟨w.heap.size, 1, none⟩ = some (.int .i64 m.word) /\ X.cell? ⟨w.heap.size, 2, none⟩ = some (.int .i64 m.address) /\ X.cell? ⟨w.heap.size, 3, none⟩ = some sr /\ X.cell? ⟨w.heap.size, 4, none⟩ = some sb /\ X.cell? ⟨w.heap.size, 5, none⟩ = some su /\ X.cell? ⟨w.heap.size, 6, none⟩ = some si from fun X hX => by have e1 := (hX.block _ hl1).trans hblk1;exact ⟨zb e1 rfl, zb e1 rfl, zb e1 rfl, zb e1 rfl, zb e1 rfl, zb e1 rfl, zb e1 rfl⟩)
 have HGR := hid (show ∀ X, Below W1.heap.size W1 X -> Below w.heap.size w X from fun X hX => hb1.trans (hX.mono hb1.size));obtain ⟨ce, hce⟩ : ∃ z, zy m [a] = z := ⟨_, rfl⟩;have HCI := hid ((z2u W2 (.agg #[.string m.name, .int .i64 m.word, .int .i64 m.address, sr, sb, su, si]) m (hm'.kept hw2) (hT.below hw2) hef _ [a] (zba hblk2 ha) (by simp)).mono (R' := fun e w' => e = .returned (.int .i64 ce) /\ Below W1.heap.size W1 w') fun e w' ⟨h1, h2⟩ => ⟨by rw [h1, hce], hb2.trans (h2.mono hb2.size)⟩);have hMV : ∀ X, Below W1.heap.size W1 X -> zz X (.agg #[.string m.name, .int .i64 m.word, .int .i64 m.address, sr, sb, su, si]) m := fun X hX => hm'.kept (HGR.out X hX);rw [hW2, hW1] at HCI;have HW1 := hid hW1;have hVR := hV;obtain ⟨Au, cu, rfl, _⟩ := hV;obtain ⟨nu, hnu⟩ : ∃ z, V.length = z := ⟨_, rfl⟩;rw [hnu] at hVR ⊢;obtain ⟨r, hr⟩ : ∃ z, z25 m V a = z := ⟨_, rfl⟩;have HR := hid hr;rw [hr];have HCE := hid hce;have hk : ce = 0 ∨ ce ≠ 0 := by omega
 rcases hk with rfl | hne
 ·have hce0 := hce;unfold zy at hce0;have hc0 : chkR m = 0 := by
   by_cases h : chkR m = 0
   ·exact h
   ·rw [if_neg h] at hce0; exact hce0
  have hlr : m.regs.length <= 1000 := by have := z3m hc0; omega
  have hQ3 : ∀ X, Below W1.heap.size W1 X -> X.cell? ⟨w.heap.size, 3, none⟩ = some sr := fun X hX => (HQ.out X hX).2.2.2.1;have hwd : ∀ y ∈ m.regs, 1 <= y.width /\ y.width <= 64 := fun y hy => by have := z21 hc0 y hy; exact ⟨this.1, this.2.1⟩
  have hsays := zfz W1 w.heap.size m sr V (hR.kept (fun cs x hx => regE.kept hx hb1) hb1) hQ3 hwd;have HRO := hid (show ∀ X, Below W1.heap.size W1 X -> Calls prog 42 #[.agg #[.string m.name, .int .i64 m.word, .int .i64 m.address, sr, sb, su, si]] X fun e w' => ∃ sv, e = .returned sv /\ zf 1 intE w' sv (z23 m) /\ Below W1.heap.size W1 w' from fun X hX => (z6t X _ m (hMV X hX) hlr).mono fun e w' ⟨sv, h1, h2, h3⟩ => ⟨sv, h1, h2, hX.trans (h3.mono hX.size)⟩);obtain ⟨q, hq⟩ : ∃ q, eqF (okV m) (z23 m) V = q := ⟨_, rfl⟩;have HEQ := hid (show ∀ X sv, Below W1.heap.size W1 X -> zf 1 intE X sv (z23 m) -> Calls prog 88 #[sv, .slice Au nu cu, .func (.func 87) #[] #[.pointer (some ⟨w.heap.size, 0, none⟩)]] X fun e w' => e = .returned (.bool q) /\ Below W1.heap.size W1 w' from fun X sv hX hrow => (zdj sv _ _ V X hrow (zf.kept hVR (fun cs x hx => u64E.kept hx (HGR.out X hX)) (HGR.out X hX)) _ _ zh7 (okV m) (fun W hW => hsays W (hX.trans (hW.mono hX.size)))).mono fun e w' ⟨h1, h2⟩ => ⟨by rw [h1, hq], hX.trans (h2.mono hX.size)⟩);have hrr : r = if q = true then 0 else 14 := by rw [<- hr]; unfold z25; rw [if_pos hce, hq]
  have HRR := hid hrr;clear hR hB hU hI hcs hW1 hW2 hblk1 hblk2 hl1 hs1 hb1 hb2 hw2 hm' hT hef hMV hce hce0 hc0 hlr ha hrr hr hq hsays hwd hQ3 hVR hnu
  cases q with
  | true =>
    have HR0 := hid (show r = 0 from HRR.out);go_enter Tryz.func48, Tryz.ntmps48
    go_wp2_with (first
     | (go_at_call 44; (with_reducible refine HCI.out.mono ?_); rintro e w3 ⟨rfl, hb3⟩; rw [<- HW1.out] at hb3; obtain ⟨c0, c1, c2, c3, c4, c5, c6⟩ := HQ.out _ hb3)
     | (go_at_call 42; (with_reducible refine (HRO.out _ (by assumption)).mono ?_); rintro e w4 ⟨sv, rfl, hrow, hb4⟩)
     | (go_at_call 88; (with_reducible refine (HEQ.out _ _ (by assumption) (by assumption)).mono ?_); rintro e w5 ⟨rfl, hb5⟩))
    exact bodyPost_ret (v := .int .i64 0) (by simp [results, Tryz.results48, go_sem]) rfl ⟨by rw [HR0.out], HGR.out _ hb5⟩
  | false =>
    have HR0 := hid (show r = 14 from HRR.out);go_enter Tryz.func48, Tryz.ntmps48
    go_wp2_with (first
     | (go_at_call 44; (with_reducible refine HCI.out.mono ?_); rintro e w3 ⟨rfl, hb3⟩; rw [<- HW1.out] at hb3; obtain ⟨c0, c1, c2, c3, c4, c5, c6⟩ := HQ.out _ hb3)
     | (go_at_call 42; (with_reducible refine (HRO.out _ (by assumption)).mono ?_); rintro e w4 ⟨sv, rfl, hrow, hb4⟩)
     | (go_at_call 88; (with_reducible refine (HEQ.out _ _ (by assumption) (by assumption)).mono ?_); rintro e w5 ⟨rfl, hb5⟩))
    exact bodyPost_ret (v := .int .i64 14) (by simp [results, Tryz.results48, go_sem]) rfl ⟨by rw [HR0.out], HGR.out _ hb5⟩
 ·have hrr : r = ce := by rw [<- hr]; unfold z25; rw [if_neg (by rw [hce]; exact hne), hce]
  have HR0 := hid hrr;have g : (ce != 0) = true := by simp [hne]
  clear hR hB hU hI hcs hW1 hW2 hblk1 hblk2 hl1 hs1 hb1 hb2 hw2 hm' hT hef hMV hce ha hne hrr hr hVR hnu;go_enter Tryz.func48, Tryz.ntmps48
  go_wp2_with (go_at_call 44; (with_reducible refine HCI.out.mono ?_); rintro e w3 ⟨rfl, hb3⟩; rw [<- HW1.out] at hb3)
  exact bodyPost_ret (v := .int .i64 ce) (by simp [results, Tryz.results48, go_sem]) rfl ⟨by rw [HR0.out], HGR.out _ hb3⟩
theorem zh8 {α : Type} (p : α -> Bool) (L : List α) : ixF p L < (L.length : Int) := by
 unfold ixF
 cases h : L.findIdx? p with
 | none => simp only []; omega
 | some i => have := (List.findIdx?_eq_some_iff_getElem.1 h).1;simp only []; omega
theorem z7l {R : List MReg} {i : Nat} {x : MReg} (hx : R[i]? = some x) (hr : z2v x = true) : i ∈ z29 R := by unfold z29 z1w;refine List.mem_filter.2 ⟨List.mem_range.2 (List.getElem?_eq_some_iff.1 hx).1, ?_⟩;unfold z39;simp [hx, hr]
theorem z2t {m : Mach} (h : chkR m = 0) {i : Nat} {x : MReg} (hx : m.regs[i]? = some x) : 0 <= z1l m.regs i x /\ z1l m.regs i x < ((z23 m).length : Int) := by
 refine ⟨?_, zh8 _ _⟩;have hmem : ofR i x ∈ z23 m := by
  unfold ofR z23
  cases hq : z2v x with
  | true => exact List.mem_map.2 ⟨i, z7l hx hq, rfl⟩
  | false =>
    have hr := (z3f h).2.2.1;unfold z2h at hr;simp only [Bool.and_eq_true, List.all_eq_true] at hr;have h3 := hr.2 x (List.mem_of_getElem? hx);unfold z46 at h3;simp only [Bool.and_eq_true, Bool.or_eq_true, hq] at h3;have h4 : z53 m.regs x = true := (by simpa using h3.2);unfold z53 at h4;by_cases h5 : 0 <= x.par
    ·rw [if_pos h5] at h4
     cases hp : m.regs[x.par.toNat]? with
     | none => rw [hp] at h4; simp at h4
     | some q => rw [hp] at h4;simp only [Bool.and_eq_true] at h4;have h6 : z2v q = true := (by first | exact h4.1 | exact h4.2.1 | exact h4.1.1);exact List.mem_map.2 ⟨x.par.toNat, z7l hp h6, by simp; omega⟩
    ·rw [if_neg h5] at h4; simp at h4
 have := z5k (fun z : Int => decide (z = ofR i x)) (z23 m);rw [show (z23 m).any (fun z : Int => decide (z = ofR i x)) = true from List.any_eq_true.2 ⟨_, hmem, by simp⟩] at this;exact of_decide_eq_true this
end Go.Proofs.YtdmadnfadgggcaaGreatDoor
namespace Go.Proofs.YtdmadnfadgggcaaGreatDoor
open Go.RowKit Go.Instr Go.Sort Go.Lib
set_option maxRecDepth 100000
theorem zcv (r n : Nat) (hr : r < 18446744073709551616) (h1 : n <= 64) : bits .and .u64 (r : Int) ((mk n : Nat) : Int) = ((r % 2 ^ n : Nat) : Int) := by rw [bits_and_u64_nat r (mk n) hr (zhb n h1)];unfold mk;rw [Nat.and_two_pow_sub_one_eq_mod]
def z6q (m : Mach) (V : List Nat) (a : Int) : Nat := if z25 m V a = 0 then (match m.regs[a.toNat]? with | some x => (V[(z1l m.regs a.toNat x).toNat]?).getD 0 / 2 ^ x.low.toNat % 2 ^ x.width.toNat | none => 0) else 0
theorem z3s {m : Mach} {V : List Nat} {a : Int} (h : z25 m V a = 0) : chkR m = 0 /\ (0 <= a /\ a < (m.regs.length : Int)) /\ eqF (okV m) (z23 m) V = true := by
 unfold z25 at h;by_cases hi : zy m [a] = 0
 ·rw [if_pos hi] at h;have hc0 : chkR m = 0 := by
   by_cases h2 : chkR m = 0
   ·exact h2
   ·unfold zy at hi; rw [if_neg h2] at hi; exact hi
  refine ⟨hc0, ?_, ?_⟩
  ·unfold zy at hi;rw [if_pos hc0] at hi;have hall : idxM m a = true := by
    cases hA : idxM m a <;> simp [hA] at hi ⊢
   unfold idxM at hall;exact of_decide_eq_true hall
  ·cases hq : eqF (okV m) (z23 m) V with
   | true => rfl
   | false => rw [hq] at h; simp at h
 ·rw [if_neg hi] at h; exact absurd h hi
theorem z5g {p : Int -> Nat -> Bool} {L : List Int} {V : List Nat} (h : eqF p L V = true) : L.length = V.length := by unfold eqF at h;simp only [Bool.and_eq_true, decide_eq_true_eq] at h;exact h.1
theorem zg6 (w : World) (v : Value) (m : Mach) (hm : zz w v m) (hT : zs w) (hef : ∀ x ∈ m.instrs, ∀ f ∈ x.effs, z3v f) (u : Value) (V : List Nat) (hV : zf 1 u64E w u V) (a : Int) (ha : -9223372036854775808 <= a /\ a <= 9223372036854775807) :
 Calls prog 18 #[v, u, .int .i64 a] w fun e w' => e = .returned (.tuple #[.int .u64 (z6q m V a), .int .i64 (z25 m V a)]) /\ Below w.heap.size w w' := by
 have hm' := hm;obtain ⟨cs0, rfl, sr, sb, su, si, hcs, h1, h2, h3, hR, hB, hU, hI⟩ := hm;obtain rfl : cs0 = #[.string m.name, .int .i64 m.word, .int .i64 m.address, sr, sb, su, si] := by cases cs0; simp_all
 obtain ⟨W1, hW1⟩ : ∃ W1, W1 = w.alloc (.cells #[.string m.name, .int .i64 m.word, .int .i64 m.address, sr, sb, su, si] 27) := ⟨_, rfl⟩;have hb1 : Below w.heap.size w W1 := by rw [hW1]; exact (Below.refl _ _).alloc (Nat.le_refl _) _
 have hl1 : w.heap.size < W1.heap.size := by rw [hW1]; simp
 have hs1 : W1.heap.size = w.heap.size + 1 := by rw [hW1]; simp
 have hblk1 : W1.heap[w.heap.size]? = some (.cells #[.string m.name, .int .i64 m.word, .int .i64 m.address, sr, sb, su, si] 27) := by rw [hW1]; exact heap_alloc_new _ _
 have HQ := hid (show ∀ X, Below W1.heap.size W1 X -> X.cell? ⟨w.heap.size, 0, none⟩ = some (.string m.name) /\ X.cell? ⟨w.heap.size, 1, none⟩ = some (.int .i64 m.word) /\ X.cell? ⟨w.heap.size, 2, none⟩ = some (.int .i64 m.address) /\ X.cell? ⟨w.heap.size, 3, none⟩ = some sr /\ X.cell? ⟨w.heap.size, 4, none⟩ = some sb /\ X.cell? ⟨w.heap.size, 5, none⟩ = some su /\ X.cell? ⟨w.heap.size, 6, none⟩ = some si from fun X hX => by have e1 := (hX.block _ hl1).trans hblk1;exact ⟨zb e1 rfl, zb e1 rfl, zb e1 rfl, zb e1 rfl, zb e1 rfl, zb e1 rfl, zb e1 rfl⟩)
 have HGR := hid (show ∀ X, Below W1.heap.size W1 X -> Below w.heap.size w X from fun X hX => hb1.trans (hX.mono hb1.size));have hVR := hV;obtain ⟨Au, cu, rfl, _⟩ := hV;obtain ⟨nu, hnu⟩ : ∃ z, V.length = z := ⟨_, rfl⟩;rw [hnu] at hVR ⊢;obtain ⟨ce, hce⟩ : ∃ z, z25 m V a = z := ⟨_, rfl⟩;have hMV : ∀ X, Below W1.heap.size W1 X -> zz X (.agg #[.string m.name, .int .i64 m.word, .int .i64 m.address, sr, sb, su, si]) m := fun X hX => hm'.kept (HGR.out X hX);have HCV := hid ((z40 W1 (.agg #[.string m.name, .int .i64 m.word, .int .i64 m.address, sr, sb, su, si]) m (hm'.kept hb1) (hT.below hb1) hef (.slice Au nu cu) V (by exact zf.kept hVR (fun cs x hx => u64E.kept hx hb1) hb1) a ha).mono (R' := fun e w' => e = .returned (.int .i64 ce) /\ Below W1.heap.size W1 w') fun e w' ⟨h1, h2⟩ => ⟨by rw [h1, hce], h2⟩);rw [hW1] at HCV;have HW1 := hid hW1;rw [hce];have hk : ce = 0 ∨ ce ≠ 0 := by omega
 rcases hk with rfl | hne
 ·obtain ⟨hc0, ⟨ha0, ha1⟩, heq⟩ := z3s hce;obtain ⟨i, rfl⟩ : ∃ i : Nat, a = (i : Int) := ⟨a.toNat, by omega⟩;obtain ⟨x, hx⟩ : ∃ x, m.regs[i]? = some x := ⟨_, List.getElem?_eq_getElem (by omega)⟩;have hlr : m.regs.length <= 1000 := by have := z3m hc0; omega
  obtain ⟨bx1, bx2, bx3, bx4⟩ := z21 hc0 x (List.mem_of_getElem? hx);obtain ⟨hp0, hp1⟩ := z2t hc0 hx;have hpart := fun X hX => z54 X _ m (hMV X hX) hlr i x hx;obtain ⟨pa, hpa⟩ : ∃ pa : Nat, z1l m.regs i x = (pa : Int) := ⟨(z1l m.regs i x).toNat, by omega⟩;rw [z5g heq, hnu, hpa] at hp1;have hrd : z6q m V i = (V[pa]?).getD 0 / 2 ^ x.low.toNat % 2 ^ x.width.toNat := by unfold z6q; rw [if_pos hce]; simp only [Int.toNat_natCast, hx, hpa]
  obtain ⟨xl, hxl⟩ : ∃ xl : Nat, x.low = (xl : Int) := ⟨x.low.toNat, by omega⟩;obtain ⟨xw, hxw⟩ : ∃ xw : Nat, x.width = (xw : Int) := ⟨x.width.toNat, by omega⟩;have hpn : pa < nu := by omega
  obtain ⟨y, hy⟩ : ∃ y, V[pa]? = some y := ⟨_, List.getElem?_eq_getElem (by omega)⟩;rw [hrd, hy, hxl, hxw, Int.toNat_natCast, Int.toNat_natCast, Option.getD_some];have HPA := hid (show ∀ X, Below W1.heap.size W1 X -> Calls prog 45 #[.agg #[.string m.name, .int .i64 m.word, .int .i64 m.address, sr, sb, su, si], .int .i64 i] X fun e w' => e = .returned (.tuple #[.int .i64 pa, .int .i64 xl, .int .i64 xw]) /\ Below W1.heap.size W1 w' from fun X hX => (hpart X hX).mono fun e w' ⟨h1, h2⟩ => ⟨by rw [h1, hpa, hxl, hxw], hX.trans (h2.mono hX.size)⟩);have hxl1 : xl <= 63 := by omega
  have hxw1 : 1 <= xw /\ xw <= 64 := by omega
  have HVC := hid (show ∃ b o, Au = some ⟨b, o, none⟩ /\ ∀ X, Below W1.heap.size W1 X -> X.cell? ⟨b, o + pa, none⟩ = some (.int .u64 (y : Nat)) from by obtain ⟨A', c', e1, _, _, _, hall⟩ := hVR;obtain ⟨b, o, cs, e2, hb, hcl, hcell, hE⟩ := hall pa y hy;obtain ⟨rfl, _⟩ := hE;refine ⟨b, o, by cases e1; exact e2, fun X hX => ?_⟩;have := hcell 0 _ rfl;exact ((HGR.out X hX).cell (p := ⟨b, o + pa, none⟩) hb).trans (by simpa using this))
  have hpi : (pa : Int) < (nu : Int) := by omega
  have hy64 : y < 18446744073709551616 := by obtain ⟨A', c', e1, _, _, _, hall⟩ := hVR;obtain ⟨b, o, cs, e2, hb, hcl, hcell, hE⟩ := hall pa y hy;exact hE.2
  obtain ⟨b, o, rfl, HVC2⟩ := HVC.out;have HC := hid HVC2;have HV := hid (zcv (y / 2 ^ xl) xw (Nat.lt_of_le_of_lt (Nat.div_le_self _ _) hy64) hxw1.2);have rM := hid (fun (W : World) d os => Calls.regrown_of (w := W) (d := d) (os := os) ((z4z xw (grow (redrawn W d) os) hxw1.1 hxw1.2).mono fun e w' ⟨he, hw⟩ => ⟨he, hw ▸ Below.refl _ _⟩));clear HVC HVC2 hR hB hU hI hcs hW1 hblk1 hl1 hs1 hb1 hm' hT hef hMV hce hc0 heq hx hxl hxw hpa hpart hrd hVR hnu hy bx1 bx2 bx3 bx4 hp0 hp1 ha ha0 ha1 hlr;go_enter Tryz.func18, Tryz.ntmps18
  go_wp2_with (first
   | (go_at_call 48; (with_reducible refine HCV.out.mono ?_); rintro e w3 ⟨rfl, hb3⟩; rw [<- HW1.out] at hb3; obtain ⟨c0, c1, c2, c3, c4, c5, c6⟩ := HQ.out _ hb3)
   | (go_at_call 45; (with_reducible refine (HPA.out _ (by assumption)).mono ?_); rintro e w4 ⟨rfl, hb4⟩; have d0 := HC.out _ hb4; have K0 := hid (cell_regrown d0); clear d0))
  have k0 := K0.out;refine wp_region_quiet_below (by kernel_rfl) (by kernel_rfl) ?_;repeat (first | go_big_quiet_step ((with_reducible exact rM.out _ _ _)) | quiet_step ((with_reducible exact rM.out _ _ _)))
  refine wpQuiet_nil ?_;intro G hG;have hbG : Below W1.heap.size W1 G := by obtain ⟨p, rfl⟩ := hG; exact hb4.trans ((below_regrown _ _ _).mono hb4.size)
  clear hG k0;go_wp2
  refine bodyPost_ret (v := .tuple #[.int .u64 (y / 2 ^ xl % 2 ^ xw : Nat), .int .i64 0]) ?_ rfl ⟨rfl, HGR.out _ hbG⟩;rw [<- HV.out];simp [results, Tryz.results18, go_sem]
 ·have hrd : z6q m V a = 0 := by unfold z6q; rw [if_neg (by rw [hce]; exact hne)]
  rw [hrd];have g : (ce != 0) = true := by simp [hne]
  clear hR hB hU hI hcs hW1 hblk1 hl1 hs1 hb1 hm' hT hef hMV hce ha hne hrd hVR hnu;go_enter Tryz.func18, Tryz.ntmps18
  go_wp2_with (go_at_call 48; (with_reducible refine HCV.out.mono ?_); rintro e w3 ⟨rfl, hb3⟩; rw [<- HW1.out] at hb3)
  exact bodyPost_ret (v := .tuple #[.int .u64 0, .int .i64 ce]) (by simp [results, Tryz.results18, go_sem]) rfl ⟨rfl, HGR.out _ hb3⟩
theorem ze3 {n : Int} (h : (Lit.int .i64 n).wf = true) : -9223372036854775808 <= n /\ n <= 9223372036854775807 := by simp [Lit.wf, IntKind.min, IntKind.max, IntKind.bits, IntKind.signed] at h;exact ⟨h.1, by omega⟩
theorem z94 {n : Int} (h : (Lit.int .u64 n).wf = true) : ∃ x : Nat, n = (x : Int) /\ x < 18446744073709551616 := by simp [Lit.wf, IntKind.min, IntKind.max, IntKind.bits, IntKind.signed] at h;exact ⟨n.toNat, by omega, by omega⟩
section
variable {H : Type} {enc : TypeId × Value -> H} {W : World}
theorem zg4 {fuel : Nat} {cs : List Value} {y : DataW H × List MemPlace} (h : DataW.trod enc prog W 0 (fun _ => true) true fuel 49 cs = some y) : ∃ z, u64E W cs z := by obtain ⟨z, q, _, w⟩ := DataW.trod_int Tryz.underlying49 h;obtain ⟨x, rfl, hx⟩ := z94 w;exact ⟨x, q, hx⟩
theorem zeh {base : Nat} {v0 : Value} {d0 : DataW H} {p0 : List MemPlace} (ok : Value.okWide prog W .any base 48 v0)
 (h : DataW.Trod enc prog W 0 (fun _ => true) true 48 v0 d0 p0) : ∃ V : List Nat, zf 1 u64E W v0 V := by
 obtain ⟨a, n, c, rfl⟩ := Go.WideShapes.okWide_slice Tryz.underlying48 ok;obtain ⟨fuel, h⟩ := h;have hc : (Value.slice a n c).cells.toList = [Value.slice a n c] := rfl;rw [hc] at h;exact z2g (n := 1) (E := u64E) Tryz.underlying48 (by kernel_rfl) (by decide) (fun h => zg4 h) h
end
def Wd8 (w : World) (v : Value) (L : List Nat) : Prop := ∃ A c, v = .slice A L.length c /\ ∀ (i : Nat) (x : Nat), L[i]? = some x -> ∃ b o, A = some ⟨b, o, none⟩ /\ b < w.heap.size /\ w.cell? ⟨b, o + i, none⟩ = some (.int .u64 (x : Nat)) /\ x < 18446744073709551616
theorem Wd8.of {w : World} {v : Value} {L : List Nat} (h : zf 1 u64E w v L) : Wd8 w v L := by obtain ⟨A, c, rfl, _, _, _, hall⟩ := h;refine ⟨A, c, rfl, fun i x hx => ?_⟩;obtain ⟨b, o, cs, e2, hb, hcl, hcell, hE, hlt⟩ := hall i x hx;subst hE;exact ⟨b, o, e2, hb, by have := hcell 0 _ rfl; rwa [Nat.mul_one] at this, hlt⟩
theorem Wd8.below {w w' : World} {v : Value} {L : List Nat} (h : Wd8 w v L) (hb : Below w.heap.size w w') : Wd8 w' v L := by obtain ⟨A, c, rfl, hall⟩ := h;refine ⟨A, c, rfl, fun i x hx => ?_⟩;obtain ⟨b, o, e, h1, h2, h3⟩ := hall i x hx;exact ⟨b, o, e, Nat.lt_of_lt_of_le h1 hb.size, by rw [hb.cell h1]; exact h2, h3⟩
theorem z4m (w : World) (v v' : Value) (L : List Nat) (hr : zf 1 u64E w v L) (hr' : zf 1 u64E w v' L) (hL : L.length <= 1000000) :
 Calls prog 22 #[v, v'] w fun e w' => e = .returned (.bool true) /\ Below w.heap.size w w' := by
 have h := Wd8.of hr;have h' := Wd8.of hr';clear hr hr';have HP := hid (And.intro h h');obtain ⟨A, c, rfl, _⟩ := h;obtain ⟨A', c', rfl, _⟩ := h';obtain ⟨n, hn⟩ : ∃ n, L.length = n := ⟨_, rfl⟩;have HN := hid hn;rw [hn] at hL ⊢;clear hn;go_enter Tryz.func22, Tryz.ntmps22
 go_wp2
 go_loopw [5] (fun vi wr => ∃ k : Nat, vi = .int .i64 k /\ k <= n /\ Below w.heap.size w wr) (fun vi _ => n - (intOf vi).toNat)
 case atStart => exact ⟨0, rfl, by omega, Below.refl _ _⟩
 case round =>
  obtain ⟨k, rfl, hk, hb⟩ := hrel;have HB := hid hb;clear hb;by_cases hlt : k < n
  ·have hx : L[k]? = some (L[k]'(by rw [HN.out]; exact hlt)) := List.getElem?_eq_getElem _;obtain ⟨x, hxx⟩ : ∃ x, L[k]? = some x := ⟨_, hx⟩;clear hx;obtain ⟨A1, c1, e1, hall⟩ := HP.out.1.below HB.out;obtain ⟨A2, c2, e2, hall'⟩ := HP.out.2.below HB.out;obtain ⟨rfl, rfl⟩ : A = A1 /\ c = c1 := by cases e1; exact ⟨rfl, rfl⟩
   obtain ⟨rfl, rfl⟩ : A' = A2 /\ c' = c2 := by cases e2; exact ⟨rfl, rfl⟩
   obtain ⟨b, o, hp, hb1, x0, _⟩ := hall k x hxx;obtain ⟨b', o', hp', hb1', x1, _⟩ := hall' k x hxx;subst hp hp';clear e1 e2 hall hall' hxx;have K0 := cell_regrown x0;have K1 := cell_regrown x1;have hj0 : (0 : Int) <= (k : Int) := Int.natCast_nonneg _;have hj1 : (k : Int) < (n : Int) := by omega
   go_wp2_with fail
   clear x0 x1;refine wp_region_quiet_below (by kernel_rfl) (by kernel_rfl) ?_;repeat (first | go_big_quiet_step (fail) | quiet_step (fail))
   refine wpQuiet_nil ?_;intro _ hw';obtain ⟨⟨dq, osq⟩, hw''⟩ := hw';subst hw'';have HB1 := hid (HB.out.trans ((below_regrown wr dq osq).mono HB.out.size));generalize grow (redrawn wr dq) osq = w1 at *;clear K0 K1;go_wp2
   go_roundw
   case rel => exact ⟨k + 1, by first | rfl | (rw [zd _ (by omega) (by omega)]; rfl), by omega, HB1.out⟩
   case measure => (try rw [zd _ (by omega) (by omega)]); simp only [intOf]; omega
  ·obtain rfl : k = n := by omega
   go_wp2
   go_ret
   exact ⟨rfl, HB.out⟩
end Go.Proofs.YtdmadnfadgggcaaGreatDoor
