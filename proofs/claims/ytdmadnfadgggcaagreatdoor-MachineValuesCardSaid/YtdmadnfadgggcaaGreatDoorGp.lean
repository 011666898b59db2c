import Derived.Test.YtdmadnfadgggcaaGreatDoorGn
import Derived.OwnWalk
import Derived.Deep.RegionHeld3
set_option linter.unusedVariables false
set_option linter.unusedSimpArgs false
set_option warningAsError false
set_option maxHeartbeats 4000000
open Go.Lib (hid)
open Go.Proofs.Tryz (prog)
noncomputable section
namespace Go.Proofs.YtdmadnfadgggcaaGreatDoor
open Go.RowKit Go.Instr Go.Sort
set_option maxRecDepth 100000
def z39 (R : List MReg) (j : Nat) : Bool := match R[j]? with | some r => z2v r | none => false
def z1w (R : List MReg) (k : Nat) : List Nat := (List.range k).filter (z39 R)
def z29 (R : List MReg) : List Nat := z1w R R.length
theorem z6s (R : List MReg) (k : Nat) : z1w R (k + 1) = z1w R k ++ (if z39 R k then [k] else []) := by
 unfold z1w;rw [List.range_succ, List.filter_append]
 congr 1
 by_cases h : z39 R k <;> simp [h]
theorem z34 (R : List MReg) (k : Nat) : (z1w R k).length <= k := by unfold z1w;exact Nat.le_trans (List.length_filter_le ..) (by simp)
theorem z9r (R : List MReg) (k : Nat) : ∀ x ∈ z1w R k, x < k := fun x hx => by unfold z1w at hx;simpa using (List.mem_filter.1 hx).1
def z3h (l : List Nat) : List Value := l.map fun (z : Nat) => Value.int .i64 (z : Int)
theorem z6u {w : World} {base : Nat} {v : Value} {l : List Nat} (h : w.ownsRow base 3 1 v l.length (z3h l)) (hl : l.length <= maxLen) (hz : ∀ x ∈ l, (x : Int) <= 9223372036854775807) : zf 1 intE w v (l.map fun (z : Nat) => (z : Int)) := by
 obtain ⟨_, h | ⟨g, cap, cur, hv, _, hh, hc, hm, _, ht⟩⟩ := h
 ·have h0 : l = [] := List.length_eq_zero_iff.1 h.2;subst h0;exact ⟨none, 0, h.1, by simp, by simp, by simp, fun i x hx => by simp at hx⟩
 ·refine ⟨some ⟨g, 0, none⟩, cap, by rw [List.length_map]; exact hv, by rw [List.length_map]; exact hl, by rw [List.length_map]; exact hc, hm, fun i x hx => ?_⟩;rw [List.getElem?_map] at hx
  cases hli : l[i]? with
  | none => rw [hli] at hx; simp at hx
  | some z =>
    rw [hli] at hx;simp at hx;subst hx;have hil := (List.getElem?_eq_some_iff.1 hli).1;refine ⟨g, 0, [.int .i64 z], rfl, (Array.getElem?_eq_some_iff.1 hh).1, rfl, fun j u hj => ?_, rfl, by omega, hz z (List.mem_of_getElem? hli)⟩
    cases j with
    | succ j => simp at hj
    | zero => simp at hj;subst hj;refine zb hh ?_;have e : (cur.toList.take (l.length * 1))[i]? = some (.int .i64 (z : Int)) := (by rw [ht]; unfold z3h; rw [List.getElem?_map, hli]; rfl);rw [List.getElem?_take] at e;simp only [Nat.mul_one, hil, if_true] at e;simpa using e
theorem z52 {w w' : World} {base size n : Nat} {e : TypeId} {v : Value} {xs : List Value} (h : w.ownsRow base e size v n xs) (hb : Below w.heap.size w w') : w'.ownsRow base e size v n xs := by
 refine h.kept (row := none) ⟨hb.os, hb.tape, hb.output, hb.size, fun k hk _ => hb.block k hk⟩ ?_
 cases v.ownBlock with
 | none => exact .inl rfl
 | some a => exact .inr (by simp)
theorem z6i (l : List Nat) (z : Nat) : z3h (l ++ [z]) = z3h l ++ [.int .i64 (z : Int)] := by unfold z3h; rw [List.map_append]; rfl
theorem z9e (W : World) (v : Value) (t : TypeId) : ∀ B, W.heap.size = B -> ∀ (j : Nat) (u : Value), ([v] : List Value)[j]? = some u -> (W.alloc (.cells #[v] t)).cell? ((⟨B, 0, none⟩ : Addr).add j) = some u := by
 rintro _ rfl j u hu
 cases j with
 | succ j => simp at hu
 | zero => simp at hu;subst hu;exact zl rfl rfl
theorem zb0 : (prog.info? 3).map (fun i => (i.zero, i.size, i.bytes)) = some (some (.int .i64 0), 1, 8) := by kernel_rfl
theorem z6t (w : World) (v : Value) (m : Mach) (hm : zz w v m) (hlen : m.regs.length <= 1000) :
 Calls prog 42 #[v] w fun e w' => ∃ sv, e = .returned sv /\ zf 1 intE w' sv ((z29 m.regs).map fun (z : Nat) => (z : Int)) /\ Below w.heap.size w w' := by
 obtain ⟨cs0, rfl, sr, sb, su, si, hcs, h1, h2, h3, hR, hB, hU, hI⟩ := hm;obtain rfl : cs0 = #[.string m.name, .int .i64 m.word, .int .i64 m.address, sr, sb, su, si] := by cases cs0; simp_all
 have HR := hid hR;obtain ⟨A, c, rfl, hr1, _⟩ := id hR;obtain ⟨n, hn⟩ : ∃ z, m.regs.length = z := ⟨_, rfl⟩;have HN := hid hn;rw [hn] at HR hr1 hlen;rw [hn];have hn4 : n <= 9223372036854775807 := by omega
 obtain ⟨W1, hW1⟩ : ∃ W1, W1 = w.alloc (.cells #[.string m.name, .int .i64 m.word, .int .i64 m.address, .slice A n c, sb, su, si] 27) := ⟨_, rfl⟩;have HW1 := hid hW1;have hb1 : Below w.heap.size w W1 := by rw [hW1]; exact (Below.refl _ _).alloc (Nat.le_refl _) _
 have HB1 := hid hb1;have HRF := hid (Below.refl W1.heap.size W1);obtain ⟨i0, hi0, hz0, hz1, hz2⟩ := info_parts zb0;have HI0 := hid hi0;have HZ0 := hid hz0;have HZ1 := hid hz1;have HZ2 := hid hz2;have HFIN := hid (show ∀ (X : World) (sv : Value), Below W1.heap.size W1 X -> X.ownsRow W1.heap.size 3 1 sv (z1w m.regs n).length (z3h (z1w m.regs n)) -> zf 1 intE X sv ((z29 m.regs).map fun (z : Nat) => (z : Int)) /\ Below w.heap.size w X from fun X sv hX ho => by refine ⟨?_, hb1.trans (hX.mono hb1.size)⟩;have h9 := z34 m.regs n;unfold z29;rw [hn];exact z6u ho (by unfold maxLen; omega) (fun x hx => by have := z9r _ _ x hx; omega))
 clear hR hB hU hI hn hb1 hW1 hcs hi0 hz0 hz1 hz2;go_enter Tryz.func42, Tryz.ntmps42
 go_wp2
 rw [<- HW1.out];go_loopw [3, 9] (fun vv vi wr => ∃ i : Nat, vi = .int .i64 i /\ i <= n /\ Hid (Below W1.heap.size W1 wr /\ wr.ownsRow W1.heap.size 3 1 vv (z1w m.regs i).length (z3h (z1w m.regs i)))) (fun _ vi _ => n - (intOf vi).toNat)
 case atStart => exact ⟨0, rfl, Nat.zero_le _, hid ⟨HRF.out, World.ownsRow_nil _ _ _ _⟩⟩
 case round =>
  obtain ⟨i, rfl, hi, HJ⟩ := hrel;by_cases hlt : i < n
  ·obtain ⟨y, hy⟩ : ∃ z, m.regs[i]? = some z := ⟨_, List.getElem?_eq_getElem (by rw [HN.out]; exact hlt)⟩;have hbw := HB1.out.trans (HJ.out.1.mono HB1.out.size);obtain ⟨A', c', e1, _, _, _, hall⟩ := HR.out.kept (fun cs x hx => regE.kept hx hbw) hbw;obtain ⟨b, o, cs, e2, hb, hcl, hcell, hE⟩ := hall i y hy;obtain ⟨rfl, rfl⟩ : A = A' /\ c = c' := by cases e1; exact ⟨rfl, rfl⟩
   subst e2;have HE := hid hE;obtain ⟨rfl, _⟩ := hE;have p0 : wr.cell? ⟨b, o + i * 4, none⟩ = some (.string y.name) := by simpa using hcell 0 _ rfl
   have p1 : wr.cell? ⟨b, o + i * 4 + 1, none⟩ = some (.int .i64 y.width) := hcell 1 _ rfl;have p2 : wr.cell? ⟨b, o + i * 4 + 2, none⟩ = some (.int .i64 y.par) := hcell 2 _ rfl;have p3 : wr.cell? ⟨b, o + i * 4 + 3, none⟩ = some (.int .i64 y.low) := hcell 3 _ rfl;have hba : Below wr.heap.size wr (wr.alloc (.cells #[.string y.name, .int .i64 y.width, .int .i64 y.par, .int .i64 y.low] 96)) := (Below.refl _ _).alloc (Nat.le_refl _) _;have HIR := hid ((z4d wr (wr.alloc (.cells #[.string y.name, .int .i64 y.width, .int .i64 y.par, .int .i64 y.low] 96)) y [.string y.name, .int .i64 y.width, .int .i64 y.par, .int .i64 y.low] HE.out).mono (R' := fun e w' => e = .returned (.bool (z2v y)) /\ Below wr.heap.size wr w' /\ Below W1.heap.size W1 w') fun e w' ⟨h1, h2⟩ => ⟨h1, hba.trans (h2.mono hba.size), HJ.out.1.trans ((hba.trans (h2.mono hba.size)).mono HJ.out.1.size)⟩);have HSU := hid (z6s m.regs i);have HLT := hid hlt;have HLE := hid (z34 m.regs i);have hat : z39 m.regs i = z2v y := by unfold z39; rw [hy]
   rw [hat] at HSU;have HSW := hid (HJ.out.1.size);have hin : (i : Int) < (n : Int) := by omega
   have HOWN := hid HJ.out.2;obtain ⟨q, hq⟩ : ∃ q, z2v y = q := ⟨_, rfl⟩;rw [hq] at HIR HSU;obtain ⟨YN, hYN⟩ : ∃ z, y.name = z := ⟨_, rfl⟩;obtain ⟨y1, h1'⟩ : ∃ z : Int, y.width = z := ⟨_, rfl⟩;obtain ⟨y2, h2'⟩ : ∃ z : Int, y.par = z := ⟨_, rfl⟩;obtain ⟨y3, h3'⟩ : ∃ z : Int, y.low = z := ⟨_, rfl⟩;rw [hYN] at p0 HIR;rw [h1'] at p1 HIR;rw [h2'] at p2 HIR;rw [h3'] at p3 HIR;clear hall hcell hy e1 hbw hcl hba hat hq hYN h1' h2' h3' HE HJ
   cases q with
   | false =>
     go_wp2_with (go_at_call 84; (with_reducible refine HIR.out.mono ?_); rintro e w5 ⟨rfl, hb5, hc5⟩)
     go_roundw
     case rel => exact ⟨i + 1, by first | rfl | go_num | (congr 1), by have := HLT.out; omega, hid ⟨hc5, by rw [HSU.out]; simp only [Bool.false_eq_true, if_false, List.append_nil]; exact z52 HOWN.out hb5⟩⟩
     case measure => simp only [intOf]; have := HLT.out; omega
   | true =>
     go_wp2_with (first
      | (go_at_call 84; (with_reducible refine HIR.out.mono ?_); rintro e w5 ⟨rfl, hb5, hc5⟩)
      | (at_builtin; refine Hid.out ?_))
     refine hid ?_;refine wpList_append_own _ rfl _ _ 34 rfl W1.heap.size 3 i0 (.int .i64 0) 1 8 Tryz.underlying34 HI0.out HZ0.out HZ1.out HZ2.out rfl (by decide) _ (z1w m.regs i).length (z3h (z1w m.regs i)) rfl ((z52 HOWN.out hb5).alloc _) ⟨_, 0, none⟩ 1 1 [.int .i64 i] rfl rfl (z9e _ _ _ _ rfl) (by intro u hu; simp at hu; subst hu; rfl) (by have := HLE.out; unfold maxLen; omega) (by have := HLE.out; omega) (by have := hc5.size; simp; omega) ?_;intro v' w6 hown' hgrow _;have hb6 : Below W1.heap.size W1 w6 := by
      have h1 := hc5.alloc hc5.size (.cells #[.int .i64 (i : Int)] 3);exact h1.grown hgrow (by have := hc5.size; simp; omega) (fun r hr => by have := HOWN.out.lt r hr;omega)
     have HO6 := hid (show w6.ownsRow W1.heap.size 3 1 v' (z1w m.regs (i + 1)).length (z3h (z1w m.regs (i + 1))) by rw [HSU.out];simp only [if_true];rw [z6i, List.length_append];exact hown')
     have HB6 := hid hb6;clear hown' hgrow hb6;go_wp2
     go_roundw
     case rel => exact ⟨i + 1, by first | rfl | go_num | (congr 1), by have := HLT.out; omega, hid ⟨HB6.out, HO6.out⟩⟩
     case measure => simp only [intOf]; have := HLT.out; omega
  ·obtain rfl : i = n := by omega
   have HF := hid (HFIN.out _ _ HJ.out.1 HJ.out.2);clear HJ;go_wp2
   go_ret
   exact ⟨_, rfl, HF.out⟩
theorem zdw (v : Value) (L : List Int) (w : World) (hR : zf 1 intE w v L) (z : Int) :
 Calls prog 86 #[v, .int .i64 z] w fun e w' => e = .returned (.int .i64 (ixF (fun y => decide (y = z)) L)) /\ Below w.heap.size w w' := by
 have HR := hid hR;obtain ⟨A, c, rfl, hn1, _, _, _⟩ := hR;obtain ⟨n, hn⟩ : ∃ n, L.length = n := ⟨_, rfl⟩;have HN := hid hn;have hmx : maxLen <= 9223372036854775807 := by decide
 rw [hn] at hn1 ⊢;have hn2 : n <= 9223372036854775807 := Nat.le_trans hn1 hmx;clear hn1 hmx hn;go_enter Tryz.func86, Tryz.ntmps86
 go_wp2
 go_loopw [8] (fun v wr => ∃ i : Nat, v = .int .i64 i /\ i <= n /\ Hid (Below w.heap.size w wr /\ ∀ j y, j < i -> L[j]? = some y -> decide (y = z) = false)) (fun v _ => n - (intOf v).toNat)
 case atStart => exact ⟨0, rfl, Nat.zero_le _, hid ⟨Below.refl _ _, fun j y hj => absurd hj (Nat.not_lt_zero _)⟩⟩
 case round =>
  obtain ⟨i, rfl, hi, HI⟩ := hrel;by_cases hlt : i < n
  ·obtain ⟨x, hx⟩ : ∃ x, L[i]? = some x := ⟨_, List.getElem?_eq_getElem (by rw [HN.out]; exact hlt)⟩;obtain ⟨A', c', e1, _, _, _, hall⟩ := HR.out.kept (fun cs x hx => intE.kept hx HI.out.1) HI.out.1;obtain ⟨b, o, cs, e2, hb, hcl, hcell, hE⟩ := hall i x hx;obtain ⟨rfl, rfl⟩ : A = A' /\ c = c' := by cases e1; exact ⟨rfl, rfl⟩
   subst e2;obtain ⟨rfl, _⟩ := hE;have c0 : wr.cell? ⟨b, o + i, none⟩ = some (.int .i64 x) := by simpa using hcell 0 _ rfl
   have HX := hid hx;have HLT := hid hlt;have hin : (i : Int) < (n : Int) := by omega
   clear hall hcell hx e1 hcl;by_cases hq : x = z
   ·have HQ := hid hq;have g : (z == x) = true := (by simp [hq]);clear hq;go_wp2
    go_ret
    exact ⟨by rw [z32 (p := fun y => decide (y = z)) HX.out (by simp [HQ.out]) HI.out.2]; rfl, HI.out.1⟩
   ·have HQ := hid hq;have g : (z == x) = false := (by simp [Ne.symm hq]);clear hq;go_wp2
    go_roundw
    case rel =>
     refine ⟨i + 1, by first | rfl | go_num | (congr 1), by have := HLT.out; omega, hid ⟨HI.out.1, fun j y hj hy => ?_⟩⟩;by_cases e : j = i
     ·subst e;rw [HX.out] at hy;obtain rfl := Option.some.inj hy;simp [HQ.out]
     ·exact HI.out.2 j y (by omega) hy
    case measure => simp only [intOf]; have := HLT.out; omega
  ·obtain rfl : i = n := by omega
   go_wp2
   go_ret
   exact ⟨by rw [z2d (p := fun y => decide (y = z)) (by rw [HN.out]; exact HI.out.2)]; rfl, HI.out.1⟩
end Go.Proofs.YtdmadnfadgggcaaGreatDoor
namespace Go.Proofs.YtdmadnfadgggcaaGreatDoor
open Go.RowKit Go.Instr
set_option maxRecDepth 100000
def ofR (r : Nat) (y : MReg) : Int := if z2v y then (r : Int) else y.par
def z1l (R : List MReg) (r : Nat) (y : MReg) : Int := ixF (fun z : Int => decide (z = ofR r y)) ((z29 R).map fun (z : Nat) => (z : Int))
theorem z54 (w : World) (v : Value) (m : Mach) (hm : zz w v m) (hlen : m.regs.length <= 1000) (r : Nat) (y : MReg) (hy : m.regs[r]? = some y) :
 Calls prog 45 #[v, .int .i64 r] w fun e w' => e = .returned (.tuple #[.int .i64 (z1l m.regs r y), .int .i64 y.low, .int .i64 y.width]) /\ Below w.heap.size w w' := by
 have hm' := hm;obtain ⟨cs0, rfl, sr, sb, su, si, hcs, h1, h2, h3, hR, hB, hU, hI⟩ := hm;obtain rfl : cs0 = #[.string m.name, .int .i64 m.word, .int .i64 m.address, sr, sb, su, si] := by cases cs0; simp_all
 obtain ⟨A, c, rfl, hr1, _, _, hall⟩ := id hR;obtain ⟨b, o, cs, e2, hb, hcl, hcell, hE⟩ := hall r y hy;subst e2;have HE := hid hE;obtain ⟨rfl, _⟩ := hE;obtain ⟨n, hn⟩ : ∃ z, m.regs.length = z := ⟨_, rfl⟩;have hrn : (r : Int) < (n : Int) := by have := (List.getElem?_eq_some_iff.1 hy).1; omega
 have hr0 : (0 : Int) <= (r : Int) := by omega
 obtain ⟨W1, hW1⟩ : ∃ W1, W1 = w.alloc (.cells #[.string m.name, .int .i64 m.word, .int .i64 m.address, .slice (some ⟨b, o, none⟩) n c, sb, su, si] 27) := ⟨_, rfl⟩;have hb1 : Below w.heap.size w W1 := by rw [hW1]; exact (Below.refl _ _).alloc (Nat.le_refl _) _
 have hl1 : w.heap.size < W1.heap.size := by rw [hW1]; simp
 have hblk1 : W1.heap[w.heap.size]? = some (.cells #[.string m.name, .int .i64 m.word, .int .i64 m.address, .slice (some ⟨b, o, none⟩) n c, sb, su, si] 27) := by rw [hW1]; exact heap_alloc_new _ _
 have hs1 : W1.heap.size = w.heap.size + 1 := by rw [hW1]; simp
 obtain ⟨W2, hW2⟩ : ∃ W2, W2 = W1.alloc (.cells #[.string y.name, .int .i64 y.width, .int .i64 y.par, .int .i64 y.low] 96) := ⟨_, rfl⟩;have hb2 : Below W1.heap.size W1 W2 := by rw [hW2]; exact (Below.refl _ _).alloc (Nat.le_refl _) _
 have hl2 : W1.heap.size < W2.heap.size := by rw [hW2]; simp
 have hblk2 : W2.heap[W1.heap.size]? = some (.cells #[.string y.name, .int .i64 y.width, .int .i64 y.par, .int .i64 y.low] 96) := by rw [hW2]; exact heap_alloc_new _ _
 have hw2 : Below w.heap.size w W2 := hb1.trans (hb2.mono hb1.size);have HS := hid (show ∀ X, Below W2.heap.size W2 X -> X.cell? ⟨w.heap.size, 0, none⟩ = some (.string m.name) /\ X.cell? ⟨w.heap.size, 1, none⟩ = some (.int .i64 m.word) /\ X.cell? ⟨w.heap.size, 2, none⟩ = some (.int .i64 m.address) /\ X.cell? ⟨w.heap.size, 3, none⟩ = some (.slice (some ⟨b, o, none⟩) n c) /\ X.cell? ⟨w.heap.size, 4, none⟩ = some sb /\ X.cell? ⟨w.heap.size, 5, none⟩ = some su /\ X.cell? ⟨w.heap.size, 6, none⟩ = some si /\ X.cell? ⟨w.heap.size + 1, 1, none⟩ = some (.int .i64 y.width) /\ X.cell? ⟨w.heap.size + 1, 2, none⟩ = some (.int .i64 y.par) /\ X.cell? ⟨w.heap.size + 1, 3, none⟩ = some (.int .i64 y.low) from fun X hX => by have e1 := (hX.block _ (show w.heap.size < W2.heap.size by omega)).trans ((hb2.block _ hl1).trans hblk1);have e2 := (hX.block _ hl2).trans hblk2;rw [hs1] at e2;exact ⟨zb e1 rfl, zb e1 rfl, zb e1 rfl, zb e1 rfl, zb e1 rfl, zb e1 rfl, zb e1 rfl, zb e2 rfl, zb e2 rfl, zb e2 rfl⟩)
 have hMV : ∀ X, Below W2.heap.size W2 X -> zz X (.agg #[.string m.name, .int .i64 m.word, .int .i64 m.address, .slice (some ⟨b, o, none⟩) n c, sb, su, si]) m := fun X hX => by rw [<- hn]; exact hm'.kept (hw2.trans (hX.mono hw2.size))
 have HRO := hid (show ∀ X, Below W2.heap.size W2 X -> Calls prog 42 #[.agg #[.string m.name, .int .i64 m.word, .int .i64 m.address, .slice (some ⟨b, o, none⟩) n c, sb, su, si]] X fun e w' => ∃ sv, e = .returned sv /\ zf 1 intE w' sv ((z29 m.regs).map fun (z : Nat) => (z : Int)) /\ Below W2.heap.size W2 w' from fun X hX => (z6t X _ m (hMV X hX) hlen).mono fun e w' ⟨sv, h1, h2, h3⟩ => ⟨sv, h1, h2, hX.trans (h3.mono hX.size)⟩);have HIX := hid (show ∀ (z : Int) (sv : Value) X, z = ofR r y -> Below W2.heap.size W2 X -> zf 1 intE X sv ((z29 m.regs).map fun (z : Nat) => (z : Int)) -> Calls prog 86 #[sv, .int .i64 z] X fun e w' => e = .returned (.int .i64 (z1l m.regs r y)) /\ Below W2.heap.size W2 w' from fun z sv X hz hX hR => (zdw sv _ X hR z).mono fun e w' ⟨h1, h2⟩ => ⟨by rw [h1, hz]; rfl, hX.trans (h2.mono hX.size)⟩);have HIR := hid ((z4d W1 W2 y [.string y.name, .int .i64 y.width, .int .i64 y.par, .int .i64 y.low] ⟨rfl, HE.out.2⟩));have HWB := hid (show ∀ X, Below W2.heap.size W2 X -> Below w.heap.size w X from fun X hX => hw2.trans (hX.mono hw2.size));have HF2 := hid (Below.refl W2.heap.size W2);have hd : ∀ j u, ([.string y.name, .int .i64 y.width, .int .i64 y.par, .int .i64 y.low] : List Value)[j]? = some u -> W1.cell? ⟨b, o + r * 4 + j, none⟩ = some u := fun j u hj => (hb1.cell (p := ⟨b, o + r * 4 + j, none⟩) hb).trans (hcell j u hj);have d0 : W1.cell? ⟨b, o + r * 4, none⟩ = some (.string y.name) := by simpa using hd 0 _ rfl
 have d1 : W1.cell? ⟨b, o + r * 4 + 1, none⟩ = some (.int .i64 y.width) := hd 1 _ rfl;have d2 : W1.cell? ⟨b, o + r * 4 + 2, none⟩ = some (.int .i64 y.par) := hd 2 _ rfl;have d3 : W1.cell? ⟨b, o + r * 4 + 3, none⟩ = some (.int .i64 y.low) := hd 3 _ rfl;rw [hW2] at HIR;rw [hW1] at HIR d0 d1 d2 d3;obtain ⟨q, hq⟩ : ∃ q, z2v y = q := ⟨_, rfl⟩;have hof : ofR r y = if q then (r : Int) else y.par := by unfold ofR; rw [hq]
 rw [hq] at HIR;have HW2 := hid (show W2 = (w.alloc (.cells #[.string m.name, .int .i64 m.word, .int .i64 m.address, .slice (some ⟨b, o, none⟩) n c, sb, su, si] 27)).alloc (.cells #[.string y.name, .int .i64 y.width, .int .i64 y.par, .int .i64 y.low] 96) by rw [hW2, hW1]);have HOF := hid hof;rw [hn];clear hR hB hU hI hn hW1 hW2 hcs hblk1 hblk2 hl1 hl2 hs1 hb1 hb2 hw2 hMV hd hcell hcl hall hy hq hof hm' hr1
 cases q with
 | true =>
   have HOT := hid (show (r : Int) = ofR r y by rw [HOF.out]; rfl);go_enter Tryz.func45, Tryz.ntmps45
   go_wp2_with (go_at_call 84; (with_reducible refine HIR.out.mono ?_); rintro e w3 ⟨rfl, hb3⟩; rw [<- HW2.out] at hb3; obtain ⟨s0, s1, s2, s3, s4, s5, s6, s7, s8, s9⟩ := HS.out _ hb3; have HB3 := hid hb3)
   first | (go_region_held3 (fun w' => w'.cell? ⟨w.heap.size, 0, none⟩ = some (.string m.name) /\ w'.cell? ⟨w.heap.size, 1, none⟩ = some (.int .i64 m.word) /\ w'.cell? ⟨w.heap.size, 2, none⟩ = some (.int .i64 m.address) /\ w'.cell? ⟨w.heap.size, 3, none⟩ = some (.slice (some ⟨b, o, none⟩) n c) /\ w'.cell? ⟨w.heap.size, 4, none⟩ = some sb /\ w'.cell? ⟨w.heap.size, 5, none⟩ = some su /\ w'.cell? ⟨w.heap.size, 6, none⟩ = some si /\ w'.cell? ⟨w.heap.size + 1, 1, none⟩ = some (.int .i64 y.width) /\ w'.cell? ⟨w.heap.size + 1, 2, none⟩ = some (.int .i64 y.par) /\ w'.cell? ⟨w.heap.size + 1, 3, none⟩ = some (.int .i64 y.low))
    (first | (refine HS.out _ ?_; (repeat (first | assumption | exact HB3.out | refine Below.drew ?_)); done) | exact ⟨by assumption, by assumption, by assumption, by assumption, by assumption, by assumption, by assumption, by assumption, by assumption, by assumption⟩ | go_keep)
    (first
      | (go_at_call 42; go_loud ((with_reducible refine (HRO.out _ (by (repeat (first | assumption | exact HB3.out | refine Below.drew ?_)))).mono ?_); rintro e w4 ⟨sv, rfl, hrow, hb4⟩; obtain ⟨f0, f1, f2, f3, f4, f5, f6, f7, f8, f9⟩ := HS.out _ hb4))
      | (go_at_call 86; go_loud ((with_reducible refine (HIX.out _ _ _ HOT.out (by (repeat (first | assumption | refine Below.drew ?_))) (by assumption)).mono ?_); rintro e w5 ⟨rfl, hb5⟩; obtain ⟨g0, g1, g2, g3, g4, g5, g6, g7, g8, g9⟩ := HS.out _ hb5))))
   all_goals go_wp2
   all_goals exact bodyPost_ret (v := .tuple #[.int .i64 (z1l m.regs r y), .int .i64 y.low, .int .i64 y.width]) (by simp [results, Tryz.results45, go_sem]) rfl ⟨rfl, HWB.out _ hb5⟩
 | false =>
   have HOT := hid (show y.par = ofR r y by rw [HOF.out]; rfl);go_enter Tryz.func45, Tryz.ntmps45
   go_wp2_with (go_at_call 84; (with_reducible refine HIR.out.mono ?_); rintro e w3 ⟨rfl, hb3⟩; rw [<- HW2.out] at hb3; obtain ⟨s0, s1, s2, s3, s4, s5, s6, s7, s8, s9⟩ := HS.out _ hb3; have HB3 := hid hb3)
   first | (go_region_held3 (fun w' => w'.cell? ⟨w.heap.size, 0, none⟩ = some (.string m.name) /\ w'.cell? ⟨w.heap.size, 1, none⟩ = some (.int .i64 m.word) /\ w'.cell? ⟨w.heap.size, 2, none⟩ = some (.int .i64 m.address) /\ w'.cell? ⟨w.heap.size, 3, none⟩ = some (.slice (some ⟨b, o, none⟩) n c) /\ w'.cell? ⟨w.heap.size, 4, none⟩ = some sb /\ w'.cell? ⟨w.heap.size, 5, none⟩ = some su /\ w'.cell? ⟨w.heap.size, 6, none⟩ = some si /\ w'.cell? ⟨w.heap.size + 1, 1, none⟩ = some (.int .i64 y.width) /\ w'.cell? ⟨w.heap.size + 1, 2, none⟩ = some (.int .i64 y.par) /\ w'.cell? ⟨w.heap.size + 1, 3, none⟩ = some (.int .i64 y.low))
    (first | (refine HS.out _ ?_; (repeat (first | assumption | exact HB3.out | refine Below.drew ?_)); done) | exact ⟨by assumption, by assumption, by assumption, by assumption, by assumption, by assumption, by assumption, by assumption, by assumption, by assumption⟩ | go_keep)
    (first
      | (go_at_call 42; go_loud ((with_reducible refine (HRO.out _ (by (repeat (first | assumption | exact HB3.out | refine Below.drew ?_)))).mono ?_); rintro e w4 ⟨sv, rfl, hrow, hb4⟩; obtain ⟨f0, f1, f2, f3, f4, f5, f6, f7, f8, f9⟩ := HS.out _ hb4))
      | (go_at_call 86; go_loud ((with_reducible refine (HIX.out _ _ _ HOT.out (by (repeat (first | assumption | refine Below.drew ?_))) (by assumption)).mono ?_); rintro e w5 ⟨rfl, hb5⟩; obtain ⟨g0, g1, g2, g3, g4, g5, g6, g7, g8, g9⟩ := HS.out _ hb5))))
   all_goals go_wp2
   all_goals exact bodyPost_ret (v := .tuple #[.int .i64 (z1l m.regs r y), .int .i64 y.low, .int .i64 y.width]) (by simp [results, Tryz.results45, go_sem]) rfl ⟨rfl, HWB.out _ hb5⟩
def idxM (m : Mach) (z : Int) : Bool := decide (0 <= z /\ z < (m.regs.length : Int))
def zy (m : Mach) (L : List Int) : Int := if chkR m = 0 then (if L.all (idxM m) then 0 else 2) else chkR m
theorem zbp (m : Mach) : chkR m = 0 ∨ chkR m = 4 ∨ chkR m = 8 := by
 unfold chkR
 cases limM m with
 | false => exact .inr (.inl rfl)
 | true => cases z26 m with
   | false => exact .inr (.inr rfl)
   | true => exact .inl rfl
theorem z2u (w : World) (v : Value) (m : Mach) (hm : zz w v m) (hT : zs w) (hef : ∀ x ∈ m.instrs, ∀ f ∈ x.effs, z3v f) (vs : Value) (L : List Int) (hL : zf 1 intE w vs L) (hlen : L.length <= 1000) :
 Calls prog 44 #[v, vs] w fun e w' => e = .returned (.int .i64 (zy m L)) /\ Below w.heap.size w w' := by
 have hm' := hm;obtain ⟨cs0, rfl, sr, sb, su, si, hcs, h1, h2, h3, hR, hB, hU, hI⟩ := hm;obtain rfl : cs0 = #[.string m.name, .int .i64 m.word, .int .i64 m.address, sr, sb, su, si] := by cases cs0; simp_all
 obtain ⟨A, c, rfl, _⟩ := id hR;obtain ⟨Al, cl, rfl, _⟩ := id hL;have HL := hid hL;obtain ⟨n, hn⟩ : ∃ z, m.regs.length = z := ⟨_, rfl⟩;obtain ⟨nl, hnl⟩ : ∃ z, L.length = z := ⟨_, rfl⟩;have HNL := hid hnl;rw [hnl] at HL hlen;have hnl4 : nl <= 9223372036854775807 := by omega
 obtain ⟨W1, hW1⟩ : ∃ W1, W1 = w.alloc (.cells #[.string m.name, .int .i64 m.word, .int .i64 m.address, .slice A n c, sb, su, si] 27) := ⟨_, rfl⟩;have hb1 : Below w.heap.size w W1 := by rw [hW1]; exact (Below.refl _ _).alloc (Nat.le_refl _) _
 have hl1 : w.heap.size < W1.heap.size := by rw [hW1]; simp
 have hblk1 : W1.heap[w.heap.size]? = some (.cells #[.string m.name, .int .i64 m.word, .int .i64 m.address, .slice A n c, sb, su, si] 27) := by rw [hW1]; exact heap_alloc_new _ _
 have HQ := hid (show ∀ X, Below W1.heap.size W1 X -> X.cell? ⟨w.heap.size, 3, none⟩ = some (.slice A n c) from fun X hX => zb ((hX.block _ hl1).trans hblk1) rfl);have HGR := hid (show ∀ X, Below W1.heap.size W1 X -> Below w.heap.size w X from fun X hX => hb1.trans (hX.mono hb1.size));obtain ⟨ce, hce⟩ : ∃ z, chkR m = z := ⟨_, rfl⟩;have hcc := zbp m;rw [hce] at hcc;have HCK := hid ((z4e W1 (.agg #[.string m.name, .int .i64 m.word, .int .i64 m.address, .slice A n c, sb, su, si]) m (by rw [<- hn]; exact hm'.kept hb1) (hT.below hb1) hef).mono (R' := fun e w' => e = .returned (.int .i64 ce) /\ Below W1.heap.size W1 w') fun e w' ⟨h1, h2⟩ => ⟨by rw [h1, hce], h2⟩);obtain ⟨r, hr⟩ : ∃ z, zy m L = z := ⟨_, rfl⟩;have HR := hid hr;rw [hW1] at HCK;have HW1 := hid hW1;have HCE := hid hce;have HIM := hid (show ∀ z, idxM m z = decide (0 <= z /\ z < (n : Int)) from fun z => by unfold idxM; rw [hn]);rw [hn, hnl, hr];clear hR hB hU hI hcs hW1 hblk1 hl1 hb1 hm' hT hef hL hn hnl hr hce;have hk : ce = 0 ∨ ce ≠ 0 := by omega
 rcases hk with rfl | hne
 ·go_enter Tryz.func44, Tryz.ntmps44
  go_wp2_with (go_at_call 41; (with_reducible refine HCK.out.mono ?_); rintro e w3 ⟨rfl, hb3⟩)
  rw [<- HW1.out] at hb3;have HB3 := hid hb3;have hr0 : (if L.all (idxM m) then (0 : Int) else 2) = r := by rw [<- HR.out]; unfold zy; rw [if_pos HCE.out]
  have HS := hid (show (if (L.drop 0).all (idxM m) then (0 : Int) else 2) = r by rw [List.drop_zero]; exact hr0);clear hb3 hr0;go_loopw [15] (fun vi wr => ∃ i : Nat, vi = .int .i64 i /\ i <= nl /\ Hid (Below W1.heap.size W1 wr /\ (if (L.drop i).all (idxM m) then (0 : Int) else 2) = r)) (fun vi _ => nl - (intOf vi).toNat)
  case atStart => exact ⟨0, rfl, Nat.zero_le _, hid ⟨HB3.out, HS.out⟩⟩
  case round =>
   obtain ⟨i, rfl, hi, HJ⟩ := hrel;have q3 := HQ.out _ HJ.out.1;by_cases hlt : i < nl
   ·obtain ⟨z, hz⟩ : ∃ x, L[i]? = some x := ⟨_, List.getElem?_eq_getElem (by rw [HNL.out]; exact hlt)⟩;have hbw := HGR.out _ HJ.out.1;obtain ⟨A', c', e1, _, _, _, hall⟩ := HL.out.kept (fun cs x hx => intE.kept hx hbw) hbw;obtain ⟨b, o, cs, e2, hb, hcl, hcell, hE⟩ := hall i z hz;obtain ⟨rfl, rfl⟩ : Al = A' /\ cl = c' := by cases e1; exact ⟨rfl, rfl⟩
    subst e2;obtain ⟨rfl, _⟩ := hE;have c0 : wr.cell? ⟨b, o + i, none⟩ = some (.int .i64 z) := (by simpa using hcell 0 _ rfl);have hd : L.drop i = z :: L.drop (i + 1) := by
     rw [List.drop_eq_getElem_cons (by rw [HNL.out]; exact hlt)]
     congr 1
     exact Option.some.inj ((List.getElem?_eq_getElem _).symm.trans hz)
    have hj2 := HJ.out.2;rw [hd, List.all_cons, HIM.out] at hj2;have HII := hid (fun W => z2m z A n c W);have HJ1 := hid HJ.out.1;have HLT := hid hlt;have hin : (i : Int) < (nl : Int) := (by omega);obtain ⟨g, hg⟩ : ∃ g, decide (0 <= z /\ z < (n : Int)) = g := ⟨_, rfl⟩;rw [hg] at HII hj2;have HJ2 := hid hj2;clear hall hcell hz e1 hbw hcl hd hj2 hg HJ
    cases g with
    | false =>
      have hr2 : r = 2 := (by rw [<- HJ2.out]; rfl);have HR2 := hid hr2;clear hr2;go_wp2_with (go_at_call 85; (with_reducible refine (HII.out _).mono ?_); rintro e w4 ⟨rfl, rfl⟩)
      go_ret
      exact ⟨by rw [HR2.out]; rfl, HGR.out _ HJ1.out⟩
    | true =>
      go_wp2_with (go_at_call 85; (with_reducible refine (HII.out _).mono ?_); rintro e w4 ⟨rfl, rfl⟩)
      go_roundw
      case rel => exact ⟨i + 1, by first | rfl | go_num | (congr 1), by have := HLT.out; omega, hid ⟨HJ1.out, by rw [<- HJ2.out, Bool.true_and]⟩⟩
      case measure => simp only [intOf]; have := HLT.out; omega
   ·obtain rfl : i = nl := by omega
    have hj2 := HJ.out.2;rw [List.drop_eq_nil_of_le (by rw [HNL.out]; exact Nat.le_refl _)] at hj2;have hr0 : r = 0 := (by rw [<- hj2]; rfl);have HR0 := hid hr0;have HJ1 := hid (HGR.out _ HJ.out.1);clear hr0 hj2 HJ;go_wp2
    go_ret
    exact ⟨by rw [HR0.out]; rfl, HJ1.out⟩
 ·have hr0 : r = ce := by rw [<- HR.out]; unfold zy; rw [if_neg (by rw [HCE.out]; exact hne), HCE.out]
  have HR0 := hid hr0;have g : (ce != 0) = true := by simp [hne]
  clear hr0 hcc hne;go_enter Tryz.func44, Tryz.ntmps44
  go_wp2_with (go_at_call 41; (with_reducible refine HCK.out.mono ?_); rintro e w3 ⟨rfl, hb3⟩)
  go_ret
  exact ⟨by rw [HR0.out]; rfl, HGR.out _ (by rw [HW1.out]; exact hb3.trans (Below.refl _ _))⟩
theorem z3f {m : Mach} (h : chkR m = 0) : limM m = true /\ z31 m = true /\ z2h m.regs = true /\ z22 m.regs m.banks = true /\ z35 m.units = true /\ z42 m = true := by
 unfold chkR at h
 cases hl : limM m with
 | false => rw [hl] at h; simp at h
 | true =>
   rw [hl] at h
   cases hv : z26 m with
   | false => rw [hv] at h; simp at h
   | true => unfold z26 at hv;simp only [Bool.and_eq_true] at hv;exact ⟨rfl, hv.1, hv.2.1, hv.2.2.1, hv.2.2.2.1, hv.2.2.2.2⟩
theorem z21 {m : Mach} (h : chkR m = 0) : ∀ y ∈ m.regs, 1 <= y.width /\ y.width <= 64 /\ 0 <= y.low /\ y.low + y.width <= 64 := by
 have hr := (z3f h).2.2.1;unfold z2h at hr;simp only [Bool.and_eq_true, List.all_eq_true] at hr;have hw : ∀ y ∈ m.regs, 1 <= y.width /\ y.width <= 64 := fun y hy => by have h1 := hr.2 y hy;unfold z46 at h1;simp only [Bool.and_eq_true, decide_eq_true_eq] at h1;exact h1.1
 intro y hy;obtain ⟨h1, h2⟩ := hw y hy;have h3 := hr.2 y hy;unfold z46 at h3;simp only [Bool.and_eq_true, Bool.or_eq_true] at h3;rcases h3.2 with h4 | h4
 ·unfold z2v at h4;simp only [decide_eq_true_eq] at h4;exact ⟨h1, h2, by omega, by omega⟩
 ·unfold z53 at h4;by_cases h5 : 0 <= y.par
  ·rw [if_pos h5] at h4
   cases hp : m.regs[y.par.toNat]? with
   | none => rw [hp] at h4; simp at h4
   | some q => rw [hp] at h4;simp only [Bool.and_eq_true, decide_eq_true_eq] at h4;have hq := hw q (List.mem_of_getElem? hp);have h6 := h4.2.2;rw [zd _ (by omega) (by omega)] at h6;exact ⟨h1, h2, by omega, by omega⟩
  ·rw [if_neg h5] at h4; simp at h4
theorem z3m {m : Mach} (h : chkR m = 0) : m.regs.length <= 64 := (z7k (z3f h).1).1
def zek (R : List MReg) (a b : Nat) (x y : MReg) : Bool := (z1l R a x == z1l R b y) && (decide (x.low < y.low + y.width) && decide (y.low < x.low + x.width))
def ovB (m : Mach) (a b : Int) : Bool := if zy m [a, b] = 0 then (match m.regs[a.toNat]?, m.regs[b.toNat]? with | some x, some y => zek m.regs a.toNat b.toNat x y | _, _ => false) else false
theorem zgb {w : World} {k : Nat} {a b : Int} {T : Nat} (h : w.heap[k]? = some (.cells #[.int .i64 a, .int .i64 b] T)) (ha : -9223372036854775808 <= a /\ a <= 9223372036854775807) (hb : -9223372036854775808 <= b /\ b <= 9223372036854775807) : zf 1 intE w (.slice (some ⟨k, 0, none⟩) 2 2) [a, b] := by
 refine ⟨some ⟨k, 0, none⟩, 2, rfl, by simp [maxLen], by simp, by simp [maxLen], ?_⟩;intro i x hx;have hk : k < w.heap.size := by obtain ⟨h1, _⟩ := Array.getElem?_eq_some_iff.1 h; exact h1
 match i, hx with
 | 0, hx =>
   obtain rfl : a = x := by simpa using hx
   refine ⟨k, 0, [.int .i64 a], rfl, hk, rfl, ?_, rfl, ha⟩;intro j u hj
   match j, hj with
   | 0, hj => obtain rfl : Value.int .i64 a = u := by simpa using hj
              exact zb h rfl
   | j + 1, hj => simp at hj
 | 1, hx =>
   obtain rfl : b = x := by simpa using hx
   refine ⟨k, 0, [.int .i64 b], rfl, hk, rfl, ?_, rfl, hb⟩;intro j u hj
   match j, hj with
   | 0, hj => obtain rfl : Value.int .i64 b = u := by simpa using hj
              exact zb h rfl
   | j + 1, hj => simp at hj
 | i + 2, hx => simp at hx
theorem zam (w : World) (v : Value) (m : Mach) (hm : zz w v m) (hT : zs w) (hef : ∀ x ∈ m.instrs, ∀ f ∈ x.effs, z3v f) (a b : Int) (ha : -9223372036854775808 <= a /\ a <= 9223372036854775807) (hb : -9223372036854775808 <= b /\ b <= 9223372036854775807) :
 Calls prog 16 #[v, .int .i64 a, .int .i64 b] w fun e w' => e = .returned (.tuple #[.bool (ovB m a b), .int .i64 (zy m [a, b])]) /\ Below w.heap.size w w' := by
 have hm' := hm;obtain ⟨cs0, rfl, sr, sb, su, si, hcs, h1, h2, h3, hR, hB, hU, hI⟩ := hm;obtain rfl : cs0 = #[.string m.name, .int .i64 m.word, .int .i64 m.address, sr, sb, su, si] := by cases cs0; simp_all
 obtain ⟨W1, hW1⟩ : ∃ W1, W1 = w.alloc (.cells #[.string m.name, .int .i64 m.word, .int .i64 m.address, sr, sb, su, si] 27) := ⟨_, rfl⟩;have hb1 : Below w.heap.size w W1 := by rw [hW1]; exact (Below.refl _ _).alloc (Nat.le_refl _) _
 have hl1 : w.heap.size < W1.heap.size := by rw [hW1]; simp
 have hs1 : W1.heap.size = w.heap.size + 1 := by rw [hW1]; simp
 have hblk1 : W1.heap[w.heap.size]? = some (.cells #[.string m.name, .int .i64 m.word, .int .i64 m.address, sr, sb, su, si] 27) := by rw [hW1]; exact heap_alloc_new _ _
 obtain ⟨W2, hW2⟩ : ∃ W2, W2 = W1.alloc (.cells #[.int .i64 a, .int .i64 b] 3) := ⟨_, rfl⟩;have hb2 : Below W1.heap.size W1 W2 := by rw [hW2]; exact (Below.refl _ _).alloc (Nat.le_refl _) _
 have hblk2 : W2.heap[w.heap.size + 1]? = some (.cells #[.int .i64 a, .int .i64 b] 3) := by rw [hW2, <- hs1]; exact heap_alloc_new _ _
 have hw2 : Below w.heap.size w W2 := hb1.trans (hb2.mono hb1.size);have HQ := hid (show ∀ X, Below W1.heap.size W1 X -> X.cell? ⟨w.heap.size, 0, none⟩ = some (.string m.name) /\ X.cell? ⟨w.heap.size, 1, none⟩ = some (.int .i64 m.word) /\ X.cell? ⟨w.heap.size, 2, none⟩ = some (.int .i64 m.address) /\ X.cell? ⟨w.heap.size, 3, none⟩ = some sr /\ X.cell? ⟨w.heap.size, 4, none⟩ = some sb /\ X.cell? ⟨w.heap.size, 5, none⟩ = some su /\ X.cell? ⟨w.heap.size, 6, none⟩ = some si from fun X hX => by have e1 := (hX.block _ hl1).trans hblk1;exact ⟨zb e1 rfl, zb e1 rfl, zb e1 rfl, zb e1 rfl, zb e1 rfl, zb e1 rfl, zb e1 rfl⟩)
 have HGR := hid (show ∀ X, Below W1.heap.size W1 X -> Below w.heap.size w X from fun X hX => hb1.trans (hX.mono hb1.size));obtain ⟨ce, hce⟩ : ∃ z, zy m [a, b] = z := ⟨_, rfl⟩;have HCI := hid ((z2u W2 (.agg #[.string m.name, .int .i64 m.word, .int .i64 m.address, sr, sb, su, si]) m (hm'.kept hw2) (hT.below hw2) hef _ [a, b] (zgb hblk2 ha hb) (by simp)).mono (R' := fun e w' => e = .returned (.int .i64 ce) /\ Below W1.heap.size W1 w') fun e w' ⟨h1, h2⟩ => ⟨by rw [h1, hce], hb2.trans (h2.mono hb2.size)⟩);have hMV : ∀ X, Below W1.heap.size W1 X -> zz X (.agg #[.string m.name, .int .i64 m.word, .int .i64 m.address, sr, sb, su, si]) m := fun X hX => hm'.kept (HGR.out X hX);rw [hW2, hW1] at HCI;have HW1 := hid hW1;obtain ⟨ov, hov⟩ : ∃ z, ovB m a b = z := ⟨_, rfl⟩;have HOV := hid hov;have HCE := hid hce;rw [hov, hce];have hk : ce = 0 ∨ ce ≠ 0 := by omega
 rcases hk with rfl | hne
 ·have hce0 := hce;unfold zy at hce0;have hc0 : chkR m = 0 := by
   by_cases h : chkR m = 0
   ·exact h
   ·rw [if_neg h] at hce0; exact hce0
  rw [if_pos hc0] at hce0;have hall : idxM m a = true /\ idxM m b = true := by cases hA : idxM m a <;> cases hB2 : idxM m b <;> simp [hA, hB2] at hce0 ⊢
  unfold idxM at hall;simp only [decide_eq_true_eq] at hall;obtain ⟨⟨ha0, ha1⟩, hb0, hb1'⟩ := hall;obtain ⟨i, rfl⟩ : ∃ i : Nat, a = (i : Int) := ⟨a.toNat, by omega⟩;obtain ⟨j, rfl⟩ : ∃ j : Nat, b = (j : Int) := ⟨b.toNat, by omega⟩;obtain ⟨x, hx⟩ : ∃ x, m.regs[i]? = some x := ⟨_, List.getElem?_eq_getElem (by omega)⟩;obtain ⟨y, hy⟩ : ∃ y, m.regs[j]? = some y := ⟨_, List.getElem?_eq_getElem (by omega)⟩;have hlr : m.regs.length <= 1000 := by have := z3m hc0; omega
  obtain ⟨bx1, bx2, bx3, bx4⟩ := z21 hc0 x (List.mem_of_getElem? hx);obtain ⟨by1, by2, by3, by4⟩ := z21 hc0 y (List.mem_of_getElem? hy);have hov2 : ov = zek m.regs i j x y := by rw [<- hov]; unfold ovB; rw [if_pos hce]; simp only [Int.toNat_natCast, hx, hy]
  unfold zek at hov2;obtain ⟨pa, hpa⟩ : ∃ z, z1l m.regs i x = z := ⟨_, rfl⟩;obtain ⟨pb, hpb⟩ : ∃ z, z1l m.regs j y = z := ⟨_, rfl⟩;obtain ⟨xl, hxl⟩ : ∃ z, x.low = z := ⟨_, rfl⟩;obtain ⟨xw, hxw⟩ : ∃ z, x.width = z := ⟨_, rfl⟩;obtain ⟨yl, hyl⟩ : ∃ z, y.low = z := ⟨_, rfl⟩;obtain ⟨yw, hyw⟩ : ∃ z, y.width = z := ⟨_, rfl⟩;have HPA := hid (show ∀ X, Below W1.heap.size W1 X -> Calls prog 45 #[.agg #[.string m.name, .int .i64 m.word, .int .i64 m.address, sr, sb, su, si], .int .i64 i] X fun e w' => e = .returned (.tuple #[.int .i64 pa, .int .i64 xl, .int .i64 xw]) /\ Below W1.heap.size W1 w' from fun X hX => (z54 X _ m (hMV X hX) hlr i x hx).mono fun e w' ⟨h1, h2⟩ => ⟨by rw [h1, hpa, hxl, hxw], hX.trans (h2.mono hX.size)⟩);have HPB := hid (show ∀ X, Below W1.heap.size W1 X -> Calls prog 45 #[.agg #[.string m.name, .int .i64 m.word, .int .i64 m.address, sr, sb, su, si], .int .i64 j] X fun e w' => e = .returned (.tuple #[.int .i64 pb, .int .i64 yl, .int .i64 yw]) /\ Below W1.heap.size W1 w' from fun X hX => (z54 X _ m (hMV X hX) hlr j y hy).mono fun e w' ⟨h1, h2⟩ => ⟨by rw [h1, hpb, hyl, hyw], hX.trans (h2.mono hX.size)⟩);rw [hpa, hpb, hxl, hxw, hyl, hyw] at hov2;rw [hxl, hxw] at bx4;rw [hxl] at bx3;rw [hxw] at bx1 bx2;rw [hyl, hyw] at by4;rw [hyl] at by3;rw [hyw] at by1 by2;have s1 : wrap64 (yl + yw) = yl + yw := zd _ (by omega) (by omega);have s2 : wrap64 (xl + xw) = xl + xw := zd _ (by omega) (by omega);have HOV2 := hid hov2;have HS1 := hid s1;have HS2 := hid s2;clear hR hB hU hI hcs hW1 hW2 hblk1 hblk2 hl1 hs1 hb1 hb2 hw2 hm' hT hef hMV hce hce0 hov hov2 hx hy hxl hxw hyl hyw hpa hpb bx1 bx2 bx3 bx4 by1 by2 by3 by4 hc0 hlr ha0 ha1 hb0 hb1' ha hb s1 s2;obtain ⟨q1, g1⟩ : ∃ q, (pa == pb) = q := ⟨_, rfl⟩;obtain ⟨q2, g2⟩ : ∃ q, decide (xl < yl + yw) = q := ⟨_, rfl⟩;obtain ⟨q3, g3⟩ : ∃ q, decide (yl < xl + xw) = q := ⟨_, rfl⟩;have hov3 : ov = (q1 && (q2 && q3)) := by rw [HOV2.out, g1, g2, g3]
  have HO3 := hid hov3;have HG1 := hid g1;have HG2 := hid g2;have HG3 := hid g3;clear hov3 g1 g2 g3;cases q1 <;> cases q2 <;> cases q3
  all_goals (
   have g1 := HG1.out;have g2 := HG2.out;have g3 := HG3.out;have s1 := HS1.out;have s2 := HS2.out;go_enter Tryz.func16, Tryz.ntmps16
   go_wp2_with (first
    | (go_at_call 44; (with_reducible refine HCI.out.mono ?_); rintro e w3 ⟨rfl, hb3⟩; rw [<- HW1.out] at hb3; obtain ⟨c0, c1, c2, c3, c4, c5, c6⟩ := HQ.out _ hb3)
    | (go_at_call 45; (with_reducible refine (HPA.out _ (by assumption)).mono ?_); rintro e w4 ⟨rfl, hb4⟩; obtain ⟨d0, d1, d2, d3, d4, d5, d6⟩ := HQ.out _ hb4)
    | (go_at_call 45; (with_reducible refine (HPB.out _ (by assumption)).mono ?_); rintro e w5 ⟨rfl, hb5⟩))
   exact bodyPost_ret (v := .tuple #[.bool ov, .int .i64 0]) (by simp [results, Tryz.results16, go_sem, HO3.out]) rfl ⟨rfl, HGR.out _ hb5⟩)
 ·have hov2 : ov = false := by rw [<- hov]; unfold ovB; rw [if_neg (by rw [hce]; exact hne)]
  have HO := hid hov2;have g : (ce != 0) = true := by simp [hne]
  clear hR hB hU hI hcs hW1 hW2 hblk1 hblk2 hl1 hs1 hb1 hb2 hw2 hm' hT hef hMV hce hov hov2 ha hb hne;go_enter Tryz.func16, Tryz.ntmps16
  go_wp2_with (go_at_call 44; (with_reducible refine HCI.out.mono ?_); rintro e w3 ⟨rfl, hb3⟩; rw [<- HW1.out] at hb3)
  exact bodyPost_ret (v := .tuple #[.bool ov, .int .i64 ce]) (by simp [results, Tryz.results16, go_sem, HO.out]) rfl ⟨rfl, HGR.out _ hb3⟩
end Go.Proofs.YtdmadnfadgggcaaGreatDoor
