import Derived.Test.YtdmadnfadgggcaaGreatDoorGr
import Derived.Deep.Onto
import Derived.Test.YtdmadnfadgggcaaGreatDoorGc
import Derived.Test.YtdmadnfadgggcaaGreatDoorGd
set_option linter.unusedVariables false
set_option linter.unusedSimpArgs false
set_option warningAsError false
set_option maxHeartbeats 2000000
open Go.Lib (hid)
open Go.Proofs.Tryz (prog)
namespace Go.Proofs.YtdmadnfadgggcaaGreatDoor
open Go.RowKit
def varC (u : Tm) : List Value := if u.kind = 2 then [.string u.name, .int .i64 u.width, .int .u64 0] else []
def varB (l : List Tm) : List Value := l.flatMap varC
def varN (l : List Tm) : Nat := (l.filter fun u => decide (u.kind = 2)).length
theorem z8r : (prog.info? 116).map (fun i => (i.zero, i.size, i.bytes)) = some (some (.agg #[.string ⟨#[]⟩, .int .i64 0, .int .u64 0]), 3, 32) := by kernel_rfl
theorem zex (w : World) (x y z : Value) (t : TypeId) : ∀ j u, [x, y, z][j]? = some u -> (w.alloc (.cells #[x, y, z] t)).cell? ((⟨w.heap.size, 0, none⟩ : Addr).add j) = some u := fun j u h => by
 have hadd : (⟨w.heap.size, 0, none⟩ : Addr).add j = ⟨w.heap.size, j, none⟩ := by unfold Addr.add; split <;> simp_all
 rw [hadd];exact zb (i := j) (World.alloc_heap_new w _) (by rw [<- h]; simp)
theorem zb9 {w w' : World} {base : Nat} {e : TypeId} {size n : Nat} {v : Value} {xs : List Value} (h : w.ownsRow base e size v n xs) (hb : Below w.heap.size w w') : w'.ownsRow base e size v n xs := by
 obtain ⟨h1, h2⟩ := h;refine ⟨h1, ?_⟩;rcases h2 with h2 | ⟨g, cap, cur, hv, hg, hh, r⟩
 ·exact Or.inl h2
 ·refine Or.inr ⟨g, cap, cur, hv, hg, ?_, r⟩;rw [hb.block g (Array.getElem?_eq_some_iff.1 hh).1]; exact hh
theorem z6x (a b : List Tm) : varB (a ++ b) = varB a ++ varB b := by simp [varB]
theorem z6y (a b : List Tm) : varN (a ++ b) = varN a + varN b := by simp [varN]
theorem z3t (l : List Tm) : (varB l).length = varN l * 3 := by
 induction l with
 | nil => rfl
 | cons u l ih =>
   have e1 : varB (u :: l) = varC u ++ varB l := by simp [varB]
   rw [e1, List.length_append, ih];by_cases h : u.kind = 2
   ·have e2 : varN (u :: l) = varN l + 1 := (by simp [varN, h]);rw [e2]; unfold varC; rw [if_pos h]; simp; omega
   ·have e2 : varN (u :: l) = varN l := (by simp [varN, h]);rw [e2]; unfold varC; rw [if_neg h]; simp
theorem z6z (l : List Tm) : varN l <= l.length := by unfold varN; exact List.length_filter_le _ _
theorem zgf (l : List Tm) : ∀ v ∈ varB l, v.oneCell' = true := fun v hv => by
 obtain ⟨u, _, hu⟩ := List.mem_flatMap.1 hv;unfold varC at hu;by_cases h : u.kind = 2
 ·rw [if_pos h] at hu; simp at hu; rcases hu with rfl | rfl | rfl <;> rfl
 ·rw [if_neg h] at hu; simp at hu
def varF (l : List Tm) (j : Nat) : Value := ((varB l)[j]?).getD (.bool false)
theorem zbc (l : List Tm) (j : Nat) : (varF l j).oneCell' = true := by
 unfold varF
 cases h : (varB l)[j]? with
 | none => rfl
 | some v => exact zgf l v (List.mem_of_getElem? h)
theorem z7s (l : List Tm) : (List.range (varN l * 3)).map (varF l) = varB l := by
 rw [<- z3t];apply List.ext_getElem?;intro j;rw [List.getElem?_map];by_cases h : j < (varB l).length
 ·rw [List.getElem?_range h];show some (varF l j) = _;unfold varF;rw [List.getElem?_eq_getElem h]; rfl
 ·rw [List.getElem?_eq_none (by simp; omega), List.getElem?_eq_none (by omega)]; rfl
theorem z7r {w : World} {base : Nat} {e : TypeId} {v : Value} {l : List Tm} (h : w.ownsRow base e 3 v (varN l) (varB l)) : ∃ p c, v = .slice p (varN l) c /\ z7t w p (varN l) 3 (varF l) := by
 rcases h.2 with ⟨rfl, h0⟩ | ⟨g, cap, cur, rfl, hg, hh, _⟩
 ·exact ⟨none, 0, by rw [h0], fun hp => by omega⟩
 ·refine ⟨_, cap, rfl, fun hp => ⟨g, 0, rfl, (Array.getElem?_eq_some_iff.1 hh).1, fun j hj => ?_⟩⟩;rw [Nat.zero_add, World.ownsRow.cellAt h j hj];unfold varF;rw [List.getElem?_eq_getElem (by rw [z3t]; exact hj)]; rfl
def lstK (t : Tm) (k : Nat) : List Tm := t :: (t.sub.take k).flatMap Tm.nodes
theorem z96 {t u : Tm} {k : Nat} (hu : t.sub[k]? = some u) : lstK t (k + 1) = lstK t k ++ u.nodes := by unfold lstK;rw [z1f hu, List.flatMap_append];simp
theorem z5h (l : List Tm) : (l.flatMap Tm.nodes).length = Tm.szs l := by
 induction l with
 | nil => rfl
 | cons u l ih => rw [List.flatMap_cons, List.length_append, ih, Tm.nodes_length, Tm.szs_cons]
theorem z6e (t : Tm) (k : Nat) : (lstK t k).length <= t.sz := by unfold lstK;rw [List.length_cons, z5h, Tm.sz_eq];have e := congrArg Tm.szs (List.take_append_drop k t.sub);rw [Tm.szs_append] at e;omega
set_option maxRecDepth 100000 in
theorem zao : ∀ (z : Nat) (t : Tm), t.sz <= z -> z <= 9000 -> ∀ (sv : Value) (B : Nat) (W : World), B <= W.heap.size -> SubAt W B sv t.sub ->
 Calls prog 168 #[.agg (Tm.cells t sv).toArray] W fun e w' => ∃ v, e = .returned v /\ w'.ownsRow W.heap.size 116 3 v (varN t.nodes) (varB t.nodes) /\ Below W.heap.size W w' := by
 intro z
 induction z with
 | zero => intro t ht; rw [Tm.sz_eq] at ht; omega
 | succ z ih =>
   intro t ht hz sv B W hB hs;obtain ⟨p, nn, cap, S, rfl, hlen, hmax, _, hcells, hsubs⟩ := hs.inv;obtain ⟨W1, hW1⟩ : ∃ W1, W1 = W.alloc (.cells #[.int .u8 t.kind, .int .i64 t.width, .int .u64 t.bits, .string t.name, .int .i64 t.low, .slice p nn cap] 90) := ⟨_, rfl⟩;have hb1 : Below W.heap.size W W1 := by rw [hW1]; exact (Below.refl _ _).alloc (Nat.le_refl _) _
   have hnew : W1.heap[W.heap.size]? = some (.cells #[.int .u8 t.kind, .int .i64 t.width, .int .u64 t.bits, .string t.name, .int .i64 t.low, .slice p nn cap] 90 (0, 0)) := by rw [hW1]; exact z5p rfl _
   have hsz1 : W1.heap.size = W.heap.size + 1 := by rw [hW1]; simp
   have hszt := Tm.sz_eq t;have H1 := hid (And.intro hb1 (And.intro hnew (And.intro hsz1 (And.intro hcells hsubs))));have HTS := hid (And.intro hszt (And.intro ht hz));have HN := hid (Tm.nodes_eq t);have HW := hid hW1;obtain ⟨i0, hi0, hz0, hz1, hz2⟩ := info_parts z8r;have HI0 := hid hi0;have HZ0 := hid hz0;have HZ1 := hid hz1;have HZ2 := hid hz2;have hNL : ∀ l : List Tm, (∀ u ∈ l, u ∈ t.sub) -> True := fun _ _ => trivial;clear hb1 hnew hsz1 hcells hsubs hs hi0 hz0 hz1 hz2 hszt ht hNL;simp only [Tm.cells];generalize hkk : t.kind = kk at *;by_cases c2 : kk = 2
   ·have d2 : ((kk : Int) == 2) = true := (by rw [beq_iff_eq]; omega);have HC : Hid (varC t = [.string t.name, .int .i64 t.width, .int .u64 0]) := hid (by unfold varC; rw [hkk, if_pos c2]);clear c2;go_enter Tryz.func168, Tryz.ntmps168
    go_wp2_with (at_builtin; refine wpList_append_own _ rfl _ _ 62 rfl W1.heap.size 116 i0 (.agg #[.string ⟨#[]⟩, .int .i64 0, .int .u64 0]) 3 32 Tryz.underlying62 HI0.out HZ0.out HZ1.out HZ2.out rfl (by decide) _ 0 [] rfl (World.ownsRow_nil _ _ _ _) ⟨W.heap.size + 1, 0, none⟩ 1 1 [.string t.name, .int .i64 t.width, .int .u64 0] rfl rfl (by have h := zex (W.alloc (.cells #[.int .u8 kk, .int .i64 t.width, .int .u64 t.bits, .string t.name, .int .i64 t.low, .slice p nn cap] 90)) (.string t.name) (.int .i64 t.width) (.int .u64 0) 116; rw [World.size_alloc] at h; exact h) (by intro u hu; simp at hu; rcases hu with rfl | rfl | rfl <;> rfl) (by unfold maxLen; omega) (by omega) (by have := H1.out.2.2.1; simp; omega) ?_; intro v' w1 hown' hgrow hnil'; have HO' := hid hown'; have HG' := hid hgrow; clear hown' hgrow hnil')
    have HS0 : Hid (w1.ownsRow W1.heap.size 116 3 v' (varN (lstK t 0)) (varB (lstK t 0))) := hid (by have e1 : lstK t 0 = [t] := rfl;have e2 : varB [t] = [.string t.name, .int .i64 t.width, .int .u64 0] := (by show varC t ++ [] = _; rw [HC.out]; rfl);have e3 : varN [t] = 1 := (by have h := z3t [t]; rw [e2] at h; simp at h; omega);rw [e1, e2, e3];exact HO'.out)
    have HBS : Hid (Below W1.heap.size W1 w1) := hid (by have h1 : Below W1.heap.size W1 (W1.alloc (.cells #[.string t.name, .int .i64 t.width, .int .u64 0] 116)) := (Below.refl _ _).alloc (Nat.le_refl _) _;have h2 := HG'.out;rw [<- HW.out] at h2;exact h1.grown h2 (by simp) (fun r hr => by cases hr))
    clear hW1 d2;go_loopw [3, 4] (fun vv vi wr => ∃ k : Nat, vi = .int .i64 k /\ k <= nn /\ wr.ownsRow W1.heap.size 116 3 vv (varN (lstK t k)) (varB (lstK t k)) /\ Below W1.heap.size W1 wr) (fun _ vi _ => nn - (intOf vi).toNat)
    case atStart => exact ⟨0, rfl, by omega, HS0.out, HBS.out⟩
    case round =>
     obtain ⟨k, rfl, hk, hrow, hb⟩ := hrel;have HR := hid hrow;have HB := hid hb;clear hrow hb;obtain ⟨hb1, hnew, hsz1, hcells, hsubs⟩ := H1.out;have b5 : wr.cell? ⟨W.heap.size, 5, none⟩ = some (.slice p nn cap) := (by rw [HB.out.cell (by simp [hsz1])]; simp [World.cell?, hnew]);have hWB : Below W.heap.size W wr := hb1.trans (HB.out.mono hb1.size);by_cases hlt : k < nn
     ·obtain ⟨u, hu⟩ : ∃ u, t.sub[k]? = some u := ⟨_, List.getElem?_eq_getElem (by omega)⟩;obtain ⟨b, o, rfl, hbn, a0, a1, a2, a3, a4, a5⟩ := hcells k u hu;rw [<- hWB.cell (Nat.lt_of_lt_of_le hbn hB)] at a0 a1 a2 a3 a4 a5;have hsz := Tm.sz_mem (List.mem_of_getElem? hu);obtain ⟨hszt, ht, _⟩ := HTS.out;have hC := ih u (by omega) (by omega) (S k) B wr (Nat.le_trans hB hWB.size) ((hsubs k u hu).kept (hWB.mono hB));simp only [Tm.cells] at hC;have HC2 := hid hC;have HU := hid hu;have HLM : Hid (varN (lstK t k) <= 9001 /\ varN u.nodes <= 9001) := hid (by
       have h1 := z6z (lstK t k);have h2 := z6e t k;have h3 := z6z u.nodes;rw [Tm.nodes_length] at h3;omega)
      clear hC hu hsz hszt ht hWB hbn hcells hsubs hb1 hnew hsz1
      go_wp2_with first
       | (go_at_call 168; (with_reducible refine HC2.out.mono ?_); rintro e w2 ⟨v2, rfl, hr2, hb2⟩; obtain ⟨p2, c2, rfl, hsrc⟩ := z7r hr2; have HSR := hid hsrc; have HRW := hid (zb9 HR.out hb2); have HB2 := hid (HB.out.trans (hb2.mono HB.out.size)); clear hr2 hsrc hb2)
       | (at_builtin; refine z1v rfl _ _ 62 rfl W1.heap.size 116 i0 (.agg #[.string ⟨#[]⟩, .int .i64 0, .int .u64 0]) 3 32 Tryz.underlying62 HI0.out HZ0.out HZ1.out HZ2.out rfl (by decide) _ _ _ rfl HRW.out p2 (varN u.nodes) c2 (varF u.nodes) rfl HSR.out (zbc _) (by have := HLM.out; unfold maxLen; omega) (by have := HLM.out; omega) HB2.out.size ?_; intro v9 w9 hown9 hg9; have HO9 := hid hown9; have HG9 := hid hg9; clear hown9 hg9)
      go_roundw
      case rel => refine ⟨k + 1, by first | rfl | (rw [zd _ (by unfold maxLen at hmax; omega) (by unfold maxLen at hmax; omega)]; rfl), by omega, ?_, HB2.out.grown HG9.out HB2.out.size (fun r hr => (HRW.out.lt r hr).1)⟩;have h := HO9.out;rw [z7s, <- z6y, <- z6x, <- z96 HU.out] at h;exact h
      case measure => (try rw [zd _ (by unfold maxLen at hmax; omega) (by unfold maxLen at hmax; omega)]); simp only [intOf]; omega
     ·obtain rfl : k = nn := by omega
      have hall : lstK t k = t.nodes := (by unfold lstK; rw [List.take_of_length_le (by omega), HN.out]);rw [hall] at HR;have HWB := hid hWB;have HZ := hid hsz1;clear hcells hsubs hnew hsz1 hWB hall hb1;go_wp2
      go_ret
      exact ⟨_, rfl, HR.out.mono (by have := HZ.out; omega), HWB.out⟩
   ·have d2 : ((kk : Int) == 2) = false := (by rw [beq_eq_false_iff_ne]; omega);go_enter Tryz.func168, Tryz.ntmps168
    go_wp2
    rw [<- HW.out];have HS0 : Hid (W1.ownsRow W1.heap.size 116 3 (.slice none 0 0) (varN (lstK t 0)) (varB (lstK t 0))) := hid (by have e1 : lstK t 0 = [t] := rfl;have e2 : varB [t] = [] := (by show varC t ++ [] = _; unfold varC; rw [hkk, if_neg c2]; rfl);have e3 : varN [t] = 0 := (by have h := z3t [t]; rw [e2] at h; simp at h; omega);rw [e1, e2, e3];exact World.ownsRow_nil _ _ _ _)
    have HBS : Hid (Below W1.heap.size W1 W1) := hid (Below.refl _ _);clear hW1 d2 c2;go_loopw [3, 4] (fun vv vi wr => ∃ k : Nat, vi = .int .i64 k /\ k <= nn /\ wr.ownsRow W1.heap.size 116 3 vv (varN (lstK t k)) (varB (lstK t k)) /\ Below W1.heap.size W1 wr) (fun _ vi _ => nn - (intOf vi).toNat)
    case atStart => exact ⟨0, rfl, by omega, HS0.out, HBS.out⟩
    case round =>
     obtain ⟨k, rfl, hk, hrow, hb⟩ := hrel;have HR := hid hrow;have HB := hid hb;clear hrow hb;obtain ⟨hb1, hnew, hsz1, hcells, hsubs⟩ := H1.out;have b5 : wr.cell? ⟨W.heap.size, 5, none⟩ = some (.slice p nn cap) := (by rw [HB.out.cell (by simp [hsz1])]; simp [World.cell?, hnew]);have hWB : Below W.heap.size W wr := hb1.trans (HB.out.mono hb1.size);by_cases hlt : k < nn
     ·obtain ⟨u, hu⟩ : ∃ u, t.sub[k]? = some u := ⟨_, List.getElem?_eq_getElem (by omega)⟩;obtain ⟨b, o, rfl, hbn, a0, a1, a2, a3, a4, a5⟩ := hcells k u hu;rw [<- hWB.cell (Nat.lt_of_lt_of_le hbn hB)] at a0 a1 a2 a3 a4 a5;have hsz := Tm.sz_mem (List.mem_of_getElem? hu);obtain ⟨hszt, ht, _⟩ := HTS.out;have hC := ih u (by omega) (by omega) (S k) B wr (Nat.le_trans hB hWB.size) ((hsubs k u hu).kept (hWB.mono hB));simp only [Tm.cells] at hC;have HC2 := hid hC;have HU := hid hu;have HLM : Hid (varN (lstK t k) <= 9001 /\ varN u.nodes <= 9001) := hid (by
       have h1 := z6z (lstK t k);have h2 := z6e t k;have h3 := z6z u.nodes;rw [Tm.nodes_length] at h3;omega)
      clear hC hu hsz hszt ht hWB hbn hcells hsubs hb1 hnew hsz1
      go_wp2_with first
       | (go_at_call 168; (with_reducible refine HC2.out.mono ?_); rintro e w2 ⟨v2, rfl, hr2, hb2⟩; obtain ⟨p2, c2, rfl, hsrc⟩ := z7r hr2; have HSR := hid hsrc; have HRW := hid (zb9 HR.out hb2); have HB2 := hid (HB.out.trans (hb2.mono HB.out.size)); clear hr2 hsrc hb2)
       | (at_builtin; refine z1v rfl _ _ 62 rfl W1.heap.size 116 i0 (.agg #[.string ⟨#[]⟩, .int .i64 0, .int .u64 0]) 3 32 Tryz.underlying62 HI0.out HZ0.out HZ1.out HZ2.out rfl (by decide) _ _ _ rfl HRW.out p2 (varN u.nodes) c2 (varF u.nodes) rfl HSR.out (zbc _) (by have := HLM.out; unfold maxLen; omega) (by have := HLM.out; omega) HB2.out.size ?_; intro v9 w9 hown9 hg9; have HO9 := hid hown9; have HG9 := hid hg9; clear hown9 hg9)
      go_roundw
      case rel => refine ⟨k + 1, by first | rfl | (rw [zd _ (by unfold maxLen at hmax; omega) (by unfold maxLen at hmax; omega)]; rfl), by omega, ?_, HB2.out.grown HG9.out HB2.out.size (fun r hr => (HRW.out.lt r hr).1)⟩;have h := HO9.out;rw [z7s, <- z6y, <- z6x, <- z96 HU.out] at h;exact h
      case measure => (try rw [zd _ (by unfold maxLen at hmax; omega) (by unfold maxLen at hmax; omega)]); simp only [intOf]; omega
     ·obtain rfl : k = nn := by omega
      have hall : lstK t k = t.nodes := (by unfold lstK; rw [List.take_of_length_le (by omega), HN.out]);rw [hall] at HR;have HWB := hid hWB;have HZ := hid hsz1;clear hcells hsubs hnew hsz1 hWB hall hb1;go_wp2
      go_ret
      exact ⟨_, rfl, HR.out.mono (by have := HZ.out; omega), HWB.out⟩
end Go.Proofs.YtdmadnfadgggcaaGreatDoor
