import Derived.Test.YtdmadnfadgggcaaGreatDoorGr
import Derived.Test.YtdmadnfadgggcaaGreatDoorPe
import Derived.Test.YtdmadnfadgggcaaGreatDoorGp
import Derived.Laws.AppendOwn
import Derived.Test.YtdmadnfadgggcaaGreatDoorGa
import Derived.Laws.BitsAllLaws
import Derived.Laws.Bits64b
import Derived.Test.YtdmadnfadgggcaaGreatDoorGg
import Derived.Deep.Onto
set_option linter.unusedVariables false
set_option linter.unusedSimpArgs false
set_option warningAsError false
set_option maxHeartbeats 2000000
open Go.Lib (hid)
open Go.Proofs.Tryz (prog)
noncomputable section
namespace Go.Proofs.YtdmadnfadgggcaaGreatDoor
open Go.RowKit Go.Instr Go.Sort
set_option maxRecDepth 100000
def uRow (V : List Nat) : List Value := V.map fun (x : Nat) => Value.int .u64 (x : Int)
theorem z5s (V : List Nat) : (List.range (V.length * 1)).map (fun j => Value.int .u64 (((V[j]?).getD 0 : Nat) : Int)) = uRow V := by
 apply List.ext_getElem?;intro j;rw [Nat.mul_one, List.getElem?_map];unfold uRow;rw [List.getElem?_map];rcases Nat.lt_or_ge j V.length with h | h
 ·rw [List.getElem?_range h, List.getElem?_eq_getElem h]; simp [List.getElem?_eq_getElem h]
 ·rw [List.getElem?_eq_none (by simpa using h), List.getElem?_eq_none h]; rfl
theorem zat {w : World} {A : Option Addr} {V : List Nat} {c : Nat} (h : zf 1 u64E w (.slice A V.length c) V) : z7t w A V.length 1 (fun j => .int .u64 (((V[j]?).getD 0 : Nat) : Int)) := fun h0 => by obtain ⟨A', c', e1, _, _, _, hall⟩ := h;cases e1;obtain ⟨b, o, cs, e2, hb, _, _, _⟩ := hall 0 _ (List.getElem?_eq_getElem h0);refine ⟨b, o, e2, hb, fun j hj => ?_⟩;rw [Nat.mul_one] at hj;obtain ⟨b', o', cs', e3, _, _, hcell, hE⟩ := hall j _ (List.getElem?_eq_getElem hj);obtain ⟨rfl, _⟩ := hE;rw [e2] at e3;cases e3;have := hcell 0 _ rfl;show _ = some (Value.int .u64 (((V[j]?).getD 0 : Nat) : Int));rw [List.getElem?_eq_getElem hj];simpa using this
theorem zdi (n c : Nat) (w : World) : Sem.run prog (binOp BinOp.eql 48 (.slice none n c) (.slice none 0 0)) w = .ok (.bool true) w := by kernel_rfl
theorem zbs (ad : Addr) (n c : Nat) (w : World) : Sem.run prog (binOp BinOp.eql 48 (.slice (some ad) n c) (.slice none 0 0)) w = .ok (.bool false) w := by kernel_rfl
theorem za2 (w : World) (v : Value) (V : List Nat) (hV : zf 1 u64E w v V) (hlen : V.length <= 100000) :
 Calls prog 53 #[v] w fun e w' => ∃ v', e = .returned v' /\ w'.ownsRow w.heap.size 49 1 v' V.length (uRow V) /\ Below w.heap.size w w' := by
 have hS := hV;obtain ⟨A, c, rfl, _, _, _, hall⟩ := hV;have hsrc := zat hS;obtain ⟨n, hn⟩ : ∃ n, V.length = n := ⟨_, rfl⟩;have hur := z5s V;rw [hn] at hur hsrc hlen ⊢;obtain ⟨f, hf⟩ : ∃ f : Nat -> Value, (fun j => Value.int .u64 (((V[j]?).getD 0 : Nat) : Int)) = f := ⟨_, rfl⟩;have hf1 : ∀ j, (f j).oneCell' = true := fun j => by rw [<- hf]; rfl
 rw [hf] at hur hsrc;rcases A with _ | ad
 ·have h0 : n = 0 := by
   rcases Nat.eq_zero_or_pos n with h | h
   ·exact h
   ·obtain ⟨b, o, e, _⟩ := hsrc h; cases e
  subst h0;have hu : uRow V = [] := by rw [<- hur]; rfl
  rw [hu];have HB := hid (Below.refl w.heap.size w);have hq := zdi 0 c;clear hall hS hsrc hur hf hf1 hu hn;go_enter Tryz.func53, Tryz.ntmps53
  go_wp2
  go_ret
  exact ⟨_, rfl, ⟨rfl, .inl ⟨rfl, rfl⟩⟩, HB.out⟩
 ·obtain ⟨i0, hi0, hz0, hz1, hz2⟩ := info_parts z8e;have HI0 := hid hi0;have HZ0 := hid hz0;have HZ1 := hid hz1;have HZ2 := hid hz2;have hb1 : Below w.heap.size w (w.alloc (.cells #[] 49)) := (Below.refl _ _).alloc (Nat.le_refl _) _
  have hown0 : (w.alloc (.cells #[] 49)).ownsRow w.heap.size 49 1 (.slice (some ⟨w.heap.size, 0, none⟩) 0 0) 0 [] :=
   ⟨rfl, .inr ⟨w.heap.size, 0, #[], rfl, Nat.le_refl _, heap_alloc_new _ _, Nat.le_refl _, by simp, rfl, rfl⟩⟩
  have HOWN := hid hown0;have HSRC := hid (hsrc.below hb1);have HF1 := hid hf1;have HUR := hid hur;have HB1 := hid hb1;have hq := zbs ad n c;clear hall hS hsrc hur hf hf1 hn hi0 hz0 hz1 hz2 hb1 hown0;go_enter Tryz.func53, Tryz.ntmps53
  go_wp2_with (at_builtin; refine Hid.out ?_)
  refine hid ?_;refine z1v rfl _ _ 48 rfl w.heap.size 49 i0 (.int .u64 0) 1 8 Tryz.underlying48 HI0.out HZ0.out HZ1.out HZ2.out rfl (by decide) _ 0 [] rfl HOWN.out (some ad) n c f rfl HSRC.out HF1.out (by unfold maxLen; omega) (by omega) (by simp) ?_;intro v' w7 hown' hgrow;have hb7 : Below w.heap.size w w7 := HB1.out.grown hgrow (by simp) (fun r hr => by have := HOWN.out.lt r hr; omega);have HO7 := hid (show w7.ownsRow w.heap.size 49 1 v' n (uRow V) by rw [<- HUR.out]; simpa using hown');have HB7 := hid hb7;clear hown' hgrow hb7;go_wp2
  go_ret
  exact ⟨_, rfl, HO7.out, HB7.out⟩
end Go.Proofs.YtdmadnfadgggcaaGreatDoor
namespace Go.Proofs.YtdmadnfadgggcaaGreatDoor
open Go.RowKit Go.Instr Go.Sort Go.Lib
set_option maxRecDepth 100000
def wrV (v l k x : Nat) : Nat := (v &&& (18446744073709551615 - mk k * 2 ^ l)) ||| (x * 2 ^ l)
theorem z5c {l k x : Nat} (hx : x < 2 ^ k) (h : l + k <= 64) : x * 2 ^ l < 18446744073709551616 /\ mk k * 2 ^ l < 18446744073709551616 := by
 have h1 : (2 : Nat) ^ (l + k) <= 18446744073709551616 := Nat.pow_le_pow_right (n := 2) (i := l + k) (j := 64) (by omega) h;have h2 : 2 ^ k * 2 ^ l <= 18446744073709551616 := by rw [<- Nat.pow_add, Nat.add_comm]; exact h1
 have hm : mk k < 2 ^ k := by unfold mk; have := Nat.two_pow_pos k; omega
 exact ⟨Nat.lt_of_lt_of_le (Nat.mul_lt_mul_of_pos_right hx (Nat.two_pow_pos _)) h2, Nat.lt_of_lt_of_le (Nat.mul_lt_mul_of_pos_right hm (Nat.two_pow_pos _)) h2⟩
theorem zhi {v l k x : Nat} (hv : v < 18446744073709551616) (hx : x < 2 ^ k) (h : l + k <= 64) :
 bits .or .u64 (bits .andNot .u64 (v : Int) (IntKind.u64.wrap (((mk k : Nat) : Int) * 2 ^ l))) (IntKind.u64.wrap ((x : Int) * 2 ^ l)) = ((wrV v l k x : Nat) : Int) := by
 obtain ⟨s2, s3⟩ := z5c hx h;have e1 : IntKind.u64.wrap (((mk k : Nat) : Int) * 2 ^ l) = ((mk k * 2 ^ l : Nat) : Int) := by have := zbe (mk k * 2 ^ l) (mk k * 2 ^ l) (Nat.mod_eq_of_lt s3); simpa using this
 have e2 : IntKind.u64.wrap ((x : Int) * 2 ^ l) = ((x * 2 ^ l : Nat) : Int) := by have := zbe (x * 2 ^ l) (x * 2 ^ l) (Nat.mod_eq_of_lt s2); simpa using this
 rw [e1, e2, u64_andNot_nat v _ hv s3];exact bits_or_u64_nat _ _ (Nat.lt_of_le_of_lt Nat.and_le_left hv) s2
def z5z (m : Mach) (V : List Nat) (a : Int) (x : Nat) : Int := if z25 m V a = 0 then (match m.regs[a.toNat]? with | some y => if okB y.width.toNat x = true then 0 else 24 | none => 24) else z25 m V a
def wrL (m : Mach) (V : List Nat) (a : Int) (x : Nat) : List Nat := if z5z m V a x = 0 then (match m.regs[a.toNat]? with | some y => V.set (z1l m.regs a.toNat y).toNat (wrV ((V[(z1l m.regs a.toNat y).toNat]?).getD 0) y.low.toNat y.width.toNat x) | none => []) else []
theorem z8b {w : World} {base : Nat} {e : TypeId} {g n cap p : Nat} {xs : List Value} (h : w.ownsRow base e 1 (.slice (some ⟨g, 0, none⟩) n cap) n xs) (hp : p < n) (u : Value) : (w.setCell ⟨g, p, none⟩ u).ownsRow base e 1 (.slice (some ⟨g, 0, none⟩) n cap) n (xs.set p u) := by
 obtain ⟨h0, h | ⟨g', cap', cur, hv, hg, hh, hc, hm, hz, ht⟩⟩ := h
 ·cases h.1
 ·cases hv;have hgl : g < w.heap.size := (Array.getElem?_eq_some_iff.1 hh).1;refine ⟨by simpa using h0, .inr ⟨g, cap, cur.set! p u, rfl, hg, ?_, hc, hm, by simpa using hz, ?_⟩⟩
  ·simp [World.setCell, Array.getElem?_modify, hh]
  ·rw [<- ht, Nat.mul_one];simp [List.take_set]
theorem z4s {w : World} {base : Nat} {v : Value} {l : List Nat} (h : w.ownsRow base 49 1 v l.length (uRow l)) (hl : l.length <= maxLen) (hz : ∀ x ∈ l, x < 18446744073709551616) : zf 1 u64E w v l := by
 obtain ⟨_, h | ⟨g, cap, cur, hv, _, hh, hc, hm, _, ht⟩⟩ := h
 ·have h0 : l = [] := List.length_eq_zero_iff.1 h.2;subst h0;exact ⟨none, 0, h.1, by simp, by simp, by simp, fun i x hx => by simp at hx⟩
 ·refine ⟨some ⟨g, 0, none⟩, cap, hv, hl, hc, hm, fun i x hli => ?_⟩;have hil := (List.getElem?_eq_some_iff.1 hli).1;refine ⟨g, 0, [.int .u64 (x : Nat)], rfl, (Array.getElem?_eq_some_iff.1 hh).1, rfl, fun j u hj => ?_, rfl, hz x (List.mem_of_getElem? hli)⟩
  cases j with
  | succ j => simp at hj
  | zero => simp at hj;subst hj;refine zb hh ?_;have e : (cur.toList.take (l.length * 1))[i]? = some (.int .u64 (x : Nat)) := (by rw [ht]; unfold uRow; rw [List.getElem?_map, hli]; rfl);rw [List.getElem?_take] at e;simp only [Nat.mul_one, hil, if_true] at e;simpa using e
theorem zf0 (w : World) (v : Value) (m : Mach) (hm : zz w v m) (hT : zs w) (hef : ∀ x ∈ m.instrs, ∀ f ∈ x.effs, z3v f) (u : Value) (V : List Nat) (hV : zf 1 u64E w u V) (a : Int) (ha : -9223372036854775808 <= a /\ a <= 9223372036854775807) (xv : Nat) (hxv : xv < 18446744073709551616) :
 Calls prog 20 #[v, u, .int .i64 a, .int .u64 (xv : Nat)] w fun e w' => ∃ v', e = .returned (.tuple #[v', .int .i64 (z5z m V a xv)]) /\ (zf 1 u64E w' v' (wrL m V a xv) /\ w'.ownsRow w.heap.size 49 1 v' (wrL m V a xv).length (uRow (wrL m V a xv))) /\ Below w.heap.size w w' := by
 have hm' := hm;obtain ⟨cs0, rfl, sr, sb, su, si, hcs, h1, h2, h3, hR, hB, hU, hI⟩ := hm;obtain rfl : cs0 = #[.string m.name, .int .i64 m.word, .int .i64 m.address, sr, sb, su, si] := by cases cs0; simp_all
 obtain ⟨W1, hW1⟩ : ∃ W1, W1 = w.alloc (.cells #[.string m.name, .int .i64 m.word, .int .i64 m.address, sr, sb, su, si] 27) := ⟨_, rfl⟩;have hb1 : Below w.heap.size w W1 := by rw [hW1]; exact (Below.refl _ _).alloc (Nat.le_refl _) _
 have hl1 : w.heap.size < W1.heap.size := by rw [hW1]; simp
 have hs1 : W1.heap.size = w.heap.size + 1 := by rw [hW1]; simp
 have hblk1 : W1.heap[w.heap.size]? = some (.cells #[.string m.name, .int .i64 m.word, .int .i64 m.address, sr, sb, su, si] 27) := by rw [hW1]; exact heap_alloc_new _ _
 have HQ := hid (show ∀ X, Below W1.heap.size W1 X -> X.cell? ⟨w.heap.size, 0, none⟩ = some (.string m.name) /\ X.cell? ⟨w.heap.size, 1, none⟩ = some (.int .i64 m.word) /\ X.cell? ⟨w.heap.size, 2, none⟩ = some (.int .i64 m.address) /\ X.cell? ⟨w.heap.size, 3, none⟩ = some sr /\ X.cell? ⟨w.heap.size, 4, none⟩ = some sb /\ X.cell? ⟨w.heap.size, 5, none⟩ = some su /\ X.cell? ⟨w.heap.size, 6, none⟩ = some si from fun X hX => by have e1 := (hX.block _ hl1).trans hblk1;exact ⟨zb e1 rfl, zb e1 rfl, zb e1 rfl, zb e1 rfl, zb e1 rfl, zb e1 rfl, zb e1 rfl⟩)
 have HGR := hid (show ∀ X, Below W1.heap.size W1 X -> Below w.heap.size w X from fun X hX => hb1.trans (hX.mono hb1.size));have hVR := hV;obtain ⟨Au, cu, rfl, _⟩ := hV;obtain ⟨nu, hnu⟩ : ∃ z, V.length = z := ⟨_, rfl⟩;rw [hnu] at hVR ⊢;obtain ⟨ce, hce⟩ : ∃ z, z25 m V a = z := ⟨_, rfl⟩;have hMV : ∀ X, Below W1.heap.size W1 X -> zz X (.agg #[.string m.name, .int .i64 m.word, .int .i64 m.address, sr, sb, su, si]) m := fun X hX => hm'.kept (HGR.out X hX);have HCV := hid ((z40 W1 (.agg #[.string m.name, .int .i64 m.word, .int .i64 m.address, sr, sb, su, si]) m (hm'.kept hb1) (hT.below hb1) hef (.slice Au nu cu) V (by exact zf.kept hVR (fun cs x hx => u64E.kept hx hb1) hb1) a ha).mono (R' := fun e w' => e = .returned (.int .i64 ce) /\ Below W1.heap.size W1 w') fun e w' ⟨h1, h2⟩ => ⟨by rw [h1, hce], h2⟩);rw [hW1] at HCV;have HW1 := hid hW1;have hk : ce = 0 ∨ ce ≠ 0 := by omega
 rcases hk with rfl | hne
 ·obtain ⟨hc0, ⟨ha0, ha1⟩, heq⟩ := z3s hce;obtain ⟨i, rfl⟩ : ∃ i : Nat, a = (i : Int) := ⟨a.toNat, by omega⟩;obtain ⟨x, hx⟩ : ∃ x, m.regs[i]? = some x := ⟨_, List.getElem?_eq_getElem (by omega)⟩;have hlr : m.regs.length <= 1000 := by have := z3m hc0; omega
  obtain ⟨bx1, bx2, bx3, bx4⟩ := z21 hc0 x (List.mem_of_getElem? hx);obtain ⟨hp0, hp1⟩ := z2t hc0 hx;have hpart := fun X hX => z54 X _ m (hMV X hX) hlr i x hx;obtain ⟨pa, hpa⟩ : ∃ pa : Nat, z1l m.regs i x = (pa : Int) := ⟨(z1l m.regs i x).toNat, by omega⟩;rw [z5g heq, hnu, hpa] at hp1;obtain ⟨xl, hxl⟩ : ∃ xl : Nat, x.low = (xl : Int) := ⟨x.low.toNat, by omega⟩;obtain ⟨xw, hxw⟩ : ∃ xw : Nat, x.width = (xw : Int) := ⟨x.width.toNat, by omega⟩;have hwe : z5z m V i xv = if okB xw xv = true then 0 else 24 := by unfold z5z; rw [if_pos hce]; simp only [Int.toNat_natCast, hx, hxw]
  have hpn : pa < nu := by omega
  obtain ⟨y, hy⟩ : ∃ y, V[pa]? = some y := ⟨_, List.getElem?_eq_getElem (by omega)⟩;have HPA := hid (show ∀ X, Below W1.heap.size W1 X -> Calls prog 45 #[.agg #[.string m.name, .int .i64 m.word, .int .i64 m.address, sr, sb, su, si], .int .i64 i] X fun e w' => e = .returned (.tuple #[.int .i64 pa, .int .i64 xl, .int .i64 xw]) /\ Below W1.heap.size W1 w' from fun X hX => (hpart X hX).mono fun e w' ⟨h1, h2⟩ => ⟨by rw [h1, hpa, hxl, hxw], hX.trans (h2.mono hX.size)⟩);have hxl1 : xl <= 63 := by omega
  have hxw1 : 1 <= xw /\ xw <= 64 := by omega
  have hlw : xl + xw <= 64 := by omega
  have HOK := hid (fun X => zb4 xw xv X hxw1.1 hxw1.2);have hVb : ∀ z ∈ V, z < 18446744073709551616 := fun z hz => by obtain ⟨k, hk⟩ := List.getElem?_of_mem hz;obtain ⟨A', c', e1, _, _, _, hall⟩ := hVR;obtain ⟨b, o, cs, e2, hb, hcl, hcell, hE⟩ := hall k z hk;exact hE.2
  by_cases hok : okB xw xv = true
  ·rw [if_pos hok] at hwe;have hwl : wrL m V i xv = V.set pa (wrV y xl xw xv) := by
    unfold wrL; rw [if_pos hwe]; simp only [Int.toNat_natCast, hx, hpa, hxl, hxw, hy, Option.getD_some]
   rw [hwe, hwl];rw [hok] at HOK;have hy64 := hVb y (List.mem_of_getElem? hy);have hxk := (zak _ _).1 hok;have HV := hid (zhi (l := xl) hy64 hxk hlw);have hres64 : wrV y xl xw xv < 18446744073709551616 := by unfold wrV;exact Nat.or_lt_two_pow (n := 64) (Nat.lt_of_le_of_lt Nat.and_le_left hy64) (z5c hxk hlw).1
   obtain ⟨z, hz⟩ : ∃ z, wrV y xl xw xv = z := ⟨_, rfl⟩;rw [hz] at HV hres64 ⊢;have hl100 : V.length <= 100000 := by have := z5g heq;have h3 : (z23 m).length <= m.regs.length := (by unfold z23; rw [List.length_map]; exact z34 _ _);omega
   have HCLN := hid (show ∀ X, Below W1.heap.size W1 X -> Calls prog 53 #[.slice Au nu cu] X fun e w' => ∃ (g cap : Nat), e = .returned (.slice (some ⟨g, 0, none⟩) nu cap) /\ w'.ownsRow X.heap.size 49 1 (.slice (some ⟨g, 0, none⟩) nu cap) nu (uRow V) /\ Below W1.heap.size W1 X /\ Below X.heap.size X w' from fun X hX => by
    have hk := HGR.out X hX;have h := za2 X _ V (hVR.kept (fun cs x hx => u64E.kept hx hk) hk) hl100;refine h.mono fun e w' ⟨v', h1, h2, h3⟩ => ?_;rw [hnu] at h2;have h4 := h2;obtain ⟨_, h | ⟨g, cap, cur, rfl, _⟩⟩ := h4
    ·omega
    ·exact ⟨g, cap, h1, h2, hX, h3⟩)
   have HFIN := hid (show ∀ (X0 X : World) (g cap : Nat), Below W1.heap.size W1 X0 -> X.ownsRow X0.heap.size 49 1 (.slice (some ⟨g, 0, none⟩) nu cap) nu (uRow V) -> zf 1 u64E (X.setCell ⟨g, pa, none⟩ (.int .u64 (z : Nat))) (.slice (some ⟨g, 0, none⟩) nu cap) (V.set pa z) /\ (X.setCell ⟨g, pa, none⟩ (.int .u64 (z : Nat))).ownsRow w.heap.size 49 1 (.slice (some ⟨g, 0, none⟩) nu cap) (V.set pa z).length (uRow (V.set pa z)) from fun X0 X g cap h0 ho => by
    have h1 := z8b ho hpn (.int .u64 (z : Nat));have h2 : (uRow V).set pa (.int .u64 (z : Nat)) = uRow (V.set pa z) := (by unfold uRow; rw [List.map_set]);rw [h2] at h1;refine ⟨z4s (base := X0.heap.size) (by rw [List.length_set, hnu]; exact h1) (by rw [List.length_set]; unfold maxLen; omega) fun x hx => ?_, by rw [List.length_set, hnu]; exact h1.mono (HGR.out X0 h0).size⟩;rcases List.mem_or_eq_of_mem_set hx with h | h
    ·exact hVb x h
    ·rw [h]; exact hres64)
   have HYC := hid (show ∀ (X0 X : World) (g cap : Nat), X.ownsRow X0.heap.size 49 1 (.slice (some ⟨g, 0, none⟩) nu cap) nu (uRow V) -> X0.heap.size <= g /\ X.cell? ⟨g, pa, none⟩ = some (.int .u64 (y : Nat)) /\ X.frozen? ⟨g, pa, none⟩ = false from fun X0 X g cap ho => by
    obtain ⟨_, h | ⟨g', cap', cur, hv, hg, hh, _, _, _, ht⟩⟩ := ho
    ·cases h.1
    ·cases hv;refine ⟨hg, zb hh ?_, by simp [World.frozen?, hh]⟩;have e4 : (cur.toList.take (nu * 1))[pa]? = some (.int .u64 (y : Nat)) := (by rw [ht]; unfold uRow; rw [List.getElem?_map, hy]; rfl);rw [List.getElem?_take] at e4;simp only [Nat.mul_one, hpn, if_true] at e4;simpa using e4)
   have hpi : (pa : Int) < (nu : Int) := by omega
   have hp0 : (0 : Int) <= (pa : Int) := by omega
   have rM := hid (fun (W : World) d os => Calls.regrown_of (w := W) (d := d) (os := os) ((z4z xw (grow (redrawn W d) os) hxw1.1 hxw1.2).mono fun e w' ⟨he, hw⟩ => ⟨he, hw ▸ Below.refl _ _⟩));clear hR hB hU hI hcs hW1 hblk1 hl1 hs1 hb1 hm' hT hef hMV hce hc0 heq hx hxl hxw hpa hpart hVR hnu hy bx1 bx2 bx3 bx4 hp1 ha ha0 ha1 hlr hwe hwl hok hxk hy64 hres64 hz hVb hl100 hxv hlw;go_enter Tryz.func20, Tryz.ntmps20
   go_wp2_with (first
    | (go_at_call 48; (with_reducible refine HCV.out.mono ?_); rintro e w3 ⟨rfl, hb3⟩; rw [<- HW1.out] at hb3; obtain ⟨c0, c1, c2, c3, c4, c5, c6⟩ := HQ.out _ hb3)
    | (go_at_call 45; (with_reducible refine (HPA.out _ (by assumption)).mono ?_); rintro e w4 ⟨rfl, hb4⟩)
    | (go_at_call 52; (with_reducible refine (HOK.out _).mono ?_); rintro e w5 ⟨rfl, rfl⟩)
    | (go_at_call 53; (with_reducible refine (HCLN.out _ (by assumption)).mono ?_); rintro e w6 ⟨g, cap, rfl, ho6, hb40, hb6⟩))
   obtain ⟨hg0, y6, z6⟩ := HYC.out _ _ _ _ ho6;have K0 := cell_regrown y6;have HO6 := hid ho6;have HB40 := hid hb40;have HB6 := hid hb6;clear y6 z6 ho6 hb6 hb40 hb3 hb4;refine z1q 16 (by kernel_rfl) (by kernel_rfl) ?_;simp only [List.take_succ_cons, List.take_zero, List.drop_succ_cons, List.drop_zero];repeat (first | go_big_quiet_step ((with_reducible exact rM.out _ _ _)) | quiet_step ((with_reducible exact rM.out _ _ _)))
   refine wpQuiet_nil ?_;intro X hX;have hbX : Below w6.heap.size w6 X := by obtain ⟨p, rfl⟩ := hX; exact below_regrown _ _ _
   have hoX := z52 HO6.out hbX;obtain ⟨_, y7, z7⟩ := HYC.out _ _ _ _ hoX;have HOX := hid hoX;have HBX := hid hbX;clear hX K0 hoX hbX;go_wp2
   have hfin := HFIN.out _ X g cap HB40.out HOX.out;have hgw : w.heap.size <= g := by have := HGR.out _ HB40.out; have := this.size; omega
   have hbF : Below w.heap.size w (X.setCell ⟨g, pa, none⟩ (.int .u64 (z : Nat))) := (HGR.out _ (HB40.out.trans ((HB6.out.trans (HBX.out.mono HB6.out.size)).mono HB40.out.size))).setCell hgw _;rw [HV.out];exact bodyPost_ret (v := .tuple #[.slice (some ⟨g, 0, none⟩) nu cap, .int .i64 0]) (by simp [results, Tryz.results20, go_sem]) rfl ⟨_, rfl, hfin, hbF⟩
  ·rw [if_neg hok] at hwe;have hwl : wrL m V i xv = [] := by unfold wrL; rw [if_neg (by rw [hwe]; decide)]
   rw [hwe, hwl];rw [show okB xw xv = false by cases h : okB xw xv <;> simp_all] at HOK;have HN0 := hid (show ∀ X : World, zf 1 u64E X (.slice none 0 0) ([] : List Nat) /\ X.ownsRow w.heap.size 49 1 (.slice none 0 0) ([] : List Nat).length (uRow []) from fun X => ⟨⟨none, 0, rfl, by simp, by simp, by simp, fun i x hx => by simp at hx⟩, World.ownsRow_nil _ _ _ _⟩);clear hR hB hU hI hcs hW1 hblk1 hl1 hs1 hb1 hm' hT hef hMV hce hc0 heq hx hxl hxw hpa hpart hVR hnu hy bx1 bx2 bx3 bx4 hp0 hp1 ha ha0 ha1 hlr hwe hwl hok hVb hxv hlw;go_enter Tryz.func20, Tryz.ntmps20
   go_wp2_with (first
    | (go_at_call 48; (with_reducible refine HCV.out.mono ?_); rintro e w3 ⟨rfl, hb3⟩; rw [<- HW1.out] at hb3; obtain ⟨c0, c1, c2, c3, c4, c5, c6⟩ := HQ.out _ hb3)
    | (go_at_call 45; (with_reducible refine (HPA.out _ (by assumption)).mono ?_); rintro e w4 ⟨rfl, hb4⟩)
    | (go_at_call 52; (with_reducible refine (HOK.out _).mono ?_); rintro e w5 ⟨rfl, rfl⟩))
   exact bodyPost_ret (v := .tuple #[.slice none 0 0, .int .i64 24]) (by simp [results, Tryz.results20, go_sem]) rfl ⟨_, rfl, HN0.out _, HGR.out _ hb4⟩
 ·have hwe : z5z m V a xv = ce := by unfold z5z; rw [if_neg (by rw [hce]; exact hne), hce]
  have hwl : wrL m V a xv = [] := by unfold wrL; rw [if_neg (by rw [hwe]; exact hne)]
  rw [hwe, hwl];have HN0 := hid (show ∀ X : World, zf 1 u64E X (.slice none 0 0) ([] : List Nat) /\ X.ownsRow w.heap.size 49 1 (.slice none 0 0) ([] : List Nat).length (uRow []) from fun X => ⟨⟨none, 0, rfl, by simp, by simp, by simp, fun i x hx => by simp at hx⟩, World.ownsRow_nil _ _ _ _⟩);have g : (ce != 0) = true := by simp [hne]
  clear hR hB hU hI hcs hW1 hblk1 hl1 hs1 hb1 hm' hT hef hMV hce ha hne hwe hwl hVR hnu hxv;go_enter Tryz.func20, Tryz.ntmps20
  go_wp2_with (go_at_call 48; (with_reducible refine HCV.out.mono ?_); rintro e w3 ⟨rfl, hb3⟩; rw [<- HW1.out] at hb3)
  exact bodyPost_ret (v := .tuple #[.slice none 0 0, .int .i64 ce]) (by simp [results, Tryz.results20, go_sem]) rfl ⟨_, rfl, HN0.out _, HGR.out _ hb3⟩
end Go.Proofs.YtdmadnfadgggcaaGreatDoor
