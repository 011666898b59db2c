import Derived.Test.YtjjfeddenhemhaaGreatDoorGr
import Derived.Test.YtjjfeddenhemhaaGreatDoorPe
import Derived.Deep.AppendLies
import Derived.OwnWalk
import Derived.Maps.AppendAt
import Derived.Laws.OwnMore
import Derived.Test.YtjjfeddenhemhaaGreatDoorGp
import Derived.Laws.AppendOwn
import Derived.Test.YtjjfeddenhemhaaGreatDoorGa
import Derived.Laws.BitsAllLaws
import Derived.Laws.Bits64b
import Derived.Test.YtjjfeddenhemhaaGreatDoorGg
import Derived.Test.YtjjfeddenhemhaaGreatDoorGq
import Derived.Test.YtjjfeddenhemhaaGreatDoorGh
import Derived.BigQuiet
import Derived.Deep.RegionHeld3
import Derived.RangeFuncBox
import Derived.Test.YtjjfeddenhemhaaGreatDoorGk
namespace Go.Proofs.YtjjfeddenhemhaaGreatDoor
open Go.RowKit
set_option linter.unusedVariables false
set_option linter.unusedSimpArgs false
theorem zts : (Tryz.prog.info? 41).map (fun i => (i.zero, i.size, i.bytes)) = some (some (.int .u64 0), 1, 8) := by kernel_rfl
theorem zkp (a b : Nat) (h : a % 18446744073709551616 = b) : IntKind.u64.wrap (a : Int) = (b : Nat) := by
 rw [← h]; simp [IntKind.wrap, IntKind.bits, IntKind.signed]
def zks (w : World) (A : Option Addr) (m size : Nat) (f : Nat → Value) : Prop := 0 < m → ∃ b o, A = some ⟨b, o, none⟩ ∧ b < w.heap.size ∧ ∀ j, j < m * size → w.cell? ⟨b, o + j, none⟩ = some (f j)
theorem zks.below {w w' : World} {A : Option Addr} {m size : Nat} {f : Nat → Value} (h : zks w A m size f) (hb : Below w.heap.size w w') : zks w' A m size f := fun h0 => by
 obtain ⟨b, o, e, h1, h2⟩ := h h0
 exact ⟨b, o, e, Nat.lt_of_lt_of_le h1 hb.size, fun j hj => by rw [hb.cell h1]; exact h2 j hj⟩
section
variable {P : Program} {w : World}
theorem zac (base : Nat) (t ty e : TypeId) (i : TypeInfo) (z : Value) (size bytes : Nat) (ht : P.underlying t = some (.slice e)) (hi : P.info? e = some i) (hz : i.zero = some z)
 (hsize : i.size = size) (hby : i.bytes = bytes) (hzs : z.cells.size = size) (hsz : 0 < size)
 (v : Value) (n : Nat) (xs : List Value) (hown : w.ownsRow base e size v n xs)
 (A : Option Addr) (m c : Nat) (f : Nat → Value) (hr : zks w A m size f) (h1 : ∀ j, (f j).oneCell' = true)
 (h63 : n + m ≤ maxLen) (hbytes : (n + m) * bytes ≤ 140737488355328) (hbase : base ≤ w.heap.size) :
 ∃ v' w', (Builtin.append_ #[t, t] ty #[v, .slice A m c]).run P w = .ok v' w' ∧ w'.ownsRow base e size v' (n + m) (xs ++ (List.range (m * size)).map f) ∧ w.grownBy w' v.ownBlock := by
 rcases A with _ | ad
 ·have hm : m = 0 := by
   rcases Nat.eq_zero_or_pos m with h | h
   ·exact h
   ·obtain ⟨b, o, e, _⟩ := hr h; cases e
  subst hm
  subst hsize
  refine ⟨v, w, ?_, by simpa using hown, World.grownBy.refl w _⟩
  rcases hown.2 with ⟨rfl, hn⟩ | ⟨g, cap, cur, rfl, _, _, h3, _⟩
  ·subst hn
   simp [Builtin.append_, run_underlying ht, sizeOf, typeInfo, hi, Builtin.lenOf, Builtin.firstCells, storeCells]
  ·simp [Builtin.append_, run_underlying ht, sizeOf, typeInfo, hi, Builtin.lenOf, Builtin.firstCells, storeCells, h3]
 ·obtain ⟨v', w', k1, k2, k3, _⟩ := run_append_own_at (P := P) w base t ty e i z size bytes ht hi hz hsize hby hzs hsz v n xs hown ad m c ((List.range (m * size)).map f) (by simp) (fun j u hu => by
   have hj : j < m * size := by
    rcases Nat.lt_or_ge j (m * size) with h | h
    ·exact h
    ·rw [List.getElem?_eq_none (by simpa using h)] at hu; cases hu
   have h0 : 0 < m := by
    rcases Nat.eq_zero_or_pos m with h | h
    ·rw [h] at hj; simp at hj
    ·exact h
   obtain ⟨b, o, e, hb, hc⟩ := hr h0
   cases e
   rw [List.getElem?_map, List.getElem?_range hj] at hu
   obtain rfl := Option.some.inj hu
   have hadd : (⟨b, o, none⟩ : Addr).add j = ⟨b, o + j, none⟩ := by unfold Addr.add; split <;> simp_all
   rw [hadd]
   exact hc j hj) (fun u hu => by
    obtain ⟨j, _, rfl⟩ := List.mem_map.1 hu
    exact h1 j) h63 hbytes hbase
  exact ⟨v', w', k1, k2, k3⟩
theorem z88 {ops : Array Oper} {rest : List Oper} {o : Oper} {a : Act} {Q : Exit → Act → World → Prop} (hgd : o.guard = none) (s x : Operand) (t : TypeId)
 (ho : o.op = .call { callee := .builtin .append, args := #[s, x], argTypes := #[t, t] })
 (base : Nat) (e : TypeId) (i : TypeInfo) (z : Value) (size bytes : Nat) (ht : P.underlying t = some (.slice e)) (hi : P.info? e = some i) (hz : i.zero = some z)
 (hsize : i.size = size) (hby : i.bytes = bytes) (hzs : z.cells.size = size) (hsz : 0 < size)
 (v : Value) (n : Nat) (xs : List Value) (hs : a.eval s = v) (hown : w.ownsRow base e size v n xs)
 (A : Option Addr) (m c : Nat) (f : Nat → Value) (hx : a.eval x = .slice A m c) (hr : zks w A m size f) (h1 : ∀ j, (f j).oneCell' = true)
 (h63 : n + m ≤ maxLen) (hbytes : (n + m) * bytes ≤ 140737488355328) (hbase : base ≤ w.heap.size)
 (h : ∀ v' w', w'.ownsRow base e size v' (n + m) (xs ++ (List.range (m * size)).map f) → w.grownBy w' v.ownBlock → wpList P ops Q rest (a.put o.dst v') w') :
 wpList P ops Q (o :: rest) a w := by
 refine wpList_plain hgd fun K hK => ?_
 obtain ⟨v', w', hr', h2, h3⟩ := zac (P := P) (w := w) base t o.type e i z size bytes ht hi hz hsize hby hzs hsz v n xs hown A m c f hr h1 h63 hbytes hbase
 unfold Oper.wp execOp
 simp only [ho, resolve, invoke, builtin, Sem.run_bind, Sem.run_pure, Result.andThen_ok, List.map_toArray, List.map_cons, List.map_nil, hs, hx, hr']
 exact hK _ _ (h v' w' h2 h3)
end
end Go.Proofs.YtjjfeddenhemhaaGreatDoor
namespace Go.Proofs.YtjjfeddenhemhaaGreatDoor
open Go.RowKit Go.Instr Go.Sort
set_option linter.unusedVariables false
set_option linter.unusedSimpArgs false
set_option maxRecDepth 100000
def uRow (V : List Nat) : List Value := V.map fun (x : Nat) => Value.int .u64 (x : Int)
theorem zn6 (V : List Nat) : (List.range (V.length * 1)).map (fun j => Value.int .u64 (((V[j]?).getD 0 : Nat) : Int)) = uRow V := by
 apply List.ext_getElem?
 intro j
 rw [Nat.mul_one, List.getElem?_map]
 unfold uRow
 rw [List.getElem?_map]
 rcases Nat.lt_or_ge j V.length with h | h
 ·rw [List.getElem?_range h, List.getElem?_eq_getElem h]; simp [List.getElem?_eq_getElem h]
 ·rw [List.getElem?_eq_none (by simpa using h), List.getElem?_eq_none h]; rfl
theorem zw1 {w : World} {A : Option Addr} {V : List Nat} {c : Nat} (h : zd 1 u64E w (.slice A V.length c) V) : zks w A V.length 1 (fun j => .int .u64 (((V[j]?).getD 0 : Nat) : Int)) := fun h0 => by
 obtain ⟨A', c', e1, _, _, _, hall⟩ := h
 cases e1
 obtain ⟨b, o, cs, e2, hb, _, _, _⟩ := hall 0 _ (List.getElem?_eq_getElem h0)
 refine ⟨b, o, e2, hb, fun j hj => ?_⟩
 rw [Nat.mul_one] at hj
 obtain ⟨b', o', cs', e3, _, _, hcell, hE⟩ := hall j _ (List.getElem?_eq_getElem hj)
 obtain ⟨rfl, _⟩ := hE
 rw [e2] at e3
 cases e3
 have := hcell 0 _ rfl
 show _ = some (Value.int .u64 (((V[j]?).getD 0 : Nat) : Int))
 rw [List.getElem?_eq_getElem hj]
 simpa using this
theorem zof (n c : Nat) (w : World) : Sem.run Tryz.prog (binOp BinOp.eql 38 (.slice none n c) (.slice none 0 0)) w = .ok (.bool true) w := by kernel_rfl
theorem zlh (ad : Addr) (n c : Nat) (w : World) : Sem.run Tryz.prog (binOp BinOp.eql 38 (.slice (some ad) n c) (.slice none 0 0)) w = .ok (.bool false) w := by kernel_rfl
set_option warningAsError false in
set_option maxHeartbeats 2000000 in
theorem zgu (w : World) (v : Value) (V : List Nat) (hV : zd 1 u64E w v V) (hlen : V.length ≤ 100000) :
 Calls Tryz.prog 31 #[v] w fun e w' => ∃ v', e = .returned v' ∧ w'.ownsRow w.heap.size 41 1 v' V.length (uRow V) ∧ Below w.heap.size w w' := by
 have hS := hV
 obtain ⟨A, c, rfl, _, _, _, hall⟩ := hV
 have hsrc := zw1 hS
 obtain ⟨n, hn⟩ : ∃ n, V.length = n := ⟨_, rfl⟩
 have hur := zn6 V
 rw [hn] at hur hsrc hlen ⊢
 obtain ⟨f, hf⟩ : ∃ f : Nat → Value, (fun j => Value.int .u64 (((V[j]?).getD 0 : Nat) : Int)) = f := ⟨_, rfl⟩
 have hf1 : ∀ j, (f j).oneCell' = true := fun j => by rw [← hf]; rfl
 rw [hf] at hur hsrc
 rcases A with _ | ad
 ·have h0 : n = 0 := by
   rcases Nat.eq_zero_or_pos n with h | h
   ·exact h
   ·obtain ⟨b, o, e, _⟩ := hsrc h; cases e
  subst h0
  have hu : uRow V = [] := by rw [← hur]; rfl
  rw [hu]
  have HB := Lib.hid (Below.refl w.heap.size w)
  have hq := zof 0 c
  clear hall hS hsrc hur hf hf1 hu hn
  go_enter Tryz.func31, Tryz.ntmps31
  go_wp2
  go_ret
  exact ⟨_, rfl, ⟨rfl, .inl ⟨rfl, rfl⟩⟩, HB.out⟩
 ·obtain ⟨i0, hi0, hz0, hz1, hz2⟩ := info_parts zts
  have HI0 := Lib.hid hi0
  have HZ0 := Lib.hid hz0
  have HZ1 := Lib.hid hz1
  have HZ2 := Lib.hid hz2
  have hb1 : Below w.heap.size w (w.alloc (.cells #[] 41)) := (Below.refl _ _).alloc (Nat.le_refl _) _
  have hown0 : (w.alloc (.cells #[] 41)).ownsRow w.heap.size 41 1 (.slice (some ⟨w.heap.size, 0, none⟩) 0 0) 0 [] :=
   ⟨rfl, .inr ⟨w.heap.size, 0, #[], rfl, Nat.le_refl _, heap_alloc_new _ _, Nat.le_refl _, by simp, rfl, rfl⟩⟩
  have HOWN := Lib.hid hown0
  have HSRC := Lib.hid (hsrc.below hb1)
  have HF1 := Lib.hid hf1
  have HUR := Lib.hid hur
  have HB1 := Lib.hid hb1
  have hq := zlh ad n c
  clear hall hS hsrc hur hf hf1 hn hi0 hz0 hz1 hz2 hb1 hown0
  go_enter Tryz.func31, Tryz.ntmps31
  go_wp2_with (at_builtin; refine Hid.out ?_)
  refine Lib.hid ?_
  refine z88 rfl _ _ 38 rfl w.heap.size 41 i0 (.int .u64 0) 1 8 Tryz.underlying38 HI0.out HZ0.out HZ1.out HZ2.out rfl (by decide) _ 0 [] rfl HOWN.out (some ad) n c f rfl HSRC.out HF1.out (by unfold maxLen; omega) (by omega) (by simp) ?_
  intro v' w7 hown' hgrow
  have hb7 : Below w.heap.size w w7 := HB1.out.grown hgrow (by simp) (fun r hr => by have := HOWN.out.lt r hr; omega)
  have HO7 := Lib.hid (show w7.ownsRow w.heap.size 41 1 v' n (uRow V) by rw [← HUR.out]; simpa using hown')
  have HB7 := Lib.hid hb7
  clear hown' hgrow hb7
  go_wp2
  go_ret
  exact ⟨_, rfl, HO7.out, HB7.out⟩
end Go.Proofs.YtjjfeddenhemhaaGreatDoor
namespace Go.Proofs.YtjjfeddenhemhaaGreatDoor
open Go.RowKit Go.Instr Go.Sort Go.Lib
set_option linter.unusedVariables false
set_option linter.unusedSimpArgs false
set_option maxRecDepth 100000
def wrV (v l k x : Nat) : Nat := (v &&& (18446744073709551615 - mk k * 2 ^ l)) ||| (x * 2 ^ l)
theorem z9y {l k x : Nat} (hx : x < 2 ^ k) (h : l + k ≤ 64) : x * 2 ^ l < 18446744073709551616 ∧ mk k * 2 ^ l < 18446744073709551616 := by
 have h1 : (2 : Nat) ^ (l + k) ≤ 18446744073709551616 := Nat.pow_le_pow_right (n := 2) (i := l + k) (j := 64) (by omega) h
 have h2 : 2 ^ k * 2 ^ l ≤ 18446744073709551616 := by rw [← Nat.pow_add, Nat.add_comm]; exact h1
 have hm : mk k < 2 ^ k := by unfold mk; have := Nat.two_pow_pos k; omega
 exact ⟨Nat.lt_of_lt_of_le (Nat.mul_lt_mul_of_pos_right hx (Nat.two_pow_pos _)) h2, Nat.lt_of_lt_of_le (Nat.mul_lt_mul_of_pos_right hm (Nat.two_pow_pos _)) h2⟩
theorem zxl {v l k x : Nat} (hv : v < 18446744073709551616) (hx : x < 2 ^ k) (h : l + k ≤ 64) :
 bits .or .u64 (bits .andNot .u64 (v : Int) (IntKind.u64.wrap (((mk k : Nat) : Int) * 2 ^ l))) (IntKind.u64.wrap ((x : Int) * 2 ^ l)) = ((wrV v l k x : Nat) : Int) := by
 obtain ⟨s2, s3⟩ := z9y hx h
 have e1 : IntKind.u64.wrap (((mk k : Nat) : Int) * 2 ^ l) = ((mk k * 2 ^ l : Nat) : Int) := by have := zkp (mk k * 2 ^ l) (mk k * 2 ^ l) (Nat.mod_eq_of_lt s3); simpa using this
 have e2 : IntKind.u64.wrap ((x : Int) * 2 ^ l) = ((x * 2 ^ l : Nat) : Int) := by have := zkp (x * 2 ^ l) (x * 2 ^ l) (Nat.mod_eq_of_lt s2); simpa using this
 rw [e1, e2, u64_andNot_nat v _ hv s3]
 exact bits_or_u64_nat _ _ (Nat.lt_of_le_of_lt Nat.and_le_left hv) s2
noncomputable def z29 (m : Mach) (V : List Nat) (a : Int) (x : Nat) : Int := if z1x m V a = 0 then (match m.regs[a.toNat]? with | some y => if okB y.width.toNat x = true then 0 else 24 | none => 24) else z1x m V a
noncomputable def wrL (m : Mach) (V : List Nat) (a : Int) (x : Nat) : List Nat := if z29 m V a x = 0 then (match m.regs[a.toNat]? with | some y => V.set (z1f m.regs a.toNat y).toNat (wrV ((V[(z1f m.regs a.toNat y).toNat]?).getD 0) y.low.toNat y.width.toNat x) | none => []) else []
theorem zkc {w : World} {base : Nat} {e : TypeId} {g n cap p : Nat} {xs : List Value} (h : w.ownsRow base e 1 (.slice (some ⟨g, 0, none⟩) n cap) n xs) (hp : p < n) (u : Value) : (w.setCell ⟨g, p, none⟩ u).ownsRow base e 1 (.slice (some ⟨g, 0, none⟩) n cap) n (xs.set p u) := by
 obtain ⟨h0, h | ⟨g', cap', cur, hv, hg, hh, hc, hm, hz, ht⟩⟩ := h
 ·cases h.1
 ·cases hv
  have hgl : g < w.heap.size := (Array.getElem?_eq_some_iff.1 hh).1
  refine ⟨by simpa using h0, .inr ⟨g, cap, cur.set! p u, rfl, hg, ?_, hc, hm, by simpa using hz, ?_⟩⟩
  ·simp [World.setCell, Array.getElem?_modify, hh]
  ·rw [← ht, Nat.mul_one]
   simp [List.take_set]
theorem z6j {w : World} {base : Nat} {v : Value} {l : List Nat} (h : w.ownsRow base 41 1 v l.length (uRow l)) (hl : l.length ≤ maxLen) (hz : ∀ x ∈ l, x < 18446744073709551616) : zd 1 u64E w v l := by
 obtain ⟨_, h | ⟨g, cap, cur, hv, _, hh, hc, hm, _, ht⟩⟩ := h
 ·have h0 : l = [] := List.length_eq_zero_iff.1 h.2
  subst h0
  exact ⟨none, 0, h.1, by simp, by simp, by simp, fun i x hx => by simp at hx⟩
 ·refine ⟨some ⟨g, 0, none⟩, cap, hv, hl, hc, hm, fun i x hli => ?_⟩
  have hil := (List.getElem?_eq_some_iff.1 hli).1
  refine ⟨g, 0, [.int .u64 (x : Nat)], rfl, (Array.getElem?_eq_some_iff.1 hh).1, rfl, fun j u hj => ?_, rfl, hz x (List.mem_of_getElem? hli)⟩
  cases j with
  | succ j => simp at hj
  | zero =>
    simp at hj
    subst hj
    refine zb hh ?_
    have e : (cur.toList.take (l.length * 1))[i]? = some (.int .u64 (x : Nat)) := by rw [ht]; unfold uRow; rw [List.getElem?_map, hli]; rfl
    rw [List.getElem?_take] at e
    simp only [Nat.mul_one, hil, if_true] at e
    simpa using e
set_option warningAsError false in
set_option maxHeartbeats 2000000 in
theorem z7g (w : World) (v : Value) (m : Mach) (hm : zu w v m) (hT : zh w) (hef : ∀ x ∈ m.instrs, ∀ f ∈ x.effs, z3f f) (u : Value) (V : List Nat) (hV : zd 1 u64E w u V) (a : Int) (ha : -9223372036854775808 ≤ a ∧ a ≤ 9223372036854775807) (xv : Nat) (hxv : xv < 18446744073709551616) :
 Calls Tryz.prog 12 #[v, u, .int .i64 a, .int .u64 (xv : Nat)] w fun e w' => ∃ v', e = .returned (.tuple #[v', .int .i64 (z29 m V a xv)]) ∧ zd 1 u64E w' v' (wrL m V a xv) ∧ Below w.heap.size w w' := by
 have hm' := hm
 obtain ⟨cs0, rfl, sr, sb, su, si, hcs, h1, h2, h3, hR, hB, hU, hI⟩ := hm
 obtain rfl : cs0 = #[.string m.name, .int .i64 m.word, .int .i64 m.address, sr, sb, su, si] := by cases cs0; simp_all
 obtain ⟨W1, hW1⟩ : ∃ W1, W1 = w.alloc (.cells #[.string m.name, .int .i64 m.word, .int .i64 m.address, sr, sb, su, si] 27) := ⟨_, rfl⟩
 have hb1 : Below w.heap.size w W1 := by rw [hW1]; exact (Below.refl _ _).alloc (Nat.le_refl _) _
 have hl1 : w.heap.size < W1.heap.size := by rw [hW1]; simp
 have hs1 : W1.heap.size = w.heap.size + 1 := by rw [hW1]; simp
 have hblk1 : W1.heap[w.heap.size]? = some (.cells #[.string m.name, .int .i64 m.word, .int .i64 m.address, sr, sb, su, si] 27) := by rw [hW1]; exact heap_alloc_new _ _
 have HQ := Lib.hid (show ∀ X, Below W1.heap.size W1 X → X.cell? ⟨w.heap.size, 0, none⟩ = some (.string m.name) ∧ X.cell? ⟨w.heap.size, 1, none⟩ = some (.int .i64 m.word) ∧ X.cell? ⟨w.heap.size, 2, none⟩ = some (.int .i64 m.address) ∧ X.cell? ⟨w.heap.size, 3, none⟩ = some sr ∧ X.cell? ⟨w.heap.size, 4, none⟩ = some sb ∧ X.cell? ⟨w.heap.size, 5, none⟩ = some su ∧ X.cell? ⟨w.heap.size, 6, none⟩ = some si from fun X hX => by
  have e1 := (hX.block _ hl1).trans hblk1
  exact ⟨zb e1 rfl, zb e1 rfl, zb e1 rfl, zb e1 rfl, zb e1 rfl, zb e1 rfl, zb e1 rfl⟩)
 have HGR := Lib.hid (show ∀ X, Below W1.heap.size W1 X → Below w.heap.size w X from fun X hX => hb1.trans (hX.mono hb1.size))
 have hVR := hV
 obtain ⟨Au, cu, rfl, _⟩ := hV
 obtain ⟨nu, hnu⟩ : ∃ z, V.length = z := ⟨_, rfl⟩
 rw [hnu] at hVR ⊢
 obtain ⟨ce, hce⟩ : ∃ z, z1x m V a = z := ⟨_, rfl⟩
 have hMV : ∀ X, Below W1.heap.size W1 X → zu X (.agg #[.string m.name, .int .i64 m.word, .int .i64 m.address, sr, sb, su, si]) m := fun X hX => hm'.kept (HGR.out X hX)
 have HCV := Lib.hid ((z4u W1 (.agg #[.string m.name, .int .i64 m.word, .int .i64 m.address, sr, sb, su, si]) m (hm'.kept hb1) (hT.below hb1) hef (.slice Au nu cu) V (by exact zd.kept hVR (fun cs x hx => u64E.kept hx hb1) hb1) a ha).mono (R' := fun e w' => e = .returned (.int .i64 ce) ∧ Below W1.heap.size W1 w') fun e w' ⟨h1, h2⟩ => ⟨by rw [h1, hce], h2⟩)
 rw [hW1] at HCV
 have HW1 := Lib.hid hW1
 have hk : ce = 0 ∨ ce ≠ 0 := by omega
 rcases hk with rfl | hne
 ·obtain ⟨hc0, ⟨ha0, ha1⟩, heq⟩ := z3d hce
  obtain ⟨i, rfl⟩ : ∃ i : Nat, a = (i : Int) := ⟨a.toNat, by omega⟩
  obtain ⟨x, hx⟩ : ∃ x, m.regs[i]? = some x := ⟨_, List.getElem?_eq_getElem (by omega)⟩
  have hlr : m.regs.length ≤ 1000 := by have := z32 hc0; omega
  obtain ⟨bx1, bx2, bx3, bx4⟩ := z27 hc0 x (List.mem_of_getElem? hx)
  obtain ⟨hp0, hp1⟩ := z53 hc0 hx
  have hpart := fun X hX => z73 X _ m (hMV X hX) hlr i x hx
  obtain ⟨pa, hpa⟩ : ∃ pa : Nat, z1f m.regs i x = (pa : Int) := ⟨(z1f m.regs i x).toNat, by omega⟩
  rw [zha heq, hnu, hpa] at hp1
  obtain ⟨xl, hxl⟩ : ∃ xl : Nat, x.low = (xl : Int) := ⟨x.low.toNat, by omega⟩
  obtain ⟨xw, hxw⟩ : ∃ xw : Nat, x.width = (xw : Int) := ⟨x.width.toNat, by omega⟩
  have hwe : z29 m V i xv = if okB xw xv = true then 0 else 24 := by unfold z29; rw [if_pos hce]; simp only [Int.toNat_natCast, hx, hxw]
  have hpn : pa < nu := by omega
  obtain ⟨y, hy⟩ : ∃ y, V[pa]? = some y := ⟨_, List.getElem?_eq_getElem (by omega)⟩
  have HPA := Lib.hid (show ∀ X, Below W1.heap.size W1 X → Calls Tryz.prog 26 #[.agg #[.string m.name, .int .i64 m.word, .int .i64 m.address, sr, sb, su, si], .int .i64 i] X fun e w' => e = .returned (.tuple #[.int .i64 pa, .int .i64 xl, .int .i64 xw]) ∧ Below W1.heap.size W1 w' from fun X hX => (hpart X hX).mono fun e w' ⟨h1, h2⟩ => ⟨by rw [h1, hpa, hxl, hxw], hX.trans (h2.mono hX.size)⟩)
  have hxl1 : xl ≤ 63 := by omega
  have hxw1 : 1 ≤ xw ∧ xw ≤ 64 := by omega
  have hlw : xl + xw ≤ 64 := by omega
  have HOK := Lib.hid (fun X => zau xw xv X hxw1.1 hxw1.2)
  have hVb : ∀ z ∈ V, z < 18446744073709551616 := fun z hz => by
   obtain ⟨k, hk⟩ := List.getElem?_of_mem hz
   obtain ⟨A', c', e1, _, _, _, hall⟩ := hVR
   obtain ⟨b, o, cs, e2, hb, hcl, hcell, hE⟩ := hall k z hk
   exact hE.2
  by_cases hok : okB xw xv = true
  ·rw [if_pos hok] at hwe
   have hwl : wrL m V i xv = V.set pa (wrV y xl xw xv) := by
    unfold wrL; rw [if_pos hwe]; simp only [Int.toNat_natCast, hx, hpa, hxl, hxw, hy, Option.getD_some]
   rw [hwe, hwl]
   rw [hok] at HOK
   have hy64 := hVb y (List.mem_of_getElem? hy)
   have hxk := (z2y _ _).1 hok
   have HV := Lib.hid (zxl (l := xl) hy64 hxk hlw)
   have hres64 : wrV y xl xw xv < 18446744073709551616 := by
    unfold wrV
    exact Nat.or_lt_two_pow (n := 64) (Nat.lt_of_le_of_lt Nat.and_le_left hy64) (z9y hxk hlw).1
   obtain ⟨z, hz⟩ : ∃ z, wrV y xl xw xv = z := ⟨_, rfl⟩
   rw [hz] at HV hres64 ⊢
   have hl100 : V.length ≤ 100000 := by
    have := zha heq
    have h3 : (z1d m).length ≤ m.regs.length := by unfold z1d; rw [List.length_map]; exact z76 _ _
    omega
   have HCLN := Lib.hid (show ∀ X, Below W1.heap.size W1 X → Calls Tryz.prog 31 #[.slice Au nu cu] X fun e w' => ∃ (g cap : Nat), e = .returned (.slice (some ⟨g, 0, none⟩) nu cap) ∧ w'.ownsRow X.heap.size 41 1 (.slice (some ⟨g, 0, none⟩) nu cap) nu (uRow V) ∧ Below W1.heap.size W1 X ∧ Below X.heap.size X w' from fun X hX => by
    have hk := HGR.out X hX
    have h := zgu X _ V (hVR.kept (fun cs x hx => u64E.kept hx hk) hk) hl100
    refine h.mono fun e w' ⟨v', h1, h2, h3⟩ => ?_
    rw [hnu] at h2
    have h4 := h2
    obtain ⟨_, h | ⟨g, cap, cur, rfl, _⟩⟩ := h4
    ·omega
    ·exact ⟨g, cap, h1, h2, hX, h3⟩)
   have HFIN := Lib.hid (show ∀ (X0 X : World) (g cap : Nat), Below W1.heap.size W1 X0 → X.ownsRow X0.heap.size 41 1 (.slice (some ⟨g, 0, none⟩) nu cap) nu (uRow V) → zd 1 u64E (X.setCell ⟨g, pa, none⟩ (.int .u64 (z : Nat))) (.slice (some ⟨g, 0, none⟩) nu cap) (V.set pa z) from fun X0 X g cap h0 ho => by
    have h1 := zkc ho hpn (.int .u64 (z : Nat))
    have h2 : (uRow V).set pa (.int .u64 (z : Nat)) = uRow (V.set pa z) := by unfold uRow; rw [List.map_set]
    rw [h2] at h1
    refine z6j (base := X0.heap.size) (by rw [List.length_set, hnu]; exact h1) (by rw [List.length_set]; unfold maxLen; omega) fun x hx => ?_
    rcases List.mem_or_eq_of_mem_set hx with h | h
    ·exact hVb x h
    ·rw [h]; exact hres64)
   have HYC := Lib.hid (show ∀ (X0 X : World) (g cap : Nat), X.ownsRow X0.heap.size 41 1 (.slice (some ⟨g, 0, none⟩) nu cap) nu (uRow V) → X0.heap.size ≤ g ∧ X.cell? ⟨g, pa, none⟩ = some (.int .u64 (y : Nat)) ∧ X.frozen? ⟨g, pa, none⟩ = false from fun X0 X g cap ho => by
    obtain ⟨_, h | ⟨g', cap', cur, hv, hg, hh, _, _, _, ht⟩⟩ := ho
    ·cases h.1
    ·cases hv
     refine ⟨hg, zb hh ?_, by simp [World.frozen?, hh]⟩
     have e4 : (cur.toList.take (nu * 1))[pa]? = some (.int .u64 (y : Nat)) := by rw [ht]; unfold uRow; rw [List.getElem?_map, hy]; rfl
     rw [List.getElem?_take] at e4
     simp only [Nat.mul_one, hpn, if_true] at e4
     simpa using e4)
   have hpi : (pa : Int) < (nu : Int) := by omega
   have hp0 : (0 : Int) ≤ (pa : Int) := by omega
   have rM := Lib.hid (fun (W : World) d os => Calls.regrown_of (w := W) (d := d) (os := os) ((z33 xw (grow (redrawn W d) os) hxw1.1 hxw1.2).mono fun e w' ⟨he, hw⟩ => ⟨he, hw ▸ Below.refl _ _⟩))
   clear hR hB hU hI hcs hW1 hblk1 hl1 hs1 hb1 hm' hT hef hMV hce hc0 heq hx hxl hxw hpa hpart hVR hnu hy bx1 bx2 bx3 bx4 hp1 ha ha0 ha1 hlr hwe hwl hok hxk hy64 hres64 hz hVb hl100 hxv hlw
   go_enter Tryz.func12, Tryz.ntmps12
   go_wp2_with (first
    | (go_at_call 29; (with_reducible refine HCV.out.mono ?_); rintro e w3 ⟨rfl, hb3⟩; rw [← HW1.out] at hb3; obtain ⟨c0, c1, c2, c3, c4, c5, c6⟩ := HQ.out _ hb3)
    | (go_at_call 26; (with_reducible refine (HPA.out _ (by assumption)).mono ?_); rintro e w4 ⟨rfl, hb4⟩)
    | (go_at_call 30; (with_reducible refine (HOK.out _).mono ?_); rintro e w5 ⟨rfl, rfl⟩)
    | (go_at_call 31; (with_reducible refine (HCLN.out _ (by assumption)).mono ?_); rintro e w6 ⟨g, cap, rfl, ho6, hb40, hb6⟩))
   obtain ⟨hg0, y6, z6⟩ := HYC.out _ _ _ _ ho6
   have K0 := fun d os => cell_regrown y6 d os
   have HO6 := Lib.hid ho6
   have HB40 := Lib.hid hb40
   have HB6 := Lib.hid hb6
   clear y6 z6 ho6 hb6 hb40 hb3 hb4
   refine z1r 16 (by kernel_rfl) (by kernel_rfl) ?_
   simp only [List.take_succ_cons, List.take_zero, List.drop_succ_cons, List.drop_zero]
   repeat (first | go_big_quiet_step ((with_reducible exact rM.out _ _ _)) | quiet_step ((with_reducible exact rM.out _ _ _)))
   refine wpQuiet_nil ?_
   intro X hX
   have hbX : Below w6.heap.size w6 X := by obtain ⟨p, rfl⟩ := hX; exact below_regrown _ _ _
   have hoX := z72 HO6.out hbX
   obtain ⟨_, y7, z7⟩ := HYC.out _ _ _ _ hoX
   have HOX := Lib.hid hoX
   have HBX := Lib.hid hbX
   clear hX K0 hoX hbX
   go_wp2
   have hfin := HFIN.out _ X g cap HB40.out HOX.out
   have hgw : w.heap.size ≤ g := by have := HGR.out _ HB40.out; have := this.size; omega
   have hbF : Below w.heap.size w (X.setCell ⟨g, pa, none⟩ (.int .u64 (z : Nat))) := (HGR.out _ (HB40.out.trans ((HB6.out.trans (HBX.out.mono HB6.out.size)).mono HB40.out.size))).setCell hgw _
   rw [HV.out]
   exact bodyPost_ret (v := .tuple #[.slice (some ⟨g, 0, none⟩) nu cap, .int .i64 0]) (by simp [results, Tryz.results12, go_sem]) rfl ⟨_, rfl, hfin, hbF⟩
  ·rw [if_neg hok] at hwe
   have hwl : wrL m V i xv = [] := by unfold wrL; rw [if_neg (by rw [hwe]; decide)]
   rw [hwe, hwl]
   rw [show okB xw xv = false by cases h : okB xw xv <;> simp_all] at HOK
   have HN0 := Lib.hid (show ∀ X : World, zd 1 u64E X (.slice none 0 0) ([] : List Nat) from fun X => ⟨none, 0, rfl, by simp, by simp, by simp, fun i x hx => by simp at hx⟩)
   clear hR hB hU hI hcs hW1 hblk1 hl1 hs1 hb1 hm' hT hef hMV hce hc0 heq hx hxl hxw hpa hpart hVR hnu hy bx1 bx2 bx3 bx4 hp0 hp1 ha ha0 ha1 hlr hwe hwl hok hVb hxv hlw
   go_enter Tryz.func12, Tryz.ntmps12
   go_wp2_with (first
    | (go_at_call 29; (with_reducible refine HCV.out.mono ?_); rintro e w3 ⟨rfl, hb3⟩; rw [← HW1.out] at hb3; obtain ⟨c0, c1, c2, c3, c4, c5, c6⟩ := HQ.out _ hb3)
    | (go_at_call 26; (with_reducible refine (HPA.out _ (by assumption)).mono ?_); rintro e w4 ⟨rfl, hb4⟩)
    | (go_at_call 30; (with_reducible refine (HOK.out _).mono ?_); rintro e w5 ⟨rfl, rfl⟩))
   exact bodyPost_ret (v := .tuple #[.slice none 0 0, .int .i64 24]) (by simp [results, Tryz.results12, go_sem]) rfl ⟨_, rfl, HN0.out _, HGR.out _ hb4⟩
 ·have hwe : z29 m V a xv = ce := by unfold z29; rw [if_neg (by rw [hce]; exact hne), hce]
  have hwl : wrL m V a xv = [] := by unfold wrL; rw [if_neg (by rw [hwe]; exact hne)]
  rw [hwe, hwl]
  have HN0 := Lib.hid (show ∀ X : World, zd 1 u64E X (.slice none 0 0) ([] : List Nat) from fun X => ⟨none, 0, rfl, by simp, by simp, by simp, fun i x hx => by simp at hx⟩)
  have g : (ce != 0) = true := by simp [hne]
  clear hR hB hU hI hcs hW1 hblk1 hl1 hs1 hb1 hm' hT hef hMV hce ha hne hwe hwl hVR hnu hxv
  go_enter Tryz.func12, Tryz.ntmps12
  go_wp2_with (go_at_call 29; (with_reducible refine HCV.out.mono ?_); rintro e w3 ⟨rfl, hb3⟩; rw [← HW1.out] at hb3)
  exact bodyPost_ret (v := .tuple #[.slice none 0 0, .int .i64 ce]) (by simp [results, Tryz.results12, go_sem]) rfl ⟨_, rfl, HN0.out _, HGR.out _ hb3⟩
end Go.Proofs.YtjjfeddenhemhaaGreatDoor
namespace Go.Proofs.YtjjfeddenhemhaaGreatDoor
open Go.RowKit Go.Instr Go.Sort
set_option linter.unusedVariables false
set_option linter.unusedSimpArgs false
set_option maxRecDepth 100000
set_option maxHeartbeats 1000000
theorem zjv (v P : Int) (h1 : -P ≤ v) (h2 : v < 0) : v % P = v + P := by
 have := Int.add_mul_emod_self_left v P 1
 rw [Int.mul_one] at this
 rw [← this]
 exact Int.emod_eq_of_lt (by omega) (by omega)
theorem z90 (w : Nat) : ((2 ^ w : Nat) : Int) = 2 ^ w := by simp
theorem ztm (g : Bool) (w : Nat) (v : Int) (h1 : 1 ≤ w) (h2 : w ≤ 32) (a : lowN g w ≤ v) (b : v ≤ z7r g w) :
 (v % 2 ^ w).toNat < 2 ^ w ∧ (if g = true then sg w (v % 2 ^ w).toNat else ((v % 2 ^ w).toNat : Int)) = v := by
 have hd := zug w h1
 have hp := pow32 w h2
 have hH := z90 (w - 1)
 have hP := z90 w
 cases g
 ·unfold lowN at a; unfold z7r at b
  simp only [Bool.false_eq_true, if_false] at a b ⊢
  rw [Int.emod_eq_of_lt a (by omega)]
  omega
 ·unfold lowN at a; unfold z7r at b
  simp only [if_true] at a b ⊢
  unfold sg
  by_cases hv : v < 0
  ·rw [zjv v _ (by omega) hv]
   rw [if_neg (by omega)]
   omega
  ·rw [Int.emod_eq_of_lt (by omega) (by omega)]
   rw [if_pos (by omega)]
   omega
theorem zs6 (g : Bool) (w y : Nat) (h1 : 1 ≤ w) (h2 : w ≤ 32) (hy : y < 2 ^ w) :
 lowN g w ≤ (if g = true then sg w y else (y : Int)) ∧ (if g = true then sg w y else (y : Int)) ≤ z7r g w ∧ (((if g = true then sg w y else (y : Int)) % 2 ^ w).toNat) = y := by
 have hd := zug w h1
 have hp := pow32 w h2
 have hH := z90 (w - 1)
 have hP := z90 w
 cases g
 ·unfold lowN z7r
  simp only [Bool.false_eq_true, if_false]
  rw [Int.emod_eq_of_lt (by omega) (by omega)]
  omega
 ·unfold lowN z7r
  simp only [if_true]
  unfold sg
  split
  ·rw [Int.emod_eq_of_lt (by omega) (by omega)]
   omega
  ·rw [zjv _ _ (by omega) (by omega)]
   omega
theorem zd3 {k w s n : Int} (h : (z5t k w s n).2 = 0) : chkK k w s = 0 ∧ numB (sgK k) w.toNat s.toNat n = true ∧ (z5t k w s n).1 = ((n / 2 ^ s.toNat) % 2 ^ w.toNat).toNat := by
 unfold z5t at *
 split at h
 ·rename_i h1
  rw [if_pos h1]
  split at h
  ·rename_i h2; rw [if_pos h2]; exact ⟨h1, h2, rfl⟩
  ·cases h
 ·rename_i h1; exact absurd h h1
theorem zhe {k w s n : Int} : (z5t k w s n).2 = 0 ↔ chkK k w s = 0 ∧ numB (sgK k) w.toNat s.toNat n = true := by
 constructor
 ·intro h; exact ⟨(zd3 h).1, (zd3 h).2.1⟩
 ·rintro ⟨h1, h2⟩; unfold z5t; rw [if_pos h1, if_pos h2]
end Go.Proofs.YtjjfeddenhemhaaGreatDoor
namespace Go.Proofs.YtjjfeddenhemhaaGreatDoor
open Go.RowKit Go.Instr Go.Sort
set_option linter.unusedVariables false
set_option linter.unusedSimpArgs false
set_option maxRecDepth 100000
def ofBR (n z : Int) : Nat × Int :=
 if n < 1 ∨ 64 < n then (0, 14) else if sg n.toNat (z % 2 ^ n.toNat).toNat = z then ((z % 2 ^ n.toNat).toNat, 0) else (0, 24)
theorem zx5 (n : Int) (z : Int) (w : World) :
 Calls Tryz.prog 88 #[.int .i64 n, .int .i64 z] w fun e w' => e = .returned (.tuple #[.int .u64 (ofBR n z).1, .int .i64 (ofBR n z).2]) ∧ w = w' := by
 by_cases h : n < 1 ∨ 64 < n
 ·rw [show ofBR n z = (0, 14) by unfold ofBR; rw [if_pos h]]
  have H := Lib.hid h
  clear h
  go_enter Tryz.func88, Tryz.ntmps88
  go_wp2_with (go_at_call 113; refine (znq _ _ _ _ H.out).mono ?_; rintro e w' ⟨rfl, rfl⟩)
  go_ret2
  exact ⟨rfl, rfl⟩
 ·obtain ⟨m, rfl⟩ : ∃ m : Nat, n = m := ⟨n.toNat, by omega⟩
  have h0 : 1 ≤ m := by omega
  have h1 : m ≤ 64 := by omega
  have hm := ziw m z h1
  have hx : (z % 2 ^ m).toNat < 2 ^ m := by
   have e : ((2 : Int) ^ m) = ((2 ^ m : Nat) : Int) := by simp
   have hp := z8u m
   rw [e]
   have h2 := Int.emod_nonneg z (show ((2 ^ m : Nat) : Int) ≠ 0 by omega)
   have h3 := Int.emod_lt_of_pos z (show (0 : Int) < ((2 ^ m : Nat) : Int) by omega)
   omega
  have HS := fun W => Lib.hid (zmy m (z % 2 ^ m).toNat W h0 h1 hx)
  have E : ofBR m z = if sg m (z % 2 ^ m).toNat = z then ((z % 2 ^ m).toNat, 0) else (0, 24) := by unfold ofBR; rw [if_neg h, Int.toNat_natCast]
  rw [E]
  have HE := Lib.hid E
  clear hx E h
  generalize hr : (z % 2 ^ m).toNat = r at *
  clear hr
  by_cases hz : sg m r = z
  ·rw [if_pos hz]
   have d : (sg m r == z) = true := by simp [hz]
   have HZ := Lib.hid hz
   clear hz
   go_enter Tryz.func88, Tryz.ntmps88
   go_wp2_with (first
    | (go_at_call 113; refine (check0 m _ h0 h1).mono ?_; rintro e w' ⟨rfl, rfl⟩)
    | (go_at_call 32; refine (z33 m _ h0 h1).mono ?_; rintro e w' ⟨rfl, rfl⟩)
    | (go_at_call 114; refine (HS _).out.mono ?_; rintro e w' ⟨rfl, rfl⟩))
   go_ret2
   exact ⟨rfl, rfl⟩
  ·rw [if_neg hz]
   have d : (sg m r == z) = false := by simp [hz]
   have HZ := Lib.hid hz
   clear hz
   go_enter Tryz.func88, Tryz.ntmps88
   go_wp2_with (first
    | (go_at_call 113; refine (check0 m _ h0 h1).mono ?_; rintro e w' ⟨rfl, rfl⟩)
    | (go_at_call 32; refine (z33 m _ h0 h1).mono ?_; rintro e w' ⟨rfl, rfl⟩)
    | (go_at_call 114; refine (HS _).out.mono ?_; rintro e w' ⟨rfl, rfl⟩))
   go_ret2
   exact ⟨rfl, rfl⟩
theorem zui (m : Nat) (z : Int) (h1 : 1 ≤ m) (h2 : m ≤ 32) : sg m (z % 2 ^ m).toNat = z ↔ lowN true m ≤ z ∧ z ≤ z7r true m := by
 constructor
 ·intro h
  have hlt : (z % 2 ^ m).toNat < 2 ^ m := by
   have e : ((2 : Int) ^ m) = ((2 ^ m : Nat) : Int) := by simp
   have hp := Nat.two_pow_pos m
   rw [e]
   have h2 := Int.emod_nonneg z (show ((2 ^ m : Nat) : Int) ≠ 0 by omega)
   have h3 := Int.emod_lt_of_pos z (show (0 : Int) < ((2 ^ m : Nat) : Int) by omega)
   omega
  obtain ⟨a, b, _⟩ := zs6 true m _ h1 h2 hlt
  simp only [if_true] at a b
  rw [h] at a b
  exact ⟨a, b⟩
 ·rintro ⟨a, b⟩
  have := (ztm true m z h1 h2 a b).2
  simpa using this
set_option warningAsError false in
set_option maxHeartbeats 2000000 in
theorem zbp (W : World) (x : MOper) (cs : List Value) (hE : z1c W cs x) (hc : chkK x.kind (fwR 0 x.pieces) x.scale = 0) (h4 : x.pieces.length ≤ 1000) (n : Int) (hn : -9223372036854775808 ≤ n ∧ n ≤ 9223372036854775807) :
 Calls Tryz.prog 54 #[.agg cs.toArray, .int .i64 n] W fun e w' => e = .returned (.bool (decide ((z5t x.kind (fwR 0 x.pieces) x.scale n).2 = 0))) ∧ Below W.heap.size W w' := by
 obtain ⟨⟨a1, a2⟩, a3, a4, hkd⟩ := zut hc
 have hr : decide ((z5t x.kind (fwR 0 x.pieces) x.scale n).2 = 0) = numB (sgK x.kind) (fwR 0 x.pieces).toNat x.scale.toNat n := by
  rw [Bool.eq_iff_iff, decide_eq_true_eq, zhe]
  exact ⟨fun h => h.2, fun h => ⟨hc, h⟩⟩
 rw [hr]
 clear hr hc
 have hF := fun X (hX : Below W.heap.size W X) => z5u X x cs (z1c.kept hE hX) h4
 obtain ⟨m, hm⟩ : ∃ m : Nat, fwR 0 x.pieces = m := ⟨(fwR 0 x.pieces).toNat, by omega⟩
 obtain ⟨s, hs⟩ : ∃ s : Nat, x.scale = s := ⟨x.scale.toNat, by omega⟩
 obtain ⟨k, hk⟩ : ∃ k : Nat, x.kind = k := ⟨_, rfl⟩
 obtain ⟨sv, rfl, _⟩ := hE
 rw [hs, hk] at hF
 rw [hm] at hF
 rw [hm, hs, hk, Int.toNat_natCast, Int.toNat_natCast]
 rw [hm] at a1 a2
 rw [hs] at a3 a4
 rw [hk] at hkd
 have h1 : 1 ≤ m := by omega
 have h2 : m ≤ 32 := by omega
 have h3 : s ≤ 3 := by omega
 obtain ⟨nm, hnm⟩ : ∃ z, x.name = z := ⟨_, rfl⟩
 obtain ⟨bk, hbk⟩ : ∃ z, x.bank = z := ⟨_, rfl⟩
 obtain ⟨td, htd⟩ : ∃ z, x.tied = z := ⟨_, rfl⟩
 rw [hnm, hbk, htd] at hF ⊢
 have HF := Lib.hid hF
 have HB := Lib.hid ((Below.refl W.heap.size W).alloc (Nat.le_refl _) (.cells #[.string nm, .int .u8 (k : Nat), .int .i64 bk, .int .i64 (s : Nat), sv, .int .i64 td] 60))
 have hk1 := zky s n h3 hn.1 hn.2
 have hr : numB (sgK k) m s n = (decide (n / 2 ^ s * 2 ^ s = n) && decide (lowN (sgK k) m ≤ n / 2 ^ s ∧ n / 2 ^ s ≤ z7r (sgK k) m)) := rfl
 rw [hr]
 have hq : (wrap64 (n / 2 ^ s * 2 ^ s) != n) = !(decide (n / 2 ^ s * 2 ^ s = n)) := by
  rw [hk1]
  by_cases e : n / 2 ^ s * 2 ^ s = n <;> simp [e]
 have hylo : -9223372036854775808 ≤ n / 2 ^ s ∧ n / 2 ^ s ≤ 9223372036854775807 := by
  rcases pow3 s h3 with h | h | h | h <;> rw [h] <;> omega
 obtain ⟨y, hy⟩ : ∃ y, n / 2 ^ s = y := ⟨_, rfl⟩
 have HY := Lib.hid hy
 obtain ⟨q, hqq⟩ : ∃ q, decide (n / 2 ^ s * 2 ^ s = n) = q := ⟨_, rfl⟩
 rw [hqq] at hq ⊢
 rw [hy] at hylo ⊢
 have HQ := Lib.hid hq
 clear hF hm hs hk hnm hbk htd a1 a2 a3 a4 h4 hk1 hr hn hqq hq hy
 cases q with
 | false =>
   have hq := HQ.out
   clear hkd hylo HF
   go_enter Tryz.func54, Tryz.ntmps54
   go_wp2
   go_ret
   exact ⟨rfl, HB.out⟩
 | true =>
   rw [Bool.true_and]
   by_cases hk3 : k = 3
   ·subst hk3
    rw [show sgK ((3 : Nat) : Int) = false from rfl]
    rw [show (((3 : Nat)) : Int) = 3 from rfl] at HF HB ⊢
    have hq := HQ.out
    by_cases hy0 : y ≥ 0
    ·obtain ⟨z, rfl⟩ : ∃ z : Nat, y = z := ⟨y.toNat, by omega⟩
     have hw : IntKind.u64.wrap ((z : Nat) : Int) = z := by rw [IntKind.wrap_u64]; omega
     have hres : decide (lowN false m ≤ (z : Int) ∧ (z : Int) ≤ z7r false m) = okB m z := by
      rw [Bool.eq_iff_iff, decide_eq_true_eq, z2y]
      have := z90 m
      unfold lowN z7r
      simp only [Bool.false_eq_true, if_false]
      omega
     rw [hres]
     have HO := Lib.hid (fun X => zau m z X h1 (by omega))
     have HW := Lib.hid hw
     have g : decide (n / 2 ^ s ≥ 0) = true := by rw [HY.out]; simp
     have HYW := Lib.hid (show IntKind.u64.wrap (n / 2 ^ s) = z by rw [HY.out]; exact hw)
     have HO2 := Lib.hid (show ∀ X, Calls Tryz.prog 30 #[.int .i64 (m : Nat), .int .u64 (IntKind.u64.wrap (n / 2 ^ s))] X fun e w' => e = .returned (.bool (okB m z)) ∧ X = w' from fun X => by rw [HYW.out]; exact HO.out X)
     clear hylo hkd hw hres hy0 HO
     go_enter Tryz.func54, Tryz.ntmps54
     go_wp2_with (first
      | (go_at_call 87; (with_reducible refine (HF.out _ HB.out).mono ?_); rintro e w3 ⟨rfl, hb3⟩)
      | (go_at_call 30; (with_reducible refine (HO2.out _).mono ?_); rintro e w4 ⟨rfl, rfl⟩))
     go_ret
     exact ⟨rfl, HB.out.trans (hb3.mono HB.out.size)⟩
    ·have g : decide (n / 2 ^ s ≥ 0) = false := by rw [HY.out]; simpa using hy0
     have hres : decide (lowN false m ≤ y ∧ y ≤ z7r false m) = false := by
      unfold lowN
      simp only [Bool.false_eq_true, if_false]
      simp; omega
     rw [hres]
     clear hylo hkd hres hy0 HF
     go_enter Tryz.func54, Tryz.ntmps54
     go_wp2
     go_ret
     exact ⟨rfl, HB.out⟩
   ·have hsg : sgK (k : Nat) = true := by
     rcases hkd with h | h
     ·exact h
     ·exact absurd (by omega) hk3
    rw [hsg]
    have hq := HQ.out
    have g3 : (((k : Nat) : Int) == 3) = false := by simp; omega
    obtain ⟨r, hrr⟩ : ∃ r, decide (lowN true m ≤ y ∧ y ≤ z7r true m) = r := ⟨_, rfl⟩
    have hof : (ofBR m y).2 = if r = true then 0 else 24 := by
     unfold ofBR
     rw [if_neg (by omega), Int.toNat_natCast]
     cases r with
     | true => rw [if_pos ((zui m y h1 h2).2 (by simpa using hrr))]; rfl
     | false => rw [if_neg (fun h => by have := (zui m y h1 h2).1 h; simp at hrr; omega)]; rfl
    rw [hrr]
    obtain ⟨u, hu⟩ : ∃ u, (ofBR m y).1 = u := ⟨_, rfl⟩
    have HO := Lib.hid (show ∀ X, Calls Tryz.prog 88 #[.int .i64 (m : Nat), .int .i64 (n / 2 ^ s)] X fun e w' => e = .returned (.tuple #[.int .u64 (u : Nat), .int .i64 (if r = true then 0 else 24)]) ∧ X = w' from fun X => by
     rw [HY.out, ← hu, ← hof]; exact zx5 m y X)
    clear hylo hkd hof hu hrr hsg hk3
    cases r
    all_goals
     simp only [if_true, Bool.false_eq_true, if_false] at HO
     go_enter Tryz.func54, Tryz.ntmps54
     go_wp2_with (first
      | (go_at_call 87; (with_reducible refine (HF.out _ HB.out).mono ?_); rintro e w3 ⟨rfl, hb3⟩)
      | (go_at_call 88; (with_reducible refine (HO.out _).mono ?_); rintro e w4 ⟨rfl, rfl⟩))
     go_ret
     exact ⟨rfl, HB.out.trans (hb3.mono HB.out.size)⟩
def numR (m : Mach) (o : MOper) (n : Int) (pc : Nat) : Nat := ((if o.kind = 4 then (pc : Int) + m.word * (n + 1) else n) % 2 ^ m.address.toNat).toNat
theorem zt0 (word n : Int) (pc : Nat) : IntKind.u64.wrap ((pc : Int) + IntKind.u64.wrap (IntKind.u64.wrap word * IntKind.u64.wrap (IntKind.u64.wrap n + 1))) = IntKind.u64.wrap ((pc : Int) + word * (n + 1)) := by
 simp only [IntKind.wrap_u64]
 rw [Int.emod_add_emod n 18446744073709551616 1, ← Int.mul_emod, Int.add_emod_emod]
set_option warningAsError false in
set_option maxHeartbeats 2000000 in
theorem ziv (w : World) (v : Value) (m : Mach) (hm : zu w v m) (had : m.address = 16 ∨ m.address = 32) (o : MOper) (cs : List Value) (hE : z1c w cs o) (n : Int) (pc : Nat) :
 Calls Tryz.prog 33 #[v, .agg cs.toArray, .int .i64 n, .int .u64 (pc : Nat)] w fun e w' => e = .returned (.int .u64 (numR m o n pc : Nat)) ∧ Below w.heap.size w w' := by
 obtain ⟨cs0, rfl, sr, sb, su, si, hcs, h1, h2, h3, hR, hB, hU, hI⟩ := hm
 obtain rfl : cs0 = #[.string m.name, .int .i64 m.word, .int .i64 m.address, sr, sb, su, si] := by cases cs0; simp_all
 obtain ⟨sv, rfl, _⟩ := hE
 obtain ⟨A, hA, hA1, hA2⟩ : ∃ A : Nat, m.address = A ∧ 1 ≤ A ∧ A ≤ 64 := ⟨m.address.toNat, by omega, by omega, by omega⟩
 have HM := Lib.hid (fun X => z33 A X hA1 hA2)
 obtain ⟨kd, hkd⟩ : ∃ z : Nat, o.kind = z := ⟨_, rfl⟩
 obtain ⟨wd, hwd⟩ : ∃ z, m.word = z := ⟨_, rfl⟩
 have HB := Lib.hid (show ∀ a b, Below w.heap.size w ((w.alloc (.cells a 27)).alloc (.cells b 60)) from fun a b => ((Below.refl _ _).alloc (Nat.le_refl _) _).alloc (by simp) _)
 by_cases hk : kd = 4
 ·have hn : numR m o n pc = (((pc : Int) + wd * (n + 1)) % 2 ^ A).toNat := by unfold numR; rw [hkd, if_pos hk, hA, hwd]; simp
  have hv := ziw A ((pc : Int) + wd * (n + 1)) hA2
  rw [← zt0] at hv
  rw [hn, hA, hwd, hkd, hk]
  have HV := Lib.hid hv
  clear hcs h1 h2 h3 hR hB hU hI hn hv hA hwd hkd hk had
  go_enter Tryz.func33, Tryz.ntmps33
  go_wp2_with (go_at_call 32; (with_reducible refine (HM.out _).mono ?_); rintro e w' ⟨rfl, rfl⟩)
  exact bodyPost_ret (v := .int .u64 (bits .and .u64 (IntKind.u64.wrap ((pc : Int) + IntKind.u64.wrap (IntKind.u64.wrap wd * IntKind.u64.wrap (IntKind.u64.wrap n + 1)))) ((mk A : Nat) : Int))) (by simp [results, Tryz.results33, go_sem]) rfl ⟨by rw [HV.out], HB.out _ _⟩
 ·have hn : numR m o n pc = (n % 2 ^ A).toNat := by unfold numR; rw [hkd, if_neg hk, hA]; simp
  have hv := ziw A n hA2
  rw [hn, hA, hwd, hkd]
  have HV := Lib.hid hv
  have g : (((kd : Nat) : Int) == 4) = false := by simp; omega
  clear hcs h1 h2 h3 hR hB hU hI hn hv hA hwd hkd hk had
  go_enter Tryz.func33, Tryz.ntmps33
  go_wp2_with (go_at_call 32; (with_reducible refine (HM.out _).mono ?_); rintro e w' ⟨rfl, rfl⟩)
  exact bodyPost_ret (v := .int .u64 (bits .and .u64 (IntKind.u64.wrap n) ((mk A : Nat) : Int))) (by simp [results, Tryz.results33, go_sem]) rfl ⟨by rw [HV.out], HB.out _ _⟩
end Go.Proofs.YtjjfeddenhemhaaGreatDoor
namespace Go.Proofs.YtjjfeddenhemhaaGreatDoor
open Go.RowKit Go.Shelf Go.Deep Go.Instr Go.Sort
set_option linter.unusedVariables false
set_option linter.unusedSimpArgs false
attribute [local go_sem] Oper.semAt_some
end Go.Proofs.YtjjfeddenhemhaaGreatDoor
namespace Go.Proofs.YtjjfeddenhemhaaGreatDoor
open Go.RowKit
set_option linter.unusedVariables false
set_option linter.unusedSimpArgs false
set_option maxRecDepth 100000
def zck (m : Mach) (o : MOper) : List Int := match m.banks[o.bank.toNat]? with | some b => b.regs | none => []
def argR (m : Mach) (o : MOper) (av : List Int) (n : Int) : Int :=
 if o.kind = 1 then (if n ∈ zck m o then (if o.tied = -1 then 0 else if n = (av[o.tied.toNat]?).getD 0 then 0 else 40) else 16)
 else if (z5t o.kind (fwR 0 o.pieces) o.scale n).2 = 0 then 0 else 24
def z3o (m : Mach) (av : List Int) : List MOper → List Int → Int
 | o :: l, n :: ns => if argR m o av n = 0 then z3o m av l ns else argR m o av n
 | _, _ => 0
noncomputable def z6i (m : Mach) (z : Int) (av : List Int) : Int :=
 if chkR m = 0 then (match (if 0 ≤ z then m.instrs[z.toNat]? else none) with | some i => if av.length = i.opers.length then z3o m av i.opers av else 2 | none => 6) else chkR m
theorem zvb : ∀ (L : List MPiece) (a : Int), (∀ p ∈ L, 1 ≤ p.len ∧ p.len ≤ 64) → 0 ≤ a → a + 64 * L.length ≤ 1000000 → fwR a L = a + z2z L := by
 intro L
 induction L with
 | nil => intro a _ _ _; simp [fwR, z2z]
 | cons p l ih =>
   intro a h h0 h1
   have hp := h p (List.mem_cons_self ..)
   rw [List.length_cons] at h1
   rw [fwR, zg _ (by omega) (by omega), ih _ (fun q hq => h q (List.mem_cons_of_mem _ hq)) (by omega) (by omega), z2z]
   unfold MPiece.l
   omega
theorem z3g.len {size : Int} {L : List MPiece} {t : Nat} (h : z3g size t L) (hs : size ≤ 64) : ∀ p ∈ L, 1 ≤ p.len ∧ p.len ≤ 64 := fun p hp => by
 have := zc0.1 (h.mem p hp).1
 exact ⟨this.1, by omega⟩
theorem zta {word address : Int} {B : List MBank} : ∀ (l others : List MOper) (t : Nat), z1u word address B others t l = true → ∀ (k : Nat) (o : MOper), l[k]? = some o → z4o address B (others ++ l.take k) o = true := by
 intro l
 induction l with
 | nil => intro others t _ k o h; simp at h
 | cons p l ih =>
   intro others t h k o hk
   simp only [z1u, Bool.and_eq_true] at h
   cases k with
   | zero =>
     simp only [List.getElem?_cons_zero, Option.some.injEq] at hk
     subst hk
     simpa using h.1.2
   | succ k =>
     have := ih _ _ h.2.2 k o (by simpa using hk)
     simpa using this
structure OperGood (m : Mach) (i : MIns) (k : Nat) (o : MOper) : Prop where
 pieces : z58 (8 * m.word) o.pieces
 fw : fwR 0 o.pieces = z2z o.pieces
 kinds : o.kind = 1 ∨ o.kind = 2 ∨ o.kind = 3 ∨ o.kind = 4
 bank : o.kind = 1 → ∃ b : Nat, o.bank = b ∧ ∃ q, m.banks[b]? = some q ∧ zck m o = q.regs ∧ q.regs.length ≤ 64
 free : o.kind = 1 → o.tied = -1 → (zck m o).length ≤ 2 ^ z2z o.pieces
 tied : o.kind = 1 → o.tied ≠ -1 → o.pieces = [] ∧ ∃ (t : Nat) (q : MOper), o.tied = t ∧ t < k ∧ i.opers[t]? = some q ∧ q.kind = 1 ∧ q.bank = o.bank ∧ q.tied = -1
 num : o.kind ≠ 1 → chkK o.kind (fwR 0 o.pieces) o.scale = 0
theorem zvg {m : Mach} (h : chkR m = 0) {i : MIns} (hi : i ∈ m.instrs) : z1u m.word m.address m.banks [] i.mask i.opers = true := by
 obtain ⟨_, _, _, _, _, hin⟩ := z2t h
 unfold z3q at hin
 simp only [Bool.and_eq_true, List.all_eq_true] at hin
 have h9 := hin.2 i hi
 unfold insR at h9
 simp only [Bool.and_eq_true] at h9
 have hb := h9.1.2
 unfold z5w at hb
 simp only [Bool.and_eq_true] at hb
 exact hb.2
theorem zq8 {m : Mach} (h : chkR m = 0) {i : MIns} (hi : i ∈ m.instrs) {k : Nat} {o : MOper} (ho : i.opers[k]? = some o) : OperGood m i k o := by
 obtain ⟨hw, _, _, _, hlays, hpcs, _⟩ := zbn h hi
 have hmem := List.mem_of_getElem? ho
 have hp := hpcs o hmem
 have hlen := hp.2.2.len (by omega)
 have hfw : fwR 0 o.pieces = z2z o.pieces := by
  rw [zvb o.pieces 0 hlen (by omega) (by have := hp.2.1; omega)]; omega
 have hok := zta _ _ _ (zvg h hi) k o ho
 rw [List.nil_append] at hok
 have hbl : ∀ b ∈ m.banks, b.regs.length ≤ 64 := (z5j (z2t h).1).2.2.2.1
 unfold z4o at hok
 by_cases hk : o.kind = 1
 ·rw [if_pos hk] at hok
  by_cases hb0 : 0 ≤ o.bank
  ·rw [if_pos hb0] at hok
   cases hq : m.banks[o.bank.toNat]? with
   | none => rw [hq] at hok; cases hok
   | some q =>
     rw [hq] at hok
     simp only at hok
     have hbr : zck m o = q.regs := by unfold zck; rw [hq]
     by_cases hs : o.scale ≠ 0
     ·rw [if_pos hs] at hok; cases hok
     ·rw [if_neg hs] at hok
      refine ⟨hp, hfw, .inl hk, fun _ => ⟨o.bank.toNat, by omega, q, hq, hbr, hbl q (List.mem_of_getElem? hq)⟩, fun _ ht => ?_, fun _ ht => ?_, fun hn => absurd hk hn⟩
      ·rw [if_pos ht] at hok
       simp only [Bool.and_eq_true] at hok
       have h2 := hok.2
       unfold z68 at h2
       simp only [Bool.and_eq_true, decide_eq_true_eq] at h2
       have h3 := (z2y _ _).1 h2.2
       rw [hfw, Int.toNat_natCast] at h3
       rw [hbr]
       have := Nat.two_pow_pos (z2z o.pieces)
       omega
      ·rw [if_neg ht] at hok
       simp only [Bool.and_eq_true, decide_eq_true_eq] at hok
       refine ⟨List.eq_nil_of_length_eq_zero hok.1, ?_⟩
       have h2 := hok.2
       unfold z7c at h2
       by_cases ht0 : 0 ≤ o.tied
       ·rw [if_pos ht0] at h2
        cases hy : (i.opers.take k)[o.tied.toNat]? with
        | none => rw [hy] at h2; cases h2
        | some y =>
          rw [hy] at h2
          simp only [Bool.and_eq_true, decide_eq_true_eq] at h2
          rw [List.getElem?_take] at hy
          split at hy
          ·exact ⟨o.tied.toNat, y, by omega, by assumption, hy, by omega, h2.2.1, h2.2.2⟩
          ·cases hy
       ·rw [if_neg ht0] at h2; cases h2
  ·rw [if_neg hb0] at hok; cases hok
 ·rw [if_neg hk] at hok
  by_cases hk2 : o.kind = 2 ∨ o.kind = 3 ∨ o.kind = 4
  ·rw [if_pos hk2] at hok
   simp only [Bool.and_eq_true, decide_eq_true_eq] at hok
   obtain ⟨_, _, h3, h4, h5⟩ := hok
   refine ⟨hp, hfw, .inr hk2, fun q => absurd q hk, fun q => absurd q hk, fun q => absurd q hk, fun _ => ?_⟩
   have hpos : 1 ≤ z2z o.pieces := by
    match hq : o.pieces, h4 with
    | p :: l, _ =>
      have := hlen p (by rw [hq]; exact List.mem_cons_self ..)
      rw [z2z]; unfold MPiece.l; omega
   have hle := hp.width
   unfold chkK zvn inB
   rw [hfw]
   have hkk : (sgK (o.kind : Nat) || ((o.kind : Nat) : Int) == 3) = true := by
    rcases hk2 with h | h | h <;> rw [h] <;> rfl
   rw [hkk]
   have e1 : decide ((1 : Int) ≤ ((z2z o.pieces : Nat) : Int) ∧ ((z2z o.pieces : Nat) : Int) ≤ 32) = true := by simp; omega
   have e2 : decide ((0 : Int) ≤ o.scale ∧ o.scale ≤ 3) = true := by simp; omega
   simp [e1, e2, hpos, hle, h3]
  ·rw [if_neg hk2] at hok; cases hok
theorem zvi {L : List Int} {n : Int} (h : n ∈ L) : ∃ k : Nat, ixF (fun y => decide (y = n)) L = k ∧ L[k]? = some n := by
 unfold ixF
 cases hf : L.findIdx? (fun y => decide (y = n)) with
 | none =>
   rw [List.findIdx?_eq_none_iff] at hf
   have := hf n h
   simp at this
 | some k =>
   obtain ⟨hlt, hk, _⟩ := List.findIdx?_eq_some_iff_getElem.1 hf
   exact ⟨k, rfl, by rw [List.getElem?_eq_getElem hlt]; simpa using hk⟩
section
variable {m : Mach} {i : MIns}
def Fits (m : Mach) (i : MIns) (av : List Int) : Prop := av.length = i.opers.length ∧ ∀ (k : Nat) o n, i.opers[k]? = some o → av[k]? = some n → argR m o av n = 0
end
end Go.Proofs.YtjjfeddenhemhaaGreatDoor
namespace Go.Proofs.YtjjfeddenhemhaaGreatDoor
open Go.RowKit Go.Instr Go.Sort
set_option linter.unusedVariables false
set_option linter.unusedSimpArgs false
set_option maxRecDepth 100000
theorem zso {L : List Int} {n : Int} (h : ¬ n ∈ L) : ixF (fun y => decide (y = n)) L = -1 := by
 unfold ixF
 have : L.findIdx? (fun y => decide (y = n)) = none := by
  rw [List.findIdx?_eq_none_iff]
  intro x hx
  simp only [decide_eq_false_iff_not]
  rintro rfl
  exact h hx
 rw [this]
theorem zcv (v : Value) (L : List Int) (w : World) (hR : zd 1 intE w v L) (z : Int) :
 Calls Tryz.prog 55 #[v, .int .i64 z] w fun e w' => e = .returned (.bool (decide (z ∈ L))) ∧ Below w.heap.size w w' := by
 have HX := Lib.hid (zfa v L w hR z)
 by_cases h : z ∈ L
 ·obtain ⟨k, hk, _⟩ := zvi h
  rw [hk] at HX
  rw [decide_eq_true h]
  clear h hk
  go_enter Tryz.func55, Tryz.ntmps55
  go_wp2_with (go_at_call 48; (with_reducible refine HX.out.mono ?_); rintro e w3 ⟨rfl, hb3⟩)
  go_ret
  exact ⟨by simp, hb3⟩
 ·rw [zso h] at HX
  rw [decide_eq_false h]
  clear h
  go_enter Tryz.func55, Tryz.ntmps55
  go_wp2_with (go_at_call 48; (with_reducible refine HX.out.mono ?_); rintro e w3 ⟨rfl, hb3⟩)
  go_ret
  exact ⟨rfl, hb3⟩
set_option warningAsError false in
set_option maxHeartbeats 4000000 in
theorem zcq (w : World) (v : Value) (m : Mach) (hm : zu w v m) (i : MIns) (k : Nat) (o : MOper) (hG : OperGood m i k o) (cs : List Value) (hE : z1c w cs o) (sa : Value) (av : List Int) (hA : zd 1 intE w sa av) (hk : k < av.length) :
 Calls Tryz.prog 35 #[v, .agg cs.toArray, sa, .int .i64 k] w fun e w' => e = .returned (.int .i64 (argR m o av ((av[k]?).getD 0))) ∧ Below w.heap.size w w' := by
 obtain ⟨cs0, rfl, sr, sb, su, si, hcs, h1, h2, h3, hR, hB, hU, hI⟩ := hm
 obtain rfl : cs0 = #[.string m.name, .int .i64 m.word, .int .i64 m.address, sr, sb, su, si] := by cases cs0; simp_all
 have hE' := hE
 obtain ⟨sv, rfl, _⟩ := hE
 obtain ⟨W2, hW2⟩ : ∃ W2, W2 = (w.alloc (.cells #[.string m.name, .int .i64 m.word, .int .i64 m.address, sr, sb, su, si] 27)).alloc (.cells #[.string o.name, .int .u8 o.kind, .int .i64 o.bank, .int .i64 o.scale, sv, .int .i64 o.tied] 60) := ⟨_, rfl⟩
 have HW2 := Lib.hid hW2
 have hb1 : Below w.heap.size w (w.alloc (.cells #[.string m.name, .int .i64 m.word, .int .i64 m.address, sr, sb, su, si] 27)) := (Below.refl _ _).alloc (Nat.le_refl _) _
 have hb2 : Below w.heap.size w W2 := by rw [hW2]; exact hb1.alloc (by simp) _
 have hs2 : W2.heap.size = w.heap.size + 2 := by rw [hW2]; simp
 have hm2 : W2.heap[w.heap.size]? = some (.cells #[.string m.name, .int .i64 m.word, .int .i64 m.address, sr, sb, su, si] 27) := by
  rw [hW2]
  exact (((Below.refl _ _).alloc (Nat.le_refl _) _).block _ (by simp)).trans (heap_alloc_new _ _)
 have ho2 : W2.heap[w.heap.size + 1]? = some (.cells #[.string o.name, .int .u8 o.kind, .int .i64 o.bank, .int .i64 o.scale, sv, .int .i64 o.tied] 60) := by
  rw [hW2]
  have := heap_alloc_new (w.alloc (.cells #[.string m.name, .int .i64 m.word, .int .i64 m.address, sr, sb, su, si] 27)) (.cells #[.string o.name, .int .u8 o.kind, .int .i64 o.bank, .int .i64 o.scale, sv, .int .i64 o.tied] 60)
  simpa using this
 have HB := Lib.hid (zf hb2 hb2.size)
 have HB2 := Lib.hid hb2
 obtain ⟨n, hn⟩ : ∃ n, av[k]? = some n := ⟨_, List.getElem?_eq_getElem hk⟩
 rw [hn, Option.getD_some]
 have hA' := hA
 obtain ⟨Aa, ca, rfl, _, _, _, hallA⟩ := hA
 obtain ⟨ba, oa, csa, rfl, hba, _, hcellA, hEa⟩ := hallA k n hn
 obtain ⟨rfl, hnb⟩ := hEa
 have hca : ∀ (t : Nat) (y : Int), av[t]? = some y → W2.cell? ⟨ba, oa + t, none⟩ = some (.int .i64 y) := fun t y hy => by
  obtain ⟨b', o', cs', e1, hb', _, hc', hE''⟩ := hallA t y hy
  obtain ⟨rfl, rfl⟩ : ba = b' ∧ oa = o' := by cases e1; exact ⟨rfl, rfl⟩
  obtain ⟨rfl, _⟩ := hE''
  exact (hb2.cell hb').trans (by simpa using hc' 0 _ rfl)
 have a0 := hca k n hn
 have f0 := zb (i := 0) ho2 rfl
 have f1 := zb (i := 1) ho2 rfl
 have f2 := zb (i := 2) ho2 rfl
 have f3 := zb (i := 3) ho2 rfl
 have f4 := zb (i := 4) ho2 rfl
 have f5 := zb (i := 5) ho2 rfl
 have m4 := zb (i := 4) hm2 rfl
 have hkn : (k : Int) < (av.length : Int) := by omega
 have hk0 : (0 : Int) ≤ (k : Int) := by omega
 by_cases hk1 : o.kind = 1
 ·obtain ⟨bk, hbk, q, hq, hbr, _⟩ := hG.bank hk1
  have hB' := hB
  obtain ⟨Ab, cb, rfl, _, _, _, hallB⟩ := hB
  obtain ⟨bb, ob, csb, rfl, hbb, _, hcellB, hEb⟩ := hallB bk q hq
  obtain ⟨sq, rfl, _, hRq⟩ := hEb
  have b0 : W2.cell? ⟨bb, ob + bk * 2 + 1, none⟩ = some sq := (hb2.cell hbb).trans (hcellB 1 _ rfl)
  have hbn : (bk : Int) < (m.banks.length : Int) := by have := (List.getElem?_eq_some_iff.1 hq).1; omega
  have hb0 : (0 : Int) ≤ (bk : Int) := by omega
  have rC := Lib.hid (fun d os => Calls.regrown_of (w := W2) (d := d) (os := os) (zcv sq q.regs (grow (redrawn W2 d) os) (hRq.kept (fun cs x hx => intE.kept hx (HB.out d os)) (HB.out d os)) n))
  have hres : argR m o av n = if n ∈ q.regs then (if o.tied = -1 then 0 else if n = (av[o.tied.toNat]?).getD 0 then 0 else 40) else 16 := by
   unfold argR; rw [if_pos hk1, hbr]
  rw [hres]
  obtain ⟨c, hc⟩ : ∃ c, decide (n ∈ q.regs) = c := ⟨_, rfl⟩
  rw [hc] at rC
  obtain ⟨lb, hlb⟩ : ∃ z, m.banks.length = z := ⟨_, rfl⟩
  obtain ⟨la, hla⟩ : ∃ z, av.length = z := ⟨_, rfl⟩
  obtain ⟨td, htd⟩ : ∃ z, o.tied = z := ⟨_, rfl⟩
  have htied := hG.tied hk1
  rw [htd] at htied f5 HW2 ⊢
  rw [hla] at hkn ⊢
  rw [hlb] at hbn m4 HW2 ⊢
  rw [hbk] at f2 HW2 ⊢
  rw [hk1, show (((1 : Nat)) : Int) = 1 from rfl] at f1 HW2 ⊢
  obtain ⟨nm, hnm⟩ : ∃ z, o.name = z := ⟨_, rfl⟩
  obtain ⟨sc, hsc⟩ : ∃ z, o.scale = z := ⟨_, rfl⟩
  rw [hnm] at f0 HW2 ⊢
  rw [hsc] at f3 HW2 ⊢
  have K1 := fun d os => cell_regrown a0 d os
  have K2 := fun d os => cell_regrown f2 d os
  have K3 := fun d os => cell_regrown m4 d os
  have K4 := fun d os => cell_regrown b0 d os
  have HF5 := Lib.hid (fun d os => cell_regrown f5 d os)
  have HA0 := Lib.hid (fun d os => cell_regrown a0 d os)
  have HKN := Lib.hid hkn
  have hcT : td ≠ -1 → ∃ (t : Nat) (y : Int), td = t ∧ t < la ∧ av[t]? = some y := fun h => by
   obtain ⟨_, t, qq, e1, e2, e3, _⟩ := htied h
   refine ⟨t, _, e1, by omega, List.getElem?_eq_getElem (by omega)⟩
  have HCA := Lib.hid hca
  have HCT := Lib.hid hcT
  have HLA := Lib.hid hla
  clear hallA hcellA hallB hcellB hRq hB' hR hU hI hcs hE' hA' hG htied hres hbr hq hn hk hbk hlb htd hnm hsc hk1 h1 h2 h3 hb1 hm2 ho2 hca hcT hla hb2 hs2 hba hbb hW2
  cases c with
  | false =>
    rw [if_neg (by simpa using hc)]
    clear hc
    go_enter Tryz.func35, Tryz.ntmps35
    go_wp2_with fail
    rw [← HW2.out]
    refine wp_region_quiet_below (by kernel_rfl) (by kernel_rfl) ?_
    repeat (first | go_big_quiet_step ((with_reducible exact rC.out _ _)) | quiet_step ((with_reducible exact rC.out _ _)))
    refine wpQuiet_nil ?_
    intro G hG
    have hbG : Below w.heap.size w G := by obtain ⟨p, rfl⟩ := hG; exact HB.out _ _
    clear hG
    go_wp2
    go_ret
    exact ⟨rfl, hbG⟩
  | true =>
    rw [if_pos (by simpa using hc)]
    clear hc
    by_cases ht : td = -1
    ·subst ht
     rw [if_pos rfl]
     go_enter Tryz.func35, Tryz.ntmps35
     go_wp2_with fail
     rw [← HW2.out]
     refine wp_region_quiet_below (by kernel_rfl) (by kernel_rfl) ?_
     repeat (first | go_big_quiet_step ((with_reducible exact rC.out _ _)) | quiet_step ((with_reducible exact rC.out _ _)))
     refine wpQuiet_nil ?_
     intro G hG
     have hbG : Below w.heap.size w G := by obtain ⟨p, rfl⟩ := hG; exact HB.out _ _
     have g5 : G.cell? ⟨w.heap.size + 1, 5, none⟩ = some (.int .i64 (-1)) := by obtain ⟨p, rfl⟩ := hG; exact HF5.out _ _
     have HBG := Lib.hid hbG
     clear hG K1 K2 K3 K4 hbG
     go_wp2_with fail
     go_quiet (fail)
     go_wp2
     go_ret
     exact ⟨rfl, HBG.out.trans (zjp _ _ _)⟩
    ·rw [if_neg ht]
     obtain ⟨t, y, rfl, htl, hy⟩ := HCT.out ht
     rw [Int.toNat_natCast, hy, Option.getD_some]
     have HCY := Lib.hid (fun d os => cell_regrown (HCA.out t y hy) d os)
     have gt : (((t : Nat) : Int) != -1) = true := by simp <;> omega
     have htl2 : (t : Int) < (la : Int) := by omega
     have ht0 : (0 : Int) ≤ (t : Int) := by omega
     obtain ⟨e, he⟩ : ∃ e, (n != y) = e := ⟨_, rfl⟩
     have hres2 : (if n = y then (0 : Int) else 40) = if e = true then 40 else 0 := by
      rw [← he]
      by_cases h : n = y <;> simp [h]
     rw [hres2]
     clear hres2 htl hy
     cases e
     all_goals
      go_enter Tryz.func35, Tryz.ntmps35
      go_wp2_with fail
      rw [← HW2.out]
      refine wp_region_quiet_below (by kernel_rfl) (by kernel_rfl) ?_
      repeat (first | go_big_quiet_step ((with_reducible exact rC.out _ _)) | quiet_step ((with_reducible exact rC.out _ _)))
      refine wpQuiet_nil ?_
      intro G hG
      have hbG : Below w.heap.size w G := by obtain ⟨p, rfl⟩ := hG; exact HB.out _ _
      have g5 : G.cell? ⟨w.heap.size + 1, 5, none⟩ = some (.int .i64 (t : Nat)) := by obtain ⟨p, rfl⟩ := hG; exact HF5.out _ _
      have g6 : G.cell? ⟨ba, oa + k, none⟩ = some (.int .i64 n) := by obtain ⟨p, rfl⟩ := hG; exact HA0.out _ _
      have g7 : G.cell? ⟨ba, oa + t, none⟩ = some (.int .i64 y) := by obtain ⟨p, rfl⟩ := hG; exact HCY.out _ _
      have HBG := Lib.hid hbG
      clear hG K1 K2 K3 K4 hbG
      go_wp2_with fail
      go_quiet (fail)
      go_wp2
      go_ret
      exact ⟨rfl, HBG.out.trans (zjp _ _ _)⟩
 ·have hc := hG.num hk1
  have hlen : o.pieces.length ≤ 1000 := by have := hG.pieces.2.1; omega
  have rN := Lib.hid (fun d os => Calls.regrown_of (w := W2) (d := d) (os := os) (zbp (grow (redrawn W2 d) os) o _ (z1c.kept hE' (HB.out d os)) hc hlen n hnb))
  have hres : argR m o av n = if decide ((z5t o.kind (fwR 0 o.pieces) o.scale n).2 = 0) = true then 0 else 24 := by
   unfold argR; rw [if_neg hk1]; simp
  rw [hres]
  obtain ⟨r, hr⟩ : ∃ r, decide ((z5t o.kind (fwR 0 o.pieces) o.scale n).2 = 0) = r := ⟨_, rfl⟩
  rw [hr] at rN ⊢
  obtain ⟨kd, hkd⟩ : ∃ z : Nat, o.kind = z := ⟨_, rfl⟩
  obtain ⟨la, hla⟩ : ∃ z, av.length = z := ⟨_, rfl⟩
  obtain ⟨td, htd⟩ : ∃ z, o.tied = z := ⟨_, rfl⟩
  obtain ⟨nm, hnm⟩ : ∃ z, o.name = z := ⟨_, rfl⟩
  obtain ⟨sc, hsc⟩ : ∃ z, o.scale = z := ⟨_, rfl⟩
  obtain ⟨bk, hbk⟩ : ∃ z, o.bank = z := ⟨_, rfl⟩
  rw [hla] at hkn ⊢
  rw [hkd] at hk1 f1
  rw [htd] at f5
  rw [hnm] at f0
  rw [hsc] at f3
  rw [hbk] at f2
  rw [hkd, htd, hnm, hsc, hbk] at rN HW2 ⊢
  have gk : (((kd : Nat) : Int) != 1) = true := by simp; omega
  have K0 := fun d os => cell_regrown a0 d os
  have L0 := fun d os => cell_regrown f0 d os
  have L1 := fun d os => cell_regrown f1 d os
  have L2 := fun d os => cell_regrown f2 d os
  have L3 := fun d os => cell_regrown f3 d os
  have L4 := fun d os => cell_regrown f4 d os
  have L5 := fun d os => cell_regrown f5 d os
  clear hallA hcellA hR hB hU hI hcs hE' hA' hG hres hr hn hk hkd hla htd hnm hsc hbk hk1 h1 h2 h3 hb1 hm2 ho2 hca hb2 hs2 hba hW2 hc hlen hnb f0 f1 f2 f3 f4 f5 a0 m4
  cases r
  all_goals
   go_enter Tryz.func35, Tryz.ntmps35
   go_wp2_with fail
   rw [← HW2.out]
   refine wp_region_quiet_below (by kernel_rfl) (by kernel_rfl) ?_
   repeat (first | go_big_quiet_step ((with_reducible exact rN.out _ _)) | quiet_step ((with_reducible exact rN.out _ _)))
   refine wpQuiet_nil ?_
   intro G hG
   have hbG : Below w.heap.size w G := by obtain ⟨p, rfl⟩ := hG; exact HB.out _ _
   clear hG
   go_wp2
   go_ret
   exact ⟨rfl, hbG⟩
end Go.Proofs.YtjjfeddenhemhaaGreatDoor
namespace Go.Proofs.YtjjfeddenhemhaaGreatDoor
open Go.RowKit Go.Instr
set_option linter.unusedVariables false
set_option linter.unusedSimpArgs false
set_option maxRecDepth 100000
theorem zku (m : Mach) (av : List Int) {L : List MOper} {k : Nat} {o : MOper} {n : Int} (ho : L[k]? = some o) (hn : av[k]? = some n) :
 z3o m av (L.drop k) (av.drop k) = if argR m o av n = 0 then z3o m av (L.drop (k + 1)) (av.drop (k + 1)) else argR m o av n := by
 have hl : k < L.length := (List.getElem?_eq_some_iff.1 ho).1
 have hl2 : k < av.length := (List.getElem?_eq_some_iff.1 hn).1
 have d1 : L.drop k = o :: L.drop (k + 1) := by
  rw [List.drop_eq_getElem_cons hl]; congr 1
  exact Option.some.inj ((List.getElem?_eq_getElem _).symm.trans ho)
 have d2 : av.drop k = n :: av.drop (k + 1) := by
  rw [List.drop_eq_getElem_cons hl2]; congr 1
  exact Option.some.inj ((List.getElem?_eq_getElem _).symm.trans hn)
 rw [d1, d2]; rfl
set_option warningAsError false in
set_option maxHeartbeats 4000000 in
theorem z6b (w : World) (v : Value) (m : Mach) (hm : zu w v m) (hT : zh w) (hef : ∀ x ∈ m.instrs, ∀ f ∈ x.effs, z3f f) (z : Int) (hz : -9223372036854775808 ≤ z ∧ z ≤ 9223372036854775807) (sa : Value) (av : List Int) (hA : zd 1 intE w sa av) :
 Calls Tryz.prog 17 #[v, .agg #[.int .i64 z, sa]] w fun e w' => e = .returned (.int .i64 (z6i m z av)) ∧ Below w.heap.size w w' := by
 have hm' := hm
 obtain ⟨cs0, rfl, sr, sb, su, si, hcs, h1, h2, h3, hR, hB, hU, hI⟩ := hm
 obtain rfl : cs0 = #[.string m.name, .int .i64 m.word, .int .i64 m.address, sr, sb, su, si] := by cases cs0; simp_all
 obtain ⟨Ai, ci, rfl, _⟩ := id hI
 obtain ⟨Aa, ca, rfl, _⟩ := id hA
 have HI := Lib.hid hI
 have HA := Lib.hid hA
 obtain ⟨n, hn⟩ : ∃ z, m.instrs.length = z := ⟨_, rfl⟩
 obtain ⟨la, hla⟩ : ∃ z, av.length = z := ⟨_, rfl⟩
 rw [hn] at hm' HI ⊢
 rw [hla] at HA ⊢
 obtain ⟨W2, hW2⟩ : ∃ W2, W2 = (w.alloc (.cells #[.string m.name, .int .i64 m.word, .int .i64 m.address, sr, sb, su, .slice Ai n ci] 27)).alloc (.cells #[.int .i64 z, .slice Aa la ca] 50) := ⟨_, rfl⟩
 have hb1 : Below w.heap.size w (w.alloc (.cells #[.string m.name, .int .i64 m.word, .int .i64 m.address, sr, sb, su, .slice Ai n ci] 27)) := (Below.refl _ _).alloc (Nat.le_refl _) _
 have hb2 : Below w.heap.size w W2 := by rw [hW2]; exact hb1.alloc (by simp) _
 have hs2 : W2.heap.size = w.heap.size + 2 := by rw [hW2]; simp
 have hm2 : W2.heap[w.heap.size]? = some (.cells #[.string m.name, .int .i64 m.word, .int .i64 m.address, sr, sb, su, .slice Ai n ci] 27) := by
  rw [hW2]
  exact (((Below.refl _ _).alloc (Nat.le_refl _) _).block _ (by simp)).trans (heap_alloc_new _ _)
 have ho2 : W2.heap[w.heap.size + 1]? = some (.cells #[.int .i64 z, .slice Aa la ca] 50) := by
  rw [hW2]
  have := heap_alloc_new (w.alloc (.cells #[.string m.name, .int .i64 m.word, .int .i64 m.address, sr, sb, su, .slice Ai n ci] 27)) (.cells #[.int .i64 z, .slice Aa la ca] 50)
  simpa using this
 have HGR := Lib.hid (show ∀ X, Below W2.heap.size W2 X → Below w.heap.size w X from fun X hX => hb2.trans (hX.mono hb2.size))
 have HQ := Lib.hid (show ∀ X, Below W2.heap.size W2 X → X.cell? ⟨w.heap.size, 0, none⟩ = some (.string m.name) ∧ X.cell? ⟨w.heap.size, 1, none⟩ = some (.int .i64 m.word) ∧ X.cell? ⟨w.heap.size, 2, none⟩ = some (.int .i64 m.address) ∧ X.cell? ⟨w.heap.size, 3, none⟩ = some sr ∧ X.cell? ⟨w.heap.size, 4, none⟩ = some sb ∧ X.cell? ⟨w.heap.size, 5, none⟩ = some su ∧ X.cell? ⟨w.heap.size, 6, none⟩ = some (.slice Ai n ci) ∧ X.cell? ⟨w.heap.size + 1, 0, none⟩ = some (.int .i64 z) ∧ X.cell? ⟨w.heap.size + 1, 1, none⟩ = some (.slice Aa la ca) from fun X hX => by
  have e1 := (hX.block _ (by omega)).trans hm2
  have e2 := (hX.block _ (by omega)).trans ho2
  exact ⟨zb e1 rfl, zb e1 rfl, zb e1 rfl, zb e1 rfl, zb e1 rfl, zb e1 rfl, zb e1 rfl, zb e2 rfl, zb e2 rfl⟩)
 obtain ⟨ce, hce⟩ : ∃ z, chkR m = z := ⟨_, rfl⟩
 have HCK := Lib.hid ((z3y W2 (.agg #[.string m.name, .int .i64 m.word, .int .i64 m.address, sr, sb, su, .slice Ai n ci]) m (hm'.kept hb2) (hT.below hb2) hef).mono (R' := fun e w' => e = .returned (.int .i64 ce) ∧ Below W2.heap.size W2 w') fun e w' ⟨h1, h2⟩ => ⟨by rw [h1, hce], h2⟩)
 rw [hW2] at HCK
 have HW2 := Lib.hid hW2
 have HMV := Lib.hid (show ∀ X, Below W2.heap.size W2 X → zu X (.agg #[.string m.name, .int .i64 m.word, .int .i64 m.address, sr, sb, su, .slice Ai n ci]) m from fun X hX => hm'.kept (HGR.out X hX))
 obtain ⟨r, hr⟩ : ∃ r, z6i m z av = r := ⟨_, rfl⟩
 rw [hr]
 have HR := Lib.hid hr
 have HCE := Lib.hid hce
 have HN := Lib.hid hn
 have HLA := Lib.hid hla
 have HREF := Lib.hid (Below.refl W2.heap.size W2)
 by_cases hk : ce = 0
 ·subst hk
  have hr2 : r = (match (if 0 ≤ z then m.instrs[z.toNat]? else none) with | some i => if la = i.opers.length then z3o m av i.opers av else 2 | none => 6) := by
   rw [← hr]; unfold z6i; rw [if_pos hce, hla]; try rfl
  have HX := Lib.hid (fun W => zia z Ai n ci W)
  by_cases hin : 0 ≤ z ∧ z < (n : Int)
  ·obtain ⟨q, rfl⟩ : ∃ q : Nat, z = q := ⟨z.toNat, by omega⟩
   rw [decide_eq_true hin] at HX
   obtain ⟨x, hx⟩ : ∃ x, m.instrs[q]? = some x := ⟨_, List.getElem?_eq_getElem (by omega)⟩
   rw [if_pos hin.1, Int.toNat_natCast, hx] at hr2
   replace hr2 : r = if la = x.opers.length then z3o m av x.opers av else 2 := hr2
   have hxm := List.mem_of_getElem? hx
   have HGOOD := Lib.hid (fun (k : Nat) o (ho : x.opers[k]? = some o) => zq8 hce hxm ho)
   obtain ⟨Ai', ci', e1, _, _, _, hallI⟩ := HI.out
   obtain ⟨bi, oi, csi, e2, hbi, _, hcelli, hEi⟩ := hallI q x hx
   obtain ⟨so, se, rfl, _, _, _, hO, _⟩ := hEi
   obtain ⟨rfl, rfl⟩ : Ai = Ai' ∧ ci = ci' := by cases e1; exact ⟨rfl, rfl⟩
   clear e1
   subst e2
   obtain ⟨Ao, co, rfl, hlo, _⟩ := id hO
   have HO := Lib.hid hO
   obtain ⟨lo, hlo2⟩ : ∃ z, x.opers.length = z := ⟨_, rfl⟩
   rw [hlo2] at HO hr2
   have HXC := Lib.hid (show ∀ X, Below W2.heap.size W2 X → X.cell? ⟨bi, oi + q * 9 + 3, none⟩ = some (.slice Ao lo co) from fun X hX => ((HGR.out X hX).cell (p := ⟨bi, oi + q * 9 + 3, none⟩) hbi).trans (by rw [← hlo2]; exact hcelli 3 _ rfl))
   have hqn : (q : Int) < (n : Int) := hin.2
   have hq0 : (0 : Int) ≤ (q : Int) := hin.1
   have HLO := Lib.hid hlo2
   by_cases hll : la = lo
   ·subst hll
    rw [if_pos rfl] at hr2
    have HR2 := Lib.hid hr2
    have hg : ((la : Int) != (la : Int)) = false := by simp
    have hl4 : la ≤ 4 := by rw [← hlo2]; exact (zbn hce hxm).2.1
    clear hb1 hb2 hs2 hm2 ho2 hW2 hcs h1 h2 h3 hR hB hU hI hA hT hef hm' hn hla hr hce hr2 hin hx hxm hallI hcelli hbi hO hlo hlo2
    go_enter Tryz.func17, Tryz.ntmps17
    go_wp2_with (first
     | (go_at_call 27; (with_reducible refine HCK.out.mono ?_); rintro e w3 ⟨rfl, hb3⟩; rw [← HW2.out] at hb3; obtain ⟨c0, c1, c2, c3, c4, c5, c6, c7, c8⟩ := HQ.out _ hb3; have c9 := HXC.out _ hb3)
     | (go_at_call 34; (with_reducible refine (HX.out _).mono ?_); rintro e w4 ⟨rfl, rfl⟩))
    have HB3 := Lib.hid hb3
    clear c0 c1 c2 c3 c4 c5 c6 c7 c8 c9 hb3
    go_loopw [36] (fun vi wr => ∃ i : Nat, vi = .int .i64 i ∧ i ≤ la ∧ Hid (Below W2.heap.size W2 wr ∧ z3o m av (x.opers.drop i) (av.drop i) = r)) (fun vi _ => la - (intOf vi).toNat)
    case atStart => exact ⟨0, rfl, Nat.zero_le _, Lib.hid ⟨HB3.out, by rw [List.drop_zero, List.drop_zero]; exact HR2.out.symm⟩⟩
    case round =>
     obtain ⟨i, rfl, hi, HJ⟩ := hrel
     obtain ⟨hbx, hj⟩ := HJ.out
     by_cases hlt : i < la
     ·obtain ⟨o, ho⟩ : ∃ p, x.opers[i]? = some p := ⟨_, List.getElem?_eq_getElem (by rw [HLO.out]; exact hlt)⟩
      obtain ⟨y, hy⟩ : ∃ p, av[i]? = some p := ⟨_, List.getElem?_eq_getElem (by rw [HLA.out]; exact hlt)⟩
      rw [zku m av ho hy] at hj
      have hbw := HGR.out _ hbx
      have hOr := HO.out.kept (fun cs x hx => z1c.kept hx hbw) hbw
      obtain ⟨A', c', e1, _, _, _, hall⟩ := hOr
      obtain ⟨b, o1, cs, e2, hb, hcl, hcell, hE⟩ := hall i o ho
      obtain ⟨rfl, rfl⟩ : Ao = A' ∧ co = c' := by cases e1; exact ⟨rfl, rfl⟩
      clear e1
      subst e2
      have hE' := hE
      obtain ⟨sv, rfl, _, _, _, _, hp, _⟩ := hE
      obtain ⟨Ap, cp, rfl, _⟩ := hp
      obtain ⟨np, hnp⟩ : ∃ z, o.pieces.length = z := ⟨_, rfl⟩
      obtain ⟨nm, hnm⟩ : ∃ z, o.name = z := ⟨_, rfl⟩
      obtain ⟨kd, hkd⟩ : ∃ z : Nat, o.kind = z := ⟨_, rfl⟩
      obtain ⟨bk, hbk⟩ : ∃ z, o.bank = z := ⟨_, rfl⟩
      obtain ⟨sc, hsc⟩ : ∃ z, o.scale = z := ⟨_, rfl⟩
      obtain ⟨td, htd⟩ : ∃ z, o.tied = z := ⟨_, rfl⟩
      have p0 : wr.cell? ⟨b, o1 + i * 6, none⟩ = some (.string nm) := by rw [← hnm]; simpa using hcell 0 _ rfl
      have p1 : wr.cell? ⟨b, o1 + i * 6 + 1, none⟩ = some (.int .u8 (kd : Nat)) := by rw [← hkd]; exact hcell 1 _ rfl
      have p2 : wr.cell? ⟨b, o1 + i * 6 + 2, none⟩ = some (.int .i64 bk) := by rw [← hbk]; exact hcell 2 _ rfl
      have p3 : wr.cell? ⟨b, o1 + i * 6 + 3, none⟩ = some (.int .i64 sc) := by rw [← hsc]; exact hcell 3 _ rfl
      have p4 : wr.cell? ⟨b, o1 + i * 6 + 4, none⟩ = some (.slice Ap np cp) := by rw [← hnp]; exact hcell 4 _ rfl
      have p5 : wr.cell? ⟨b, o1 + i * 6 + 5, none⟩ = some (.int .i64 td) := by rw [← htd]; exact hcell 5 _ rfl
      obtain ⟨W3, hW3⟩ : ∃ W3, W3 = wr.alloc (.cells #[.string nm, .int .u8 (kd : Nat), .int .i64 bk, .int .i64 sc, .slice Ap np cp, .int .i64 td] 60) := ⟨_, rfl⟩
      have hb3 : Below wr.heap.size wr W3 := by rw [hW3]; exact (Below.refl _ _).alloc (Nat.le_refl _) _
      have hb23 : Below W2.heap.size W2 W3 := hbx.trans (hb3.mono hbx.size)
      have hbw3 := HGR.out _ hb23
      have HCA := Lib.hid (show Calls Tryz.prog 35 #[.agg #[.string m.name, .int .i64 m.word, .int .i64 m.address, sr, sb, su, .slice (some ⟨bi, oi, none⟩) n ci], .agg #[.string nm, .int .u8 (kd : Nat), .int .i64 bk, .int .i64 sc, .slice Ap np cp, .int .i64 td], .slice Aa la ca, .int .i64 i] W3 fun e w' => e = .returned (.int .i64 (argR m o av y)) ∧ Below W2.heap.size W2 w' from by
       have h := zcq W3 _ m (HMV.out W3 hb23) x i o (HGOOD.out i o ho) _ (z1c.kept hE' hb3) _ av (HA.out.kept (fun cs x hx => intE.kept hx hbw3) hbw3) (by rw [HLA.out]; exact hlt)
       rw [hnm, hkd, hbk, hsc, htd, hnp, hy, Option.getD_some] at h
       exact h.mono fun e w' ⟨h1, h2⟩ => ⟨h1, hb23.trans (h2.mono hb23.size)⟩)
      obtain ⟨c0, c1, c2, c3, c4, c5, c6, c7, c8⟩ := HQ.out _ hb23
      rw [hW3] at c0 c1 c2 c3 c4 c5 c6 c7 c8 HCA
      obtain ⟨rr, hrr⟩ : ∃ z, argR m o av y = z := ⟨_, rfl⟩
      rw [hrr] at HCA hj
      have hin : (i : Int) < (la : Int) := by omega
      have hi0 : (0 : Int) ≤ (i : Int) := by omega
      have HLT := Lib.hid hlt
      have HJ2 := Lib.hid hj
      clear hj HJ hall hcell hcl hE' hb hb3 hb23 hbw3 hbw hW3 ho hy hnm hkd hbk hsc htd hrr hbx hnp
      by_cases hrz : rr = 0
      ·subst hrz
       go_wp2_with (go_at_call 35; (with_reducible refine HCA.out.mono ?_); rintro e w5 ⟨rfl, hb5⟩)
       go_roundw
       case rel => exact ⟨i + 1, by first | rfl | go_num | (congr 1), by have := HLT.out; omega, Lib.hid ⟨hb5, by simpa using HJ2.out⟩⟩
       case measure => simp only [intOf]; have := HLT.out; omega
      ·have g : (rr != 0) = true := by simp [hrz]
       have hrr2 : rr = r := by have := HJ2.out; rw [if_neg hrz] at this; exact this
       have HRR := Lib.hid hrr2
       clear HJ2
       clear hrr2 hrz
       go_wp2_with (go_at_call 35; (with_reducible refine HCA.out.mono ?_); rintro e w5 ⟨rfl, hb5⟩)
       go_ret
       exact ⟨by rw [HRR.out]; rfl, HGR.out _ hb5⟩
     ·obtain rfl : i = la := by omega
      have hr0 : r = 0 := by
       rw [← hj, List.drop_eq_nil_of_le (by rw [HLO.out]; exact Nat.le_refl _)]; rfl
      have HR0 := Lib.hid hr0
      have HBX := Lib.hid (HGR.out _ hbx)
      clear hr0 hj hbx HJ
      go_wp2
      go_ret
      exact ⟨by rw [HR0.out]; rfl, HBX.out⟩
   ·rw [if_neg hll] at hr2
    have HR2 := Lib.hid hr2
    have hg : ((la : Int) != (lo : Int)) = true := by simp; omega
    clear hb1 hb2 hs2 hm2 ho2 hW2 hcs h1 h2 h3 hR hB hU hI hA hT hef hm' hn hla hr hce hr2 hin hx hxm hallI hcelli hbi hO hlo hlo2 hll
    go_enter Tryz.func17, Tryz.ntmps17
    go_wp2_with (first
     | (go_at_call 27; (with_reducible refine HCK.out.mono ?_); rintro e w3 ⟨rfl, hb3⟩; rw [← HW2.out] at hb3; obtain ⟨c0, c1, c2, c3, c4, c5, c6, c7, c8⟩ := HQ.out _ hb3; have c9 := HXC.out _ hb3)
     | (go_at_call 34; (with_reducible refine (HX.out _).mono ?_); rintro e w4 ⟨rfl, rfl⟩))
    go_ret
    exact ⟨by rw [HR2.out]; rfl, HGR.out _ hb3⟩
  ·rw [decide_eq_false hin] at HX
   have hr3 : r = 6 := by
    rw [hr2]
    by_cases h0 : 0 ≤ z
    ·rw [if_pos h0, List.getElem?_eq_none (by omega)]
    ·rw [if_neg h0]
   have HR3 := Lib.hid hr3
   clear hb1 hb2 hs2 hm2 ho2 hW2 hcs h1 h2 h3 hR hB hU hI hA hT hef hm' hn hla hr hce hr2 hin hr3
   go_enter Tryz.func17, Tryz.ntmps17
   go_wp2_with (first
    | (go_at_call 27; (with_reducible refine HCK.out.mono ?_); rintro e w3 ⟨rfl, hb3⟩; rw [← HW2.out] at hb3; obtain ⟨c0, c1, c2, c3, c4, c5, c6, c7, c8⟩ := HQ.out _ hb3)
    | (go_at_call 34; (with_reducible refine (HX.out _).mono ?_); rintro e w4 ⟨rfl, rfl⟩))
   go_ret
   exact ⟨by rw [HR3.out]; rfl, HGR.out _ hb3⟩
 ·have hr2 : r = ce := by rw [← hr]; unfold z6i; rw [if_neg (by rw [hce]; exact hk), hce]
  have HR2 := Lib.hid hr2
  have g : (ce != 0) = true := by simp [hk]
  clear hb1 hb2 hs2 hm2 ho2 hW2 hcs h1 h2 h3 hR hB hU hI hA hT hef hm' hn hla hr hce hr2 hk
  go_enter Tryz.func17, Tryz.ntmps17
  go_wp2_with (go_at_call 27; (with_reducible refine HCK.out.mono ?_); rintro e w3 ⟨rfl, hb3⟩; rw [← HW2.out] at hb3)
  go_ret
  exact ⟨by rw [HR2.out]; rfl, HGR.out _ hb3⟩
theorem zci (m : Mach) (av : List Int) : ∀ (L : List MOper) (B : List Int), B.length = L.length → (z3o m av L B = 0 ↔ ∀ (k : Nat) o n, L[k]? = some o → B[k]? = some n → argR m o av n = 0) := by
 intro L
 induction L with
 | nil => intro B hB; simp [z3o]
 | cons o l ih =>
   intro B hB
   cases B with
   | nil => simp at hB
   | cons b B =>
     rw [z3o]
     by_cases h : argR m o av b = 0
     ·rw [if_pos h, ih B (by simpa using hB)]
      constructor
      ·intro q k o' n' h1 h2
       cases k with
       | zero => simp at h1 h2; subst h1; subst h2; exact h
       | succ k => exact q k o' n' (by simpa using h1) (by simpa using h2)
      ·intro q k o' n' h1 h2
       exact q (k + 1) o' n' (by simpa using h1) (by simpa using h2)
     ·rw [if_neg h]
      exact ⟨fun q => absurd q h, fun q => q 0 o b rfl rfl⟩
theorem zmm {m : Mach} {z : Int} {av : List Int} (h : z6i m z av = 0) : chkR m = 0 ∧ ∃ (q : Nat) (i : MIns), z = q ∧ m.instrs[q]? = some i ∧ Fits m i av := by
 unfold z6i at h
 by_cases hc : chkR m = 0
 ·refine ⟨hc, ?_⟩
  rw [if_pos hc] at h
  by_cases h0 : 0 ≤ z
  ·rw [if_pos h0] at h
   cases hi : m.instrs[z.toNat]? with
   | none => rw [hi] at h; cases h
   | some i =>
     rw [hi] at h
     simp only at h
     by_cases hl : av.length = i.opers.length
     ·rw [if_pos hl] at h
      exact ⟨z.toNat, i, by omega, hi, hl, (zci m av _ _ hl).1 h⟩
     ·rw [if_neg hl] at h; cases h
  ·rw [if_neg h0] at h; cases h
 ·rw [if_neg hc] at h; exact absurd h hc
end Go.Proofs.YtjjfeddenhemhaaGreatDoor
namespace Go.Proofs.YtjjfeddenhemhaaGreatDoor
open Go.RowKit Go.Instr Go.Sort
set_option linter.unusedVariables false
set_option linter.unusedSimpArgs false
set_option maxRecDepth 100000
abbrev MBnd := ByteArray × Int × Nat
def bndC (x : MBnd) : List Value := [.string x.1, .int .i64 x.2.1, .int .u64 (x.2.2 : Nat)]
def bRow (L : List MBnd) : List Value := (L.map bndC).flatten
theorem zcj (L : List MBnd) (x : MBnd) : bRow (L ++ [x]) = bRow L ++ bndC x := by unfold bRow; simp
theorem znk {w : World} {base : Nat} {e : TypeId} {v : Value} {L : List MBnd} (h : w.ownsRow base e 3 v L.length (bRow L)) {i : Nat} {x : MBnd} (hx : L[i]? = some x) :
 ∃ g c, v = .slice (some ⟨g, 0, none⟩) L.length c ∧ base ≤ g ∧ g < w.heap.size ∧ w.cell? ⟨g, i * 3, none⟩ = some (.string x.1) ∧ w.cell? ⟨g, i * 3 + 1, none⟩ = some (.int .i64 x.2.1) ∧ w.cell? ⟨g, i * 3 + 2, none⟩ = some (.int .u64 (x.2.2 : Nat)) := by
 have hil := (List.getElem?_eq_some_iff.1 hx).1
 obtain ⟨_, h | ⟨g, cap, cur, hv, hg, hh, hc, hm, _, ht⟩⟩ := h
 ·have := h.2; omega
 ·have key : ∀ (L : List MBnd) (i : Nat) (x : MBnd), L[i]? = some x → ∀ j u, (bndC x)[j]? = some u → (bRow L)[i * 3 + j]? = some u := by
   intro L
   induction L with
   | nil => intro i x h; simp at h
   | cons y l ih =>
     intro i x h j u hu
     have hb : bRow (y :: l) = bndC y ++ bRow l := by unfold bRow; simp
     rw [hb]
     have hj : j < 3 := by
      rcases Nat.lt_or_ge j 3 with q | q
      ·exact q
      ·rw [List.getElem?_eq_none (by simpa [bndC] using q)] at hu; cases hu
     cases i with
     | zero =>
       simp only [List.getElem?_cons_zero, Option.some.injEq] at h
       subst h
       rw [Nat.zero_mul, Nat.zero_add, List.getElem?_append_left (by simpa [bndC] using hj)]
       exact hu
     | succ i =>
       rw [List.getElem?_append_right (by simp [bndC]; omega)]
       have := ih i x (by simpa using h) j u hu
       rw [← this]
       congr 1
       simp [bndC]; omega
  have cell : ∀ j u, (bndC x)[j]? = some u → w.cell? ⟨g, i * 3 + j, none⟩ = some u := fun j u hu => by
   have hj : j < 3 := by
    rcases Nat.lt_or_ge j 3 with q | q
    ·exact q
    ·rw [List.getElem?_eq_none (by simpa [bndC] using q)] at hu; cases hu
   refine zb hh ?_
   have e : (cur.toList.take (L.length * 3))[i * 3 + j]? = some u := by rw [ht]; exact key L i x hx j u hu
   rw [List.getElem?_take] at e
   rw [if_pos (by omega)] at e
   simpa using e
  exact ⟨g, cap, hv, hg, (Array.getElem?_eq_some_iff.1 hh).1, by simpa using cell 0 _ rfl, cell 1 _ rfl, cell 2 _ rfl⟩
def z7f (m : Mach) (pc : Nat) : List MOper → List Int → List MBnd
 | o :: l, n :: ns => (if o.kind = 1 then [] else [(o.name, m.address, numR m o n pc)]) ++ z7f m pc l ns
 | _, _ => []
theorem zra (m : Mach) (pc : Nat) {L : List MOper} {av : List Int} {k : Nat} {o : MOper} {n : Int} (ho : L[k]? = some o) (hn : av[k]? = some n) :
 z7f m pc (L.drop k) (av.drop k) = (if o.kind = 1 then [] else [(o.name, m.address, numR m o n pc)]) ++ z7f m pc (L.drop (k + 1)) (av.drop (k + 1)) := by
 have hl : k < L.length := (List.getElem?_eq_some_iff.1 ho).1
 have hl2 : k < av.length := (List.getElem?_eq_some_iff.1 hn).1
 have d1 : L.drop k = o :: L.drop (k + 1) := by
  rw [List.drop_eq_getElem_cons hl]; congr 1
  exact Option.some.inj ((List.getElem?_eq_getElem _).symm.trans ho)
 have d2 : av.drop k = n :: av.drop (k + 1) := by
  rw [List.drop_eq_getElem_cons hl2]; congr 1
  exact Option.some.inj ((List.getElem?_eq_getElem _).symm.trans hn)
 rw [d1, d2]; rfl
noncomputable def z62 (m : Mach) (z : Int) (av : List Int) (pc : Nat) : Int := if z6i m z av = 0 then (if pc < 2 ^ m.address.toNat then 0 else 24) else z6i m z av
noncomputable def zaf (m : Mach) (z : Int) (av : List Int) (pc : Nat) : List MBnd := if z62 m z av pc = 0 then (match m.instrs[z.toNat]? with | some i => z7f m pc i.opers av ++ [(z1n, m.address, pc)] | none => []) else []
theorem zge (W : World) (p q r : Value) (t : TypeId) : ∀ B, W.heap.size = B → ∀ (j : Nat) (x : Value), ([p, q, r] : List Value)[j]? = some x → (W.alloc (.cells #[p, q, r] t)).cell? ((⟨B, 0, none⟩ : Addr).add j) = some x := by
 rintro _ rfl j x hx
 have hadd : ((⟨W.heap.size, 0, none⟩ : Addr).add j) = ⟨W.heap.size, 0 + j, none⟩ := by unfold Addr.add; split <;> simp_all
 rw [hadd, Nat.zero_add]
 exact zj rfl (by simpa using hx)
theorem zrm : (Tryz.prog.info? 62).map (fun i => (i.zero, i.size, i.bytes)) = some (some (.agg #[.string ⟨#[]⟩, .int .i64 0, .int .u64 0]), 3, 32) := by kernel_rfl
theorem ztd {w : World} {base base' size n : Nat} {e : TypeId} {v : Value} {xs : List Value} (h : w.ownsRow base e size v n xs) (hb : base' ≤ base) : w.ownsRow base' e size v n xs := by
 obtain ⟨h0, h | ⟨g, cap, cur, hv, hg, hh, hc⟩⟩ := h
 ·exact ⟨h0, .inl h⟩
 ·exact ⟨h0, .inr ⟨g, cap, cur, hv, Nat.le_trans hb hg, hh, hc⟩⟩
set_option warningAsError false in
set_option maxHeartbeats 4000000 in
theorem ztu (w : World) (v : Value) (m : Mach) (hm : zu w v m) (hT : zh w) (hef : ∀ x ∈ m.instrs, ∀ f ∈ x.effs, z3f f) (z : Int) (hz : -9223372036854775808 ≤ z ∧ z ≤ 9223372036854775807) (sa : Value) (av : List Int) (hA : zd 1 intE w sa av) (pc : Nat) (hpc : pc < 18446744073709551616) :
 Calls Tryz.prog 16 #[v, .agg #[.int .i64 z, sa], .int .u64 (pc : Nat)] w fun e w' => ∃ v', e = .returned (.tuple #[v', .int .i64 (z62 m z av pc)]) ∧ w'.ownsRow w.heap.size 62 3 v' (zaf m z av pc).length (bRow (zaf m z av pc)) ∧ Below w.heap.size w w' := by
 have hm' := hm
 obtain ⟨cs0, rfl, sr, sb, su, si, hcs, h1, h2, h3, hR, hB, hU, hI⟩ := hm
 obtain rfl : cs0 = #[.string m.name, .int .i64 m.word, .int .i64 m.address, sr, sb, su, si] := by cases cs0; simp_all
 obtain ⟨Ai, ci, rfl, _⟩ := id hI
 obtain ⟨Aa, ca, rfl, _⟩ := id hA
 have HI := Lib.hid hI
 have HA := Lib.hid hA
 obtain ⟨n, hn⟩ : ∃ z, m.instrs.length = z := ⟨_, rfl⟩
 obtain ⟨la, hla⟩ : ∃ z, av.length = z := ⟨_, rfl⟩
 rw [hn] at hm' HI ⊢
 rw [hla] at HA ⊢
 obtain ⟨W2, hW2⟩ : ∃ W2, W2 = (w.alloc (.cells #[.string m.name, .int .i64 m.word, .int .i64 m.address, sr, sb, su, .slice Ai n ci] 27)).alloc (.cells #[.int .i64 z, .slice Aa la ca] 50) := ⟨_, rfl⟩
 have hb1 : Below w.heap.size w (w.alloc (.cells #[.string m.name, .int .i64 m.word, .int .i64 m.address, sr, sb, su, .slice Ai n ci] 27)) := (Below.refl _ _).alloc (Nat.le_refl _) _
 have hb2 : Below w.heap.size w W2 := by rw [hW2]; exact hb1.alloc (by simp) _
 have hs2 : W2.heap.size = w.heap.size + 2 := by rw [hW2]; simp
 have hm2 : W2.heap[w.heap.size]? = some (.cells #[.string m.name, .int .i64 m.word, .int .i64 m.address, sr, sb, su, .slice Ai n ci] 27) := by
  rw [hW2]
  exact (((Below.refl _ _).alloc (Nat.le_refl _) _).block _ (by simp)).trans (heap_alloc_new _ _)
 have ho2 : W2.heap[w.heap.size + 1]? = some (.cells #[.int .i64 z, .slice Aa la ca] 50) := by
  rw [hW2]
  have := heap_alloc_new (w.alloc (.cells #[.string m.name, .int .i64 m.word, .int .i64 m.address, sr, sb, su, .slice Ai n ci] 27)) (.cells #[.int .i64 z, .slice Aa la ca] 50)
  simpa using this
 have HGR := Lib.hid (show ∀ X, Below W2.heap.size W2 X → Below w.heap.size w X from fun X hX => hb2.trans (hX.mono hb2.size))
 have HQ := Lib.hid (show ∀ X, Below W2.heap.size W2 X → X.cell? ⟨w.heap.size, 0, none⟩ = some (.string m.name) ∧ X.cell? ⟨w.heap.size, 1, none⟩ = some (.int .i64 m.word) ∧ X.cell? ⟨w.heap.size, 2, none⟩ = some (.int .i64 m.address) ∧ X.cell? ⟨w.heap.size, 3, none⟩ = some sr ∧ X.cell? ⟨w.heap.size, 4, none⟩ = some sb ∧ X.cell? ⟨w.heap.size, 5, none⟩ = some su ∧ X.cell? ⟨w.heap.size, 6, none⟩ = some (.slice Ai n ci) ∧ X.cell? ⟨w.heap.size + 1, 0, none⟩ = some (.int .i64 z) ∧ X.cell? ⟨w.heap.size + 1, 1, none⟩ = some (.slice Aa la ca) from fun X hX => by
  have e1 := (hX.block _ (by omega)).trans hm2
  have e2 := (hX.block _ (by omega)).trans ho2
  exact ⟨zb e1 rfl, zb e1 rfl, zb e1 rfl, zb e1 rfl, zb e1 rfl, zb e1 rfl, zb e1 rfl, zb e2 rfl, zb e2 rfl⟩)
 obtain ⟨ce, hce⟩ : ∃ z', z6i m z av = z' := ⟨_, rfl⟩
 have HCK := Lib.hid ((z6b W2 _ m (hm'.kept hb2) (hT.below hb2) hef z hz (.slice Aa la ca) av (HA.out.kept (fun cs x hx => intE.kept hx hb2) hb2)).mono (R' := fun e w' => e = .returned (.int .i64 ce) ∧ Below W2.heap.size W2 w') fun e w' ⟨h1, h2⟩ => ⟨by rw [h1, hce], h2⟩)
 rw [hW2] at HCK
 have HW2 := Lib.hid hW2
 have HMV := Lib.hid (show ∀ X, Below W2.heap.size W2 X → zu X (.agg #[.string m.name, .int .i64 m.word, .int .i64 m.address, sr, sb, su, .slice Ai n ci]) m from fun X hX => hm'.kept (HGR.out X hX))
 have HS2 := Lib.hid hs2
 have HNIL := Lib.hid (show ∀ X : World, X.ownsRow w.heap.size 62 3 (.slice none 0 0) 0 (bRow []) from fun X => ⟨rfl, .inl ⟨rfl, rfl⟩⟩)
 by_cases hk : ce = 0
 ·subst hk
  obtain ⟨hc0, q, x, rfl, hx, hf⟩ := zmm hce
  have had : m.address = 16 ∨ m.address = 32 := by
   have hh := (z2t hc0).2.1
   unfold z5n at hh
   simp only [Bool.and_eq_true, decide_eq_true_eq] at hh
   exact hh.2.2
  obtain ⟨AD, hAD⟩ : ∃ AD : Nat, m.address = AD := ⟨m.address.toNat, by omega⟩
  have HOK := Lib.hid (fun X => zau AD pc X (by omega) (by omega))
  have hin : (q : Int) < (n : Int) := by have := (List.getElem?_eq_some_iff.1 hx).1; omega
  have hq0 : (0 : Int) ≤ (q : Int) := by omega
  have hxm := List.mem_of_getElem? hx
  obtain ⟨Ai', ci', e1, _, _, _, hallI⟩ := HI.out
  obtain ⟨bi, oi, csi, e2, hbi, _, hcelli, hEi⟩ := hallI q x hx
  obtain ⟨so, se, rfl, _, _, _, hO, _⟩ := hEi
  obtain ⟨rfl, rfl⟩ : Ai = Ai' ∧ ci = ci' := by cases e1; exact ⟨rfl, rfl⟩
  clear e1
  subst e2
  obtain ⟨Ao, co, rfl, hlo, _⟩ := id hO
  have HO := Lib.hid hO
  obtain ⟨lo, hlo2⟩ : ∃ z, x.opers.length = z := ⟨_, rfl⟩
  rw [hlo2] at HO
  have HXC := Lib.hid (show ∀ X, Below W2.heap.size W2 X → X.cell? ⟨bi, oi + q * 9 + 3, none⟩ = some (.slice Ao lo co) from fun X hX => ((HGR.out X hX).cell (p := ⟨bi, oi + q * 9 + 3, none⟩) hbi).trans (by rw [← hlo2]; exact hcelli 3 _ rfl))
  have HLO := Lib.hid hlo2
  have hl4 : lo ≤ 4 := by rw [← hlo2]; exact (zbn hc0 hxm).2.1
  have HFIT := Lib.hid hf
  by_cases hok : okB AD pc = true
  ·have hpa : pc < 2 ^ AD := (z2y _ _).1 hok
   have hve : z62 m q av pc = 0 := by unfold z62; rw [if_pos hce, if_pos (by rw [hAD, Int.toNat_natCast]; exact hpa)]
   have hvl : zaf m q av pc = z7f m pc x.opers av ++ [(z1n, m.address, pc)] := by unfold zaf; rw [if_pos hve, Int.toNat_natCast, hx]
   obtain ⟨R, hR2⟩ : ∃ R, z7f m pc x.opers av = R := ⟨_, rfl⟩
   rw [hve, hvl, hR2, hAD]
   rw [hok] at HOK
   rw [hAD] at HCK HW2
   have HNUM := Lib.hid (fun X cs (o : MOper) (hE : z1c X cs o) (hX : Below W2.heap.size W2 X) (y : Int) => ziv X _ m (HMV.out X hX) had o cs hE y pc)
   obtain ⟨i0, hi0, hz0, hz1, hz2⟩ := info_parts zrm
   have HI0 := Lib.hid hi0
   have HZ0 := Lib.hid hz0
   have HZ1 := Lib.hid hz1
   have HZ2 := Lib.hid hz2
   have HAD := Lib.hid hAD
   rw [hAD] at HQ HNUM
   have HR2 := Lib.hid hR2
   have HLA := Lib.hid hla
   clear hb1 hs2 hm2 ho2 hW2 hcs h1 h2 h3 hR hB hU hI hA hT hef hm' hn hla hce hx hxm hallI hcelli hbi hO hlo hlo2 hc0 had hAD hok hpa hve hvl hR2 hi0 hz0 hz1 hz2 hf hz hpc
   go_enter Tryz.func16, Tryz.ntmps16
   go_wp2_with (first
    | (go_at_call 17; (with_reducible refine HCK.out.mono ?_); rintro e w3 ⟨rfl, hb3⟩; rw [← HW2.out] at hb3; obtain ⟨c0, c1, c2, c3, c4, c5, c6, c7, c8⟩ := HQ.out _ hb3; have c9 := HXC.out _ hb3)
    | (go_at_call 30; (with_reducible refine (HOK.out _).mono ?_); rintro e w4 ⟨rfl, rfl⟩))
   have HB3 := Lib.hid hb3
   clear c0 c1 c2 c3 c4 c5 c6 c7 c8 c9 hb3
   go_loopw [9, 31] (fun vv vi wr => ∃ i : Nat, vi = .int .i64 i ∧ i ≤ lo ∧ Hid (∃ (D : List MBnd) (Ad : Option Addr) (cd : Nat), vv = .slice Ad D.length cd ∧ D.length ≤ i ∧ Below W2.heap.size W2 wr ∧ wr.ownsRow W2.heap.size 62 3 (.slice Ad D.length cd) D.length (bRow D) ∧ D ++ z7f m pc (x.opers.drop i) (av.drop i) = R)) (fun _ vi _ => lo - (intOf vi).toNat)
   case atStart => exact ⟨0, rfl, Nat.zero_le _, Lib.hid ⟨[], none, 0, rfl, Nat.le_refl _, HB3.out, ⟨rfl, .inl ⟨rfl, rfl⟩⟩, by rw [List.drop_zero, List.drop_zero]; exact HR2.out⟩⟩
   case round =>
    obtain ⟨i, rfl, hi, HJ⟩ := hrel
    obtain ⟨D, Ad, cd, rfl, hDi, hbx, hown, hj⟩ := HJ.out
    obtain ⟨nd, hnd⟩ : ∃ z, D.length = z := ⟨_, rfl⟩
    rw [hnd] at hown hDi
    by_cases hlt : i < lo
    ·obtain ⟨o, ho⟩ : ∃ p, x.opers[i]? = some p := ⟨_, List.getElem?_eq_getElem (by rw [HLO.out]; exact hlt)⟩
     obtain ⟨y, hy⟩ : ∃ p, av[i]? = some p := ⟨_, List.getElem?_eq_getElem (by rw [HFIT.out.1, HLO.out]; exact hlt)⟩
     rw [zra m pc ho hy] at hj
     have hbw := HGR.out _ hbx
     have hOr := HO.out.kept (fun cs x hx => z1c.kept hx hbw) hbw
     obtain ⟨A', c', e1, _, _, _, hall⟩ := hOr
     obtain ⟨b, o1, cs, e2, hb, hcl, hcell, hE⟩ := hall i o ho
     obtain ⟨rfl, rfl⟩ : Ao = A' ∧ co = c' := by cases e1; exact ⟨rfl, rfl⟩
     clear e1
     subst e2
     have hE' := hE
     obtain ⟨sv, rfl, _, _, _, _, hp, _⟩ := hE
     obtain ⟨Ap, cp, rfl, _⟩ := hp
     obtain ⟨np, hnp⟩ : ∃ z, o.pieces.length = z := ⟨_, rfl⟩
     obtain ⟨nm, hnm⟩ : ∃ z, o.name = z := ⟨_, rfl⟩
     obtain ⟨kd, hkd⟩ : ∃ z : Nat, o.kind = z := ⟨_, rfl⟩
     obtain ⟨bk, hbk⟩ : ∃ z, o.bank = z := ⟨_, rfl⟩
     obtain ⟨sc, hsc⟩ : ∃ z, o.scale = z := ⟨_, rfl⟩
     obtain ⟨td, htd⟩ : ∃ z, o.tied = z := ⟨_, rfl⟩
     have p0 : wr.cell? ⟨b, o1 + i * 6, none⟩ = some (.string nm) := by rw [← hnm]; simpa using hcell 0 _ rfl
     have p1 : wr.cell? ⟨b, o1 + i * 6 + 1, none⟩ = some (.int .u8 (kd : Nat)) := by rw [← hkd]; exact hcell 1 _ rfl
     have p2 : wr.cell? ⟨b, o1 + i * 6 + 2, none⟩ = some (.int .i64 bk) := by rw [← hbk]; exact hcell 2 _ rfl
     have p3 : wr.cell? ⟨b, o1 + i * 6 + 3, none⟩ = some (.int .i64 sc) := by rw [← hsc]; exact hcell 3 _ rfl
     have p4 : wr.cell? ⟨b, o1 + i * 6 + 4, none⟩ = some (.slice Ap np cp) := by rw [← hnp]; exact hcell 4 _ rfl
     have p5 : wr.cell? ⟨b, o1 + i * 6 + 5, none⟩ = some (.int .i64 td) := by rw [← htd]; exact hcell 5 _ rfl
     obtain ⟨W3, hW3⟩ : ∃ W3, W3 = wr.alloc (.cells #[.string nm, .int .u8 (kd : Nat), .int .i64 bk, .int .i64 sc, .slice Ap np cp, .int .i64 td] 60) := ⟨_, rfl⟩
     have hb3 : Below wr.heap.size wr W3 := by rw [hW3]; exact (Below.refl _ _).alloc (Nat.le_refl _) _
     have hblk3 : W3.heap[wr.heap.size]? = some (.cells #[.string nm, .int .u8 (kd : Nat), .int .i64 bk, .int .i64 sc, .slice Ap np cp, .int .i64 td] 60) := by rw [hW3]; exact heap_alloc_new _ _
     have hb23 : Below W2.heap.size W2 W3 := hbx.trans (hb3.mono hbx.size)
     have hin2 : (i : Int) < (lo : Int) := by omega
     have hi0 : (0 : Int) ≤ (i : Int) := by omega
     have hila : (i : Int) < (la : Int) := by have := HFIT.out.1; rw [HLA.out, HLO.out] at this; omega
     have HLT := Lib.hid hlt
     have HW3 := Lib.hid hW3
     by_cases hk1 : kd = 1
     ·rw [hkd, if_pos hk1, List.nil_append] at hj
      have HREL := Lib.hid (show Below W2.heap.size W2 W3 ∧ W3.ownsRow W2.heap.size 62 3 (.slice Ad nd cd) nd (bRow D) ∧ D ++ z7f m pc (x.opers.drop (i + 1)) (av.drop (i + 1)) = R from ⟨hb23, z72 hown hb3, hj⟩)
      have HDI := Lib.hid hDi
      have HND := Lib.hid hnd
      subst hk1
      rw [show (((1 : Nat)) : Int) = 1 from rfl] at p1 HW3
      clear hj HJ hall hcell hcl hE' hb hb3 hb23 hbw hW3 ho hy hnm hkd hbk hsc htd hbx hnp hown hblk3
      rw [hnd]
      clear hnd
      go_wp2
      rw [← HW3.out]
      go_roundw
      case rel => exact ⟨i + 1, by first | rfl | go_num | (congr 1), by have := HLT.out; omega, Lib.hid ⟨D, Ad, cd, by rw [HND.out], by have := HDI.out; have := HND.out; omega, HREL.out.1, by rw [HND.out]; exact HREL.out.2.1, HREL.out.2.2⟩⟩
      case measure => simp only [intOf]; have := HLT.out; omega
     ·rw [hkd, if_neg hk1, hnm, ← List.append_assoc] at hj
      obtain ⟨c0, c1, c2, c3, c4, c5, c6, c7, c8⟩ := HQ.out _ hb23
      have hbw3 := HGR.out _ hb23
      obtain ⟨Aa', ca', e1, _, _, _, hallA⟩ := HA.out
      obtain ⟨ba, oa, csa, e2, hba, _, hcella, hEa⟩ := hallA i y hy
      obtain ⟨rfl, rfl⟩ : Aa = Aa' ∧ ca = ca' := by cases e1; exact ⟨rfl, rfl⟩
      clear e1
      subst e2
      obtain ⟨rfl, hyb⟩ := hEa
      have a0 : W3.cell? ⟨ba, oa + i, none⟩ = some (.int .i64 y) := (hbw3.cell (p := ⟨ba, oa + i, none⟩) hba).trans (by simpa using hcella 0 _ rfl)
      obtain ⟨nv, hnv⟩ : ∃ z, numR m o y pc = z := ⟨_, rfl⟩
      have hnr := fun X (hX : Below wr.heap.size wr X) => HNUM.out X _ o (z1c.kept hE' hX) (hbx.trans (hX.mono hbx.size)) y
      rw [hnm, hkd, hbk, hsc, htd, hnp, hnv] at hnr
      rw [hnv] at hj
      have hBR := zf hb3 hb3.size
      have rN := Lib.hid (fun d os => Calls.regrown_of (w := W3) (d := d) (os := os) (hnr _ (hBR d os)))
      have f0 := zb (i := 0) hblk3 rfl
      have f1 := zb (i := 1) hblk3 rfl
      have f2 := zb (i := 2) hblk3 rfl
      have f3 := zb (i := 3) hblk3 rfl
      have f4 := zb (i := 4) hblk3 rfl
      have f5 := zb (i := 5) hblk3 rfl
      have K0 := fun d os => cell_regrown f0 d os
      have K1 := fun d os => cell_regrown f1 d os
      have K2 := fun d os => cell_regrown f2 d os
      have K3 := fun d os => cell_regrown f3 d os
      have K4 := fun d os => cell_regrown f4 d os
      have K5 := fun d os => cell_regrown f5 d os
      have L0 := fun d os => cell_regrown c0 d os
      have L1 := fun d os => cell_regrown c1 d os
      have L2 := fun d os => cell_regrown c2 d os
      have L3 := fun d os => cell_regrown c3 d os
      have L4 := fun d os => cell_regrown c4 d os
      have L5 := fun d os => cell_regrown c5 d os
      have L6 := fun d os => cell_regrown c6 d os
      have L8 := fun d os => cell_regrown c8 d os
      have M0 := fun d os => cell_regrown a0 d os
      have g : (((kd : Nat) : Int) != 1) = true := by simp; omega
      have HDI := Lib.hid hDi
      have HND := Lib.hid hnd
      have HOWN := Lib.hid hown
      have HBX := Lib.hid hbx
      have HB33 := Lib.hid hb3
      have HGO := Lib.hid hj
      have HI4 := Lib.hid (show i ≤ 4 by omega)
      clear hj HJ hall hcell hcl hE' hb hb3 hb23 hbw hW3 ho hy hnm hkd hbk hsc htd hbx hnp hown hblk3 hallA hcella hba hbw3 hnv hnr hBR f0 f1 f2 f3 f4 f5 c0 c1 c2 c3 c4 c5 c6 c7 c8 a0 hk1 hyb
      rw [hnd]
      clear hnd
      go_wp2_with fail
      rw [← HW3.out]
      refine zi 14 (.slice Ad nd cd) (by kernel_rfl) (by kernel_rfl) (fun _ _ _ h => h) rfl (fun _ => rfl) ?_
      simp only [List.take_succ_cons, List.take_zero, List.drop_succ_cons, List.drop_zero]
      repeat (first | go_big_quiet_step (with_reducible exact rN.out _ _) | quiet_step (with_reducible exact rN.out _ _))
      refine wpQuiet_nil ?_
      intro X hX
      have hbX : Below W3.heap.size W3 X := by obtain ⟨p, rfl⟩ := hX; exact below_regrown _ _ _
      clear hX K0 K1 K2 K3 K4 K5 L0 L1 L2 L3 L4 L5 L6 L8 M0
      have hb9 : Below wr.heap.size wr X := HB33.out.trans (hbX.mono HB33.out.size)
      have HOX := Lib.hid (z72 HOWN.out hb9)
      have HBX9 := Lib.hid (HBX.out.trans (hb9.mono HBX.out.size))
      clear hbX hb9
      go_wp2_with (at_builtin; refine Hid.out ?_)
      refine Lib.hid ?_
      refine wpList_append_own _ rfl _ _ 51 rfl W2.heap.size 62 i0 (.agg #[.string ⟨#[]⟩, .int .i64 0, .int .u64 0]) 3 32 Tryz.underlying51 HI0.out HZ0.out HZ1.out HZ2.out rfl (by decide) _ nd (bRow D) rfl (HOX.out.alloc _) ⟨_, 0, none⟩ 1 1 [.string nm, .int .i64 (AD : Nat), .int .u64 (nv : Nat)] rfl rfl (zge _ _ _ _ _ _ rfl) (by intro u hu; simp at hu; rcases hu with rfl | rfl | rfl <;> rfl) (by have := HDI.out; have := HI4.out; unfold maxLen; omega) (by have := HDI.out; have := HI4.out; omega) (by have := HBX9.out.size; simp; omega) ?_
      intro v' w7 hown' hgrow _
      obtain ⟨g7, c7, rfl⟩ := ownsRow_succ hown'
      have hb7 : Below W2.heap.size W2 w7 := by
       have h1 := HBX9.out.alloc HBX9.out.size (.cells #[.string nm, .int .i64 (AD : Nat), .int .u64 (nv : Nat)] 62)
       exact h1.grown hgrow (by have := HBX9.out.size; simp; omega) (fun r hr => by have := HOX.out.lt r hr; omega)
      have HREL := Lib.hid (show Below W2.heap.size W2 w7 ∧ w7.ownsRow W2.heap.size 62 3 (.slice (some ⟨g7, 0, none⟩) (nd + 1) c7) (nd + 1) (bRow (D ++ [(nm, m.address, nv)])) from ⟨hb7, by rw [zcj, HAD.out]; exact hown'⟩)
      clear hown' hgrow hb7
      go_wp2
      go_roundw
      case rel => exact ⟨i + 1, by first | rfl | go_num | (congr 1), by have := HLT.out; omega, Lib.hid ⟨D ++ [(nm, m.address, nv)], some ⟨g7, 0, none⟩, c7, by rw [List.length_append, HND.out]; rfl, by rw [List.length_append]; have := HDI.out; have := HND.out; simp; omega, HREL.out.1, by rw [List.length_append, HND.out]; exact HREL.out.2, HGO.out⟩⟩
      case measure => simp only [intOf]; have := HLT.out; omega
    ·obtain rfl : i = lo := by omega
     have hd : D = R := by
      rw [← hj, List.drop_eq_nil_of_le (by rw [HLO.out]; exact Nat.le_refl _)]
      cases (av.drop i) <;> simp [z7f]
     subst hd
     obtain ⟨c0, c1, c2, _⟩ := HQ.out _ hbx
     have HOX := Lib.hid hown
     have HBX9 := Lib.hid hbx
     have HDI := Lib.hid hDi
     have HND := Lib.hid hnd
     rw [hnd]
     clear hown hbx hDi hnd hj HJ
     go_wp2_with (at_builtin; refine Hid.out ?_)
     refine Lib.hid ?_
     refine wpList_append_own _ rfl _ _ 51 rfl W2.heap.size 62 i0 (.agg #[.string ⟨#[]⟩, .int .i64 0, .int .u64 0]) 3 32 Tryz.underlying51 HI0.out HZ0.out HZ1.out HZ2.out rfl (by decide) _ nd (bRow D) rfl (HOX.out.alloc _) ⟨_, 0, none⟩ 1 1 [.string ⟨#[112, 99]⟩, .int .i64 (AD : Nat), .int .u64 (pc : Nat)] rfl rfl (zge _ _ _ _ _ _ rfl) (by intro u hu; simp at hu; rcases hu with rfl | rfl | rfl <;> rfl) (by have := HDI.out; unfold maxLen; omega) (by have := HDI.out; omega) (by have := HBX9.out.size; simp; omega) ?_
     intro v' w7 hown' hgrow _
     obtain ⟨g7, c7, rfl⟩ := ownsRow_succ hown'
     have hb7 : Below W2.heap.size W2 w7 := by
      have h1 := HBX9.out.alloc HBX9.out.size (.cells #[.string ⟨#[112, 99]⟩, .int .i64 (AD : Nat), .int .u64 (pc : Nat)] 62)
      exact h1.grown hgrow (by have := HBX9.out.size; simp; omega) (fun r hr => by have := HOX.out.lt r hr; omega)
     have hfin : w7.ownsRow w.heap.size 62 3 (.slice (some ⟨g7, 0, none⟩) (nd + 1) c7) (D ++ [(z1n, (AD : Int), pc)]).length (bRow (D ++ [(z1n, (AD : Int), pc)])) := by
      rw [List.length_append, HND.out, zcj]
      exact ztd hown' (by have := HS2.out; omega)
     have HFIN := Lib.hid (show _ ∧ Below w.heap.size w w7 from ⟨hfin, HGR.out _ hb7⟩)
     clear hown' hgrow hb7 hfin
     go_wp2
     exact bodyPost_ret (v := .tuple #[.slice (some ⟨g7, 0, none⟩) (nd + 1) c7, .int .i64 0]) (by simp [results, Tryz.results16, go_sem]) rfl ⟨_, rfl, HFIN.out.1, HFIN.out.2⟩
  ·have hve : z62 m q av pc = 24 := by unfold z62; rw [if_pos hce, if_neg (by rw [hAD, Int.toNat_natCast]; intro h; exact hok ((z2y _ _).2 h))]
   have hvl : zaf m q av pc = [] := by unfold zaf; rw [if_neg (by rw [hve]; decide)]
   rw [hve, hvl]
   rw [show okB AD pc = false by cases h : okB AD pc <;> simp_all] at HOK
   rw [hAD] at HQ HCK HW2 ⊢
   clear hb1 hs2 hm2 ho2 hW2 hcs h1 h2 h3 hR hB hU hI hA hT hef hm' hn hla hce hx hxm hallI hcelli hbi hO hlo hlo2 hc0 had hAD hok hve hvl hf hz hpc
   go_enter Tryz.func16, Tryz.ntmps16
   go_wp2_with (first
    | (go_at_call 17; (with_reducible refine HCK.out.mono ?_); rintro e w3 ⟨rfl, hb3⟩; rw [← HW2.out] at hb3; obtain ⟨c0, c1, c2, c3, c4, c5, c6, c7, c8⟩ := HQ.out _ hb3)
    | (go_at_call 30; (with_reducible refine (HOK.out _).mono ?_); rintro e w4 ⟨rfl, rfl⟩))
   exact bodyPost_ret (v := .tuple #[.slice none 0 0, .int .i64 24]) (by simp [results, Tryz.results16, go_sem]) rfl ⟨_, rfl, HNIL.out _, HGR.out _ hb3⟩
 ·have hve : z62 m z av pc = ce := by unfold z62; rw [if_neg (by rw [hce]; exact hk), hce]
  have hvl : zaf m z av pc = [] := by unfold zaf; rw [if_neg (by rw [hve]; exact hk)]
  rw [hve, hvl]
  have g : (ce != 0) = true := by simp [hk]
  clear hb1 hs2 hm2 ho2 hW2 hcs h1 h2 h3 hR hB hU hI hA hT hef hm' hn hla hce hve hvl hk hz hpc
  go_enter Tryz.func16, Tryz.ntmps16
  go_wp2_with (go_at_call 17; (with_reducible refine HCK.out.mono ?_); rintro e w3 ⟨rfl, hb3⟩; rw [← HW2.out] at hb3)
  exact bodyPost_ret (v := .tuple #[.slice none 0 0, .int .i64 ce]) (by simp [results, Tryz.results16, go_sem]) rfl ⟨_, rfl, HNIL.out _, HGR.out _ hb3⟩
end Go.Proofs.YtjjfeddenhemhaaGreatDoor
