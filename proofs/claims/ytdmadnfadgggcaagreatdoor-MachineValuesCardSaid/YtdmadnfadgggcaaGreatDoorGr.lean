import Derived.Test.YtdmadnfadgggcaaGreatDoorGq
import Derived.Test.YtdmadnfadgggcaaGreatDoorGe
import Derived.Laws.OwnMore
import Derived.OwnWalk
import Derived.Maps.AppendAt
import Derived.Test.YtdmadnfadgggcaaGreatDoorPe
import Derived.Deep.AppendLies
import Derived.Test.YtdmadnfadgggcaaGreatDoorGp
set_option linter.unusedVariables false
set_option linter.unusedSimpArgs false
set_option warningAsError false
open Go.Proofs.Tryz (prog)
namespace Go.Proofs.YtdmadnfadgggcaaGreatDoor
open Go.RowKit
theorem z8e : (prog.info? 49).map (fun i => (i.zero, i.size, i.bytes)) = some (some (.int .u64 0), 1, 8) := by kernel_rfl
theorem zbe (a b : Nat) (h : a % 18446744073709551616 = b) : IntKind.u64.wrap (a : Int) = (b : Nat) := by rw [<- h]; simp [IntKind.wrap, IntKind.bits, IntKind.signed]
def z7t (w : World) (A : Option Addr) (m size : Nat) (f : Nat -> Value) : Prop := 0 < m -> ∃ b o, A = some ⟨b, o, none⟩ /\ b < w.heap.size /\ ∀ j, j < m * size -> w.cell? ⟨b, o + j, none⟩ = some (f j)
theorem z7t.below {w w' : World} {A : Option Addr} {m size : Nat} {f : Nat -> Value} (h : z7t w A m size f) (hb : Below w.heap.size w w') : z7t w' A m size f := fun h0 => by obtain ⟨b, o, e, h1, h2⟩ := h h0;exact ⟨b, o, e, Nat.lt_of_lt_of_le h1 hb.size, fun j hj => by rw [hb.cell h1]; exact h2 j hj⟩
section
variable {P : Program} {w : World}
theorem z7c (base : Nat) (t ty e : TypeId) (i : TypeInfo) (z : Value) (size bytes : Nat) (ht : P.underlying t = some (.slice e)) (hi : P.info? e = some i) (hz : i.zero = some z)
 (hsize : i.size = size) (hby : i.bytes = bytes) (hzs : z.cells.size = size) (hsz : 0 < size)
 (v : Value) (n : Nat) (xs : List Value) (hown : w.ownsRow base e size v n xs)
 (A : Option Addr) (m c : Nat) (f : Nat -> Value) (hr : z7t w A m size f) (h1 : ∀ j, (f j).oneCell' = true)
 (h63 : n + m <= maxLen) (hbytes : (n + m) * bytes <= 140737488355328) (hbase : base <= w.heap.size) :
 ∃ v' w', (Builtin.append_ #[t, t] ty #[v, .slice A m c]).run P w = .ok v' w' /\ w'.ownsRow base e size v' (n + m) (xs ++ (List.range (m * size)).map f) /\ w.grownBy w' v.ownBlock := by
 rcases A with _ | ad
 ·have hm : m = 0 := by
   rcases Nat.eq_zero_or_pos m with h | h
   ·exact h
   ·obtain ⟨b, o, e, _⟩ := hr h; cases e
  subst hm;subst hsize;refine ⟨v, w, ?_, by simpa using hown, World.grownBy.refl w _⟩;rcases hown.2 with ⟨rfl, hn⟩ | ⟨g, cap, cur, rfl, _, _, h3, _⟩
  ·subst hn;simp [Builtin.append_, run_underlying ht, sizeOf, typeInfo, hi, Builtin.lenOf, Builtin.firstCells, storeCells]
  ·simp [Builtin.append_, run_underlying ht, sizeOf, typeInfo, hi, Builtin.lenOf, Builtin.firstCells, storeCells, h3]
 ·obtain ⟨v', w', k1, k2, k3, _⟩ := run_append_own_at (P := P) w base t ty e i z size bytes ht hi hz hsize hby hzs hsz v n xs hown ad m c ((List.range (m * size)).map f) (by simp) (fun j u hu => by
   have hj : j < m * size := by
    rcases Nat.lt_or_ge j (m * size) with h | h
    ·exact h
    ·rw [List.getElem?_eq_none (by simpa using h)] at hu; cases hu
   have h0 : 0 < m := by
    rcases Nat.eq_zero_or_pos m with h | h
    ·rw [h] at hj; simp at hj
    ·exact h
   obtain ⟨b, o, e, hb, hc⟩ := hr h0;cases e;rw [List.getElem?_map, List.getElem?_range hj] at hu;obtain rfl := Option.some.inj hu;have hadd : (⟨b, o, none⟩ : Addr).add j = ⟨b, o + j, none⟩ := by unfold Addr.add; split <;> simp_all
   rw [hadd];exact hc j hj) (fun u hu => by obtain ⟨j, _, rfl⟩ := List.mem_map.1 hu;exact h1 j) h63 hbytes hbase
  exact ⟨v', w', k1, k2, k3⟩
theorem z1v {ops : Array Oper} {rest : List Oper} {o : Oper} {a : Act} {Q : Exit -> Act -> World -> Prop} (hgd : o.guard = none) (s x : Operand) (t : TypeId)
 (ho : o.op = .call { callee := .builtin .append, args := #[s, x], argTypes := #[t, t] })
 (base : Nat) (e : TypeId) (i : TypeInfo) (z : Value) (size bytes : Nat) (ht : P.underlying t = some (.slice e)) (hi : P.info? e = some i) (hz : i.zero = some z)
 (hsize : i.size = size) (hby : i.bytes = bytes) (hzs : z.cells.size = size) (hsz : 0 < size)
 (v : Value) (n : Nat) (xs : List Value) (hs : a.eval s = v) (hown : w.ownsRow base e size v n xs)
 (A : Option Addr) (m c : Nat) (f : Nat -> Value) (hx : a.eval x = .slice A m c) (hr : z7t w A m size f) (h1 : ∀ j, (f j).oneCell' = true)
 (h63 : n + m <= maxLen) (hbytes : (n + m) * bytes <= 140737488355328) (hbase : base <= w.heap.size)
 (h : ∀ v' w', w'.ownsRow base e size v' (n + m) (xs ++ (List.range (m * size)).map f) -> w.grownBy w' v.ownBlock -> wpList P ops Q rest (a.put o.dst v') w') :
 wpList P ops Q (o :: rest) a w := by
 refine wpList_plain hgd fun K hK => ?_;obtain ⟨v', w', hr', h2, h3⟩ := z7c (P := P) (w := w) base t o.type e i z size bytes ht hi hz hsize hby hzs hsz v n xs hown A m c f hr h1 h63 hbytes hbase;unfold Oper.wp execOp;simp only [ho, resolve, invoke, builtin, Sem.run_bind, Sem.run_pure, Result.andThen_ok, List.map_toArray, List.map_cons, List.map_nil, hs, hx, hr'];exact hK _ _ (h v' w' h2 h3)
end
end Go.Proofs.YtdmadnfadgggcaaGreatDoor
namespace Go.Proofs.YtdmadnfadgggcaaGreatDoor
open Go.RowKit
set_option maxRecDepth 100000
theorem z6o {word : Int} (hw : 1 <= word /\ word <= 4) : ∀ (L : List MPiece) (t : Nat), (z1p word t L).1 = true -> z2k (8 * word) t L /\ (z1p word t L).2 = z7a t L
 | [], t, _ => ⟨trivial, rfl⟩
 | p :: L, t, h => by
   simp only [z1p] at h ⊢;by_cases hp : zv word p = true
   ·rw [if_pos hp] at h ⊢;simp only [Bool.and_eq_true, decide_eq_true_eq] at h;have hpo : pcOk (8 * word) p = true := by
     unfold zv at hp;simp only [Bool.and_eq_true, decide_eq_true_eq] at hp;exact z62.2 ⟨hp.1.1, hp.1.2, hp.2.1, hp.2.2⟩
    have hf : z4k p = pcM p := by unfold z4k pcM;exact Nat.mod_eq_of_lt (zb6 (size := 8 * word) (by omega) hpo).2
    rw [hf] at h;obtain ⟨h1, h2⟩ := z6o hw L (t ||| pcM p) h.2;rw [hf];exact ⟨⟨hpo, h.1, h1⟩, h2⟩
   ·rw [if_neg hp] at h; simp at h
def z4i (size : Int) : Nat -> List MOper -> Prop
 | _, [] => True
 | t, o :: l => z2k size t o.pieces /\ z4i size (z7a t o.pieces) l
theorem z4i.each {size : Int} : ∀ {l : List MOper} {t : Nat}, z4i size t l -> ∀ o ∈ l, z2k size 0 o.pieces /\ ∀ j, hasL o.pieces j = true -> t.testBit j = false
 | p :: l, t, h, o, ho => by
   rcases List.mem_cons.1 ho with rfl | ho
   ·exact ⟨h.1.sub fun j hj => by simp at hj, fun j hj => h.1.free j hj⟩
   ·obtain ⟨h1, h2⟩ := z4i.each h.2 o ho;refine ⟨h1, fun j hj => ?_⟩;have := h2 j hj;rw [z98] at this;cases hb : t.testBit j <;> simp_all
end Go.Proofs.YtdmadnfadgggcaaGreatDoor
