/- An append onto a new empty slice: a copy of what came in, whatever lies there (nil, empty or not). -/
import Derived.Test.YtmbogdimjbhbmaaBitsBase
import Derived.Deep.AppendLies
import Derived.OwnWalk
namespace Go.Proofs.Ytmbogdimjbhbmaa
open Go.RowKit
set_option linter.unusedVariables false

/-- m elements of size cells each, the cells f, lie behind a slice's address. -/
def SrcAt (w : World) (A : Option Addr) (m size : Nat) (f : Nat → Value) : Prop := 0 < m → ∃ b o, A = some ⟨b, o, none⟩ ∧ b < w.heap.size ∧ ∀ j, j < m * size → w.cell? ⟨b, o + j, none⟩ = some (f j)
/-- The same at the head of a block from lo on. -/
def RowAt (w : World) (lo : Nat) (A : Option Addr) (m size : Nat) (f : Nat → Value) : Prop := 0 < m → ∃ g, A = some ⟨g, 0, none⟩ ∧ lo ≤ g ∧ g < w.heap.size ∧ ∀ j, j < m * size → w.cell? ⟨g, j, none⟩ = some (f j)
theorem SrcAt.below {w w' : World} {A : Option Addr} {m size : Nat} {f : Nat → Value} (h : SrcAt w A m size f) (hb : Below w.heap.size w w') : SrcAt w' A m size f := fun h0 => by
  obtain ⟨b, o, e, h1, h2⟩ := h h0
  exact ⟨b, o, e, Nat.lt_of_lt_of_le h1 hb.size, fun j hj => by rw [hb.cell h1]; exact h2 j hj⟩
theorem RowAt.below {w w' : World} {lo : Nat} {A : Option Addr} {m size : Nat} {f : Nat → Value} (h : RowAt w lo A m size f) (hb : Below w.heap.size w w') : RowAt w' lo A m size f := fun h0 => by
  obtain ⟨g, e, hl, h1, h2⟩ := h h0
  exact ⟨g, e, hl, Nat.lt_of_lt_of_le h1 hb.size, fun j hj => by rw [hb.cell h1]; exact h2 j hj⟩
theorem RowAt.mono {w : World} {lo lo' : Nat} {A : Option Addr} {m size : Nat} {f : Nat → Value} (h : RowAt w lo A m size f) (hl : lo' ≤ lo) : RowAt w lo' A m size f := fun h0 => by
  obtain ⟨g, e, h0, h1, h2⟩ := h h0
  exact ⟨g, e, Nat.le_trans hl h0, h1, h2⟩
theorem RowAt.setCell {w : World} {lo : Nat} {A : Option Addr} {m size : Nat} {f : Nat → Value} (h : RowAt w lo A m size f) {p : Addr} (hp : p.block < lo) (u : Value) : RowAt (w.setCell p u) lo A m size f := fun h0 => by
  obtain ⟨g, e, hl, h1, h2⟩ := h h0
  exact ⟨g, e, hl, by simpa [World.setCell] using h1, fun j hj => by rw [World.cell?_setCell_other _ _ _ _ (fun e => by subst e; simp at hp; omega)]; exact h2 j hj⟩

section
variable {P : Program} (w : World)
theorem run_append_copy (t ty e : TypeId) (i : TypeInfo) (z : Value) (size bytes : Nat) (ht : P.underlying t = some (.slice e)) (hi : P.info? e = some i) (hz : i.zero = some z)
    (hsize : i.size = size) (hby : i.bytes = bytes) (hzs : z.cells.size = size) (hsz : 0 < size) (g : Nat) (A : Option Addr) (m c : Nat) (f : Nat → Value) (hr : SrcAt w A m size f)
    (h63 : m ≤ maxLen) (hbytes : m * bytes ≤ 140737488355328) :
    ∃ A' c' w', (Builtin.append_ #[t, t] ty #[.slice (some ⟨g, 0, none⟩) 0 0, .slice A m c]).run P w = .ok (.slice A' m c') w' ∧ RowAt w' w.heap.size A' m size f ∧ Below w.heap.size w w' := by
  subst hsize
  subst hby
  rcases Nat.eq_zero_or_pos m with h0 | h0
  · subst h0
    refine ⟨some ⟨g, 0, none⟩, 0, w, ?_, fun h => absurd h (by omega), Below.refl _ _⟩
    rcases A with _ | ad
    · simp [Builtin.append_, run_underlying ht, sizeOf, typeInfo, hi, Builtin.lenOf, Builtin.firstCells, storeCells]
    · simp [Builtin.append_, run_underlying ht, sizeOf, typeInfo, hi, Builtin.lenOf, Builtin.firstCells, storeCells, loadCells, loadCellsFrom]
  · obtain ⟨b, o, rfl, hb, hc⟩ := hr h0
    have hl : ((List.range (m * i.size)).map f).length = m * i.size := by simp
    have hnews : ∀ j u, ((List.range (m * i.size)).map f)[j]? = some u → w.cell? ((⟨b, o, none⟩ : Addr).add j) = some u := fun j u hu => by
      have hj : j < m * i.size := by
        rcases Nat.lt_or_ge j (m * i.size) with h | h
        · exact h
        · rw [List.getElem?_eq_none (by rw [hl]; exact h)] at hu; cases hu
      rw [List.getElem?_map, List.getElem?_range hj] at hu
      obtain rfl := Option.some.inj hu
      have hadd : (⟨b, o, none⟩ : Addr).add j = ⟨b, o + j, none⟩ := by unfold Addr.add; split <;> simp_all
      rw [hadd]
      exact hc j hj
    have h := run_append_grow (P := P) w t ty e i z ht hi hz ⟨g, 0, none⟩ 0 0 [] (by simp) (fun j v h => by simp at h) ⟨b, o, none⟩ m c _ hl hnews (by omega) (by simp only [maxLen] at h63; omega) (growslice_fits (by omega) (by simpa using hbytes))
    simp only [Nat.zero_add] at h
    refine ⟨_, _, _, h, fun _ => ⟨w.heap.size, rfl, Nat.le_refl _, by simp, fun j hj => ?_⟩, (Below.refl w.heap.size w).drew.alloc (Nat.le_refl _) _⟩
    refine (cell_of_row _ w.heap.size j _ _ _ (heap_alloc_new w.drew _)).trans ?_
    simp [Array.getElem?_append, hj]

theorem wp_append_copy {o : Oper} {a : Act} {K : Act → World → Prop} {Q : Exit → Act → World → Prop} (s x : Operand) (t : TypeId)
    (ho : o.op = .call { callee := .builtin .append, args := #[s, x], argTypes := #[t, t] })
    (e : TypeId) (i : TypeInfo) (z : Value) (size bytes : Nat) (ht : P.underlying t = some (.slice e)) (hi : P.info? e = some i) (hz : i.zero = some z)
    (hsize : i.size = size) (hby : i.bytes = bytes) (hzs : z.cells.size = size) (hsz : 0 < size) (g : Nat) (hs : a.eval s = .slice (some ⟨g, 0, none⟩) 0 0)
    (A : Option Addr) (m c : Nat) (f : Nat → Value) (hx : a.eval x = .slice A m c) (hr : SrcAt w A m size f)
    (h63 : m ≤ maxLen) (hbytes : m * bytes ≤ 140737488355328)
    (h : ∀ A' c' w', RowAt w' w.heap.size A' m size f → Below w.heap.size w w' → K (a.put o.dst (.slice A' m c')) w') : o.wp P a w K Q := by
  obtain ⟨A', c', w', hrun, h2, h3⟩ := run_append_copy (P := P) w t o.type e i z size bytes ht hi hz hsize hby hzs hsz g A m c f hr h63 hbytes
  unfold Oper.wp execOp
  simp only [ho, resolve, invoke, builtin, Sem.run_bind, Sem.run_pure, Result.andThen_ok, List.map_toArray, List.map_cons, List.map_nil, hs, hx, hrun]
  exact h A' c' w' h2 h3

theorem step_append_copy {ops : Array Oper} {o : Oper} {a : Act} {K : Act → World → Prop} {Q : Exit → Act → World → Prop} {E : Prop} (hgd : o.guard = none) (s x : Operand) (t : TypeId)
    (ho : o.op = .call { callee := .builtin .append, args := #[s, x], argTypes := #[t, t] })
    (e : TypeId) (i : TypeInfo) (z : Value) (size bytes : Nat) (ht : P.underlying t = some (.slice e)) (hi : P.info? e = some i) (hz : i.zero = some z)
    (hsize : i.size = size) (hby : i.bytes = bytes) (hzs : z.cells.size = size) (hsz : 0 < size) (g : Nat) (hs : a.eval s = .slice (some ⟨g, 0, none⟩) 0 0)
    (A : Option Addr) (m c : Nat) (f : Nat → Value) (hx : a.eval x = .slice A m c) (hr : SrcAt w A m size f)
    (h63 : m ≤ maxLen) (hbytes : m * bytes ≤ 140737488355328)
    (h : ∀ A' c' w', RowAt w' w.heap.size A' m size f → Below w.heap.size w w' → K (a.put o.dst (.slice A' m c')) w') :
    if Region.wanted o (yielded ops a.tmps) = true then Oper.wp P o a w K Q else E := by
  have hw : Region.wanted o (yielded ops a.tmps) = true := by simp [Region.wanted, hgd]
  rw [if_pos hw]
  exact wp_append_copy w s x t ho e i z size bytes ht hi hz hsize hby hzs hsz g hs A m c f hx hr h63 hbytes h
end
end Go.Proofs.Ytmbogdimjbhbmaa
