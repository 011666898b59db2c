/- Appending a list of tokens that may be nil. -/
import Derived.Test.YtmehigmomhiaeaaDoorLexCov
import Derived.Deep.AppendLies
import Derived.OwnWalk
import Derived.Maps.AppendAt
import Derived.Laws.OwnMore
namespace Go.Proofs.YtmehigmomhiaeaaDoor
open Go.RowKit
set_option linter.unusedVariables false
set_option linter.unusedSimpArgs false

/-- m elements of size cells each, the cells f, lie behind a slice's address. -/
def SrcAt (w : World) (A : Option Addr) (m size : Nat) (f : Nat → Value) : Prop := 0 < m → ∃ b o, A = some ⟨b, o, none⟩ ∧ b < w.heap.size ∧ ∀ j, j < m * size → w.cell? ⟨b, o + j, none⟩ = some (f j)
theorem SrcAt.below {w w' : World} {A : Option Addr} {m size : Nat} {f : Nat → Value} (h : SrcAt w A m size f) (hb : Below w.heap.size w w') : SrcAt w' A m size f := fun h0 => by
  obtain ⟨b, o, e, h1, h2⟩ := h h0
  exact ⟨b, o, e, Nat.lt_of_lt_of_le h1 hb.size, fun j hj => by rw [hb.cell h1]; exact h2 j hj⟩
section
variable {P : Program} {w : World}
/-- The append of a list that may be empty, and then nil, onto a row of the call's own. -/
theorem run_append_src (base : Nat) (t ty e : TypeId) (i : TypeInfo) (z : Value) (size bytes : Nat) (ht : P.underlying t = some (.slice e)) (hi : P.info? e = some i) (hz : i.zero = some z)
    (hsize : i.size = size) (hby : i.bytes = bytes) (hzs : z.cells.size = size) (hsz : 0 < size)
    (v : Value) (n : Nat) (xs : List Value) (hown : w.ownsRow base e size v n xs)
    (A : Option Addr) (m c : Nat) (f : Nat → Value) (hr : SrcAt w A m size f) (h1 : ∀ j, (f j).oneCell' = true)
    (h63 : n + m ≤ maxLen) (hbytes : (n + m) * bytes ≤ 140737488355328) (hbase : base ≤ w.heap.size) :
    ∃ v' w', (Builtin.append_ #[t, t] ty #[v, .slice A m c]).run P w = .ok v' w' ∧ w'.ownsRow base e size v' (n + m) (xs ++ (List.range (m * size)).map f) ∧ w.grownBy w' v.ownBlock := by
  rcases A with _ | ad
  · have hm : m = 0 := by
      rcases Nat.eq_zero_or_pos m with h | h
      · exact h
      · obtain ⟨b, o, e, _⟩ := hr h; cases e
    subst hm
    subst hsize
    refine ⟨v, w, ?_, by simpa using hown, World.grownBy.refl w _⟩
    rcases hown.2 with ⟨rfl, hn⟩ | ⟨g, cap, cur, rfl, _, _, h3, _⟩
    · subst hn
      simp [Builtin.append_, run_underlying ht, sizeOf, typeInfo, hi, Builtin.lenOf, Builtin.firstCells, storeCells]
    · simp [Builtin.append_, run_underlying ht, sizeOf, typeInfo, hi, Builtin.lenOf, Builtin.firstCells, storeCells, h3]
  · obtain ⟨v', w', k1, k2, k3, _⟩ := run_append_own_at (P := P) w base t ty e i z size bytes ht hi hz hsize hby hzs hsz v n xs hown ad m c ((List.range (m * size)).map f) (by simp) (fun j u hu => by
      have hj : j < m * size := by
        rcases Nat.lt_or_ge j (m * size) with h | h
        · exact h
        · rw [List.getElem?_eq_none (by simpa using h)] at hu; cases hu
      have h0 : 0 < m := by
        rcases Nat.eq_zero_or_pos m with h | h
        · rw [h] at hj; simp at hj
        · exact h
      obtain ⟨b, o, e, hb, hc⟩ := hr h0
      cases e
      rw [List.getElem?_map, List.getElem?_range hj] at hu
      obtain rfl := Option.some.inj hu
      have hadd : (⟨b, o, none⟩ : Addr).add j = ⟨b, o + j, none⟩ := by unfold Addr.add; split <;> simp_all
      rw [hadd]
      exact hc j hj) (fun u hu => by
        obtain ⟨j, _, rfl⟩ := List.mem_map.1 hu
        exact h1 j) h63 hbytes hbase
    exact ⟨v', w', k1, k2, k3⟩

theorem wpList_append_src {ops : Array Oper} {rest : List Oper} {o : Oper} {a : Act} {Q : Exit → Act → World → Prop} (hgd : o.guard = none) (s x : Operand) (t : TypeId)
    (ho : o.op = .call { callee := .builtin .append, args := #[s, x], argTypes := #[t, t] })
    (base : Nat) (e : TypeId) (i : TypeInfo) (z : Value) (size bytes : Nat) (ht : P.underlying t = some (.slice e)) (hi : P.info? e = some i) (hz : i.zero = some z)
    (hsize : i.size = size) (hby : i.bytes = bytes) (hzs : z.cells.size = size) (hsz : 0 < size)
    (v : Value) (n : Nat) (xs : List Value) (hs : a.eval s = v) (hown : w.ownsRow base e size v n xs)
    (A : Option Addr) (m c : Nat) (f : Nat → Value) (hx : a.eval x = .slice A m c) (hr : SrcAt w A m size f) (h1 : ∀ j, (f j).oneCell' = true)
    (h63 : n + m ≤ maxLen) (hbytes : (n + m) * bytes ≤ 140737488355328) (hbase : base ≤ w.heap.size)
    (h : ∀ v' w', w'.ownsRow base e size v' (n + m) (xs ++ (List.range (m * size)).map f) → w.grownBy w' v.ownBlock → wpList P ops Q rest (a.put o.dst v') w') :
    wpList P ops Q (o :: rest) a w := by
  refine wpList_plain hgd fun K hK => ?_
  obtain ⟨v', w', hr', h2, h3⟩ := run_append_src (P := P) (w := w) base t o.type e i z size bytes ht hi hz hsize hby hzs hsz v n xs hown A m c f hr h1 h63 hbytes hbase
  unfold Oper.wp execOp
  simp only [ho, resolve, invoke, builtin, Sem.run_bind, Sem.run_pure, Result.andThen_ok, List.map_toArray, List.map_cons, List.map_nil, hs, hx, hr']
  exact hK _ _ (h v' w' h2 h3)
end

theorem range_get (l : List Value) (d : Value) : (List.range l.length).map (fun j => l.getD j d) = l := by
  apply List.ext_getElem?
  intro i
  rcases Nat.lt_or_ge i l.length with h | h
  · rw [List.getElem?_map, List.getElem?_range h]; simp [List.getElem?_eq_getElem h]
  · rw [List.getElem?_eq_none (by simpa using h), List.getElem?_eq_none h]
theorem tkRow_len : ∀ L : List (Tk × Nat), (tkRow L).length = L.length * 4
  | [] => rfl
  | y :: L => by
    have e : tkRow (y :: L) = tkC y ++ tkRow L := rfl
    rw [e, List.length_append, tkRow_len L]; simp [tkC]; omega
theorem tkRow_one : ∀ (L : List (Tk × Nat)) (u : Value), u ∈ tkRow L → u.oneCell' = true
  | [], u, h => by simp [tkRow] at h
  | y :: L, u, h => by
    have e : tkRow (y :: L) = tkC y ++ tkRow L := rfl
    rw [e] at h
    rcases List.mem_append.1 h with h | h
    · simp [tkC] at h; rcases h with rfl | rfl | rfl | rfl <;> rfl
    · exact tkRow_one L u h
def tkF (L : List (Tk × Nat)) (j : Nat) : Value := (tkRow L).getD j (.int .u8 0)
theorem tkF_one (L : List (Tk × Nat)) (j : Nat) : (tkF L j).oneCell' = true := by
  unfold tkF
  rcases Nat.lt_or_ge j (tkRow L).length with h | h
  · rw [List.getD_eq_getElem?_getD, List.getElem?_eq_getElem h]; exact tkRow_one L _ (List.getElem_mem h)
  · rw [List.getD_eq_getElem?_getD, List.getElem?_eq_none h]; rfl
theorem tkF_all (L : List (Tk × Nat)) : (List.range (L.length * 4)).map (tkF L) = tkRow L := by
  rw [← tkRow_len]; exact range_get _ _
theorem srcAt_of {w : World} {B : Nat} {A : Option Addr} {c : Nat} {L : List (Tk × Nat)} (h : w.ownsRow B 33 4 (.slice A L.length c) L.length (tkRow L)) : SrcAt w A L.length 4 (tkF L) := fun h0 => by
  rcases h.2 with ⟨e, hn⟩ | ⟨g, cap, cur, e, hg, hh, r⟩
  · omega
  · cases e
    refine ⟨g, 0, rfl, lt_of_block hh, fun j hj => ?_⟩
    rw [Nat.zero_add]
    refine (h.cellAt j (by omega)).trans ?_
    unfold tkF
    rw [List.getD_eq_getElem?_getD, List.getElem?_eq_getElem (by rw [tkRow_len]; exact hj)]; rfl
end Go.Proofs.YtmehigmomhiaeaaDoor
