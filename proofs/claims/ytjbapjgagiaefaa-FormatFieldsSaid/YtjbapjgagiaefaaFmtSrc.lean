/- Appending a list of pieces that may be nil. -/
import Derived.Test.YtjbapjgagiaefaaFmtPut
import Derived.Deep.AppendLies
import Derived.OwnWalk
import Derived.Maps.AppendAt
import Derived.Laws.OwnMore
namespace Go.Proofs.Ytjbapjgagiaefaa
open Go.RowKit Go.Instr
set_option linter.unusedVariables false
set_option linter.unusedSimpArgs false

section
variable {P : Program} {w : World}
/-- m elements of size cells each, the cells f, lie behind a slice's address. -/
def SrcAt (w : World) (A : Option Addr) (m size : Nat) (f : Nat → Value) : Prop := 0 < m → ∃ b o, A = some ⟨b, o, none⟩ ∧ b < w.heap.size ∧ ∀ j, j < m * size → w.cell? ⟨b, o + j, none⟩ = some (f j)
theorem SrcAt.below {w w' : World} {A : Option Addr} {m size : Nat} {f : Nat → Value} (h : SrcAt w A m size f) (hb : Below w.heap.size w w') : SrcAt w' A m size f := fun h0 => by
  obtain ⟨b, o, e, h1, h2⟩ := h h0
  exact ⟨b, o, e, Nat.lt_of_lt_of_le h1 hb.size, fun j hj => by rw [hb.cell h1]; exact h2 j hj⟩
/-- The append of a list that may be empty, and then nil, onto a row of the call's own. -/
theorem run_append_src (base : Nat) (t ty e : TypeId) (i : TypeInfo) (z : Value) (size bytes : Nat) (ht : P.underlying t = some (.slice e)) (hi : P.info? e = some i) (hz : i.zero = some z)
    (hsize : i.size = size) (hby : i.bytes = bytes) (hzs : z.cells.size = size) (hsz : 0 < size)
    (v : Value) (n : Nat) (xs : List Value) (hown : w.ownsRow base e size v n xs)
    (A : Option Addr) (m c : Nat) (f : Nat → Value) (hr : SrcAt w A m size f) (h1 : ∀ j, (f j).oneCell' = true)
    (h63 : n + m ≤ maxLen) (hbytes : (n + m) * bytes ≤ 140737488355328) (hbase : base ≤ w.heap.size) :
    ∃ v' w', (Builtin.append_ #[t, t] ty #[v, .slice A m c]).run P w = .ok v' w' ∧ w'.ownsRow base e size v' (n + m) (xs ++ (List.range (m * size)).map f) ∧ w.grownBy w' v.ownBlock := by
  rcases A with _ | ad
  · have hm : m = 0 := by
      rcases Nat.eq_zero_or_pos m with h | h
      · exact h
      · obtain ⟨b, o, e, _⟩ := hr h; cases e
    subst hm
    subst hsize
    refine ⟨v, w, ?_, by simpa using hown, World.grownBy.refl w _⟩
    rcases hown.2 with ⟨rfl, hn⟩ | ⟨g, cap, cur, rfl, _, _, h3, _⟩
    · subst hn
      simp [Builtin.append_, run_underlying ht, sizeOf, typeInfo, hi, Builtin.lenOf, Builtin.firstCells, storeCells]
    · simp [Builtin.append_, run_underlying ht, sizeOf, typeInfo, hi, Builtin.lenOf, Builtin.firstCells, storeCells, h3]
  · obtain ⟨v', w', k1, k2, k3, _⟩ := run_append_own_at (P := P) w base t ty e i z size bytes ht hi hz hsize hby hzs hsz v n xs hown ad m c ((List.range (m * size)).map f) (by simp) (fun j u hu => by
      have hj : j < m * size := by
        rcases Nat.lt_or_ge j (m * size) with h | h
        · exact h
        · rw [List.getElem?_eq_none (by simpa using h)] at hu; cases hu
      have h0 : 0 < m := by
        rcases Nat.eq_zero_or_pos m with h | h
        · rw [h] at hj; simp at hj
        · exact h
      obtain ⟨b, o, e, hb, hc⟩ := hr h0
      cases e
      rw [List.getElem?_map, List.getElem?_range hj] at hu
      obtain rfl := Option.some.inj hu
      have hadd : (⟨b, o, none⟩ : Addr).add j = ⟨b, o + j, none⟩ := by unfold Addr.add; split <;> simp_all
      rw [hadd]
      exact hc j hj) (fun u hu => by
        obtain ⟨j, _, rfl⟩ := List.mem_map.1 hu
        exact h1 j) h63 hbytes hbase
    exact ⟨v', w', k1, k2, k3⟩

theorem wpList_append_src {ops : Array Oper} {rest : List Oper} {o : Oper} {a : Act} {Q : Exit → Act → World → Prop} (hgd : o.guard = none) (s x : Operand) (t : TypeId)
    (ho : o.op = .call { callee := .builtin .append, args := #[s, x], argTypes := #[t, t] })
    (base : Nat) (e : TypeId) (i : TypeInfo) (z : Value) (size bytes : Nat) (ht : P.underlying t = some (.slice e)) (hi : P.info? e = some i) (hz : i.zero = some z)
    (hsize : i.size = size) (hby : i.bytes = bytes) (hzs : z.cells.size = size) (hsz : 0 < size)
    (v : Value) (n : Nat) (xs : List Value) (hs : a.eval s = v) (hown : w.ownsRow base e size v n xs)
    (A : Option Addr) (m c : Nat) (f : Nat → Value) (hx : a.eval x = .slice A m c) (hr : SrcAt w A m size f) (h1 : ∀ j, (f j).oneCell' = true)
    (h63 : n + m ≤ maxLen) (hbytes : (n + m) * bytes ≤ 140737488355328) (hbase : base ≤ w.heap.size)
    (h : ∀ v' w', w'.ownsRow base e size v' (n + m) (xs ++ (List.range (m * size)).map f) → w.grownBy w' v.ownBlock → wpList P ops Q rest (a.put o.dst v') w') :
    wpList P ops Q (o :: rest) a w := by
  refine wpList_plain hgd fun K hK => ?_
  obtain ⟨v', w', hr', h2, h3⟩ := run_append_src (P := P) (w := w) base t o.type e i z size bytes ht hi hz hsize hby hzs hsz v n xs hown A m c f hr h1 h63 hbytes hbase
  unfold Oper.wp execOp
  simp only [ho, resolve, invoke, builtin, Sem.run_bind, Sem.run_pure, Result.andThen_ok, List.map_toArray, List.map_cons, List.map_nil, hs, hx, hr']
  exact hK _ _ (h v' w' h2 h3)
end

theorem range_get (l : List Value) (d : Value) : (List.range l.length).map (fun j => l.getD j d) = l := by
  apply List.ext_getElem?
  intro i
  rcases Nat.lt_or_ge i l.length with h | h
  · rw [List.getElem?_map, List.getElem?_range h]; simp [List.getElem?_eq_getElem h]
  · rw [List.getElem?_eq_none (by simpa using h), List.getElem?_eq_none h]
/-- The cells of pieces. -/
def pcC (x : MPiece) : List Value := [.int .i64 x.pos, .int .i64 x.len]
def pcRow (L : List MPiece) : List Value := L.flatMap pcC
theorem pcRow_len : ∀ L : List MPiece, (pcRow L).length = L.length * 2
  | [] => rfl
  | y :: L => by
    have e : pcRow (y :: L) = pcC y ++ pcRow L := rfl
    rw [e, List.length_append, pcRow_len L]; simp [pcC]; omega
theorem pcRow_app (L M : List MPiece) : pcRow (L ++ M) = pcRow L ++ pcRow M := by simp [pcRow]
theorem pcRow_get : ∀ (L : List MPiece) (i : Nat) (x : MPiece), L[i]? = some x → (pcRow L)[i * 2]? = some (.int .i64 x.pos) ∧ (pcRow L)[i * 2 + 1]? = some (.int .i64 x.len)
  | y :: L, 0, x, h => by simp at h; subst h; exact ⟨rfl, rfl⟩
  | y :: L, i + 1, x, h => by
    have ih := pcRow_get L i x (by simpa using h)
    have e : pcRow (y :: L) = (.int .i64 y.pos) :: (.int .i64 y.len) :: pcRow L := rfl
    rw [e, show (i + 1) * 2 = i * 2 + 1 + 1 by omega]
    simpa using ih
theorem pcRow_one : ∀ (L : List MPiece) (u : Value), u ∈ pcRow L → u.oneCell' = true
  | [], u, h => by simp [pcRow] at h
  | y :: L, u, h => by
    have e : pcRow (y :: L) = pcC y ++ pcRow L := rfl
    rw [e] at h
    rcases List.mem_append.1 h with h | h
    · simp [pcC] at h; rcases h with rfl | rfl <;> rfl
    · exact pcRow_one L u h
def pcF (L : List MPiece) (j : Nat) : Value := (pcRow L).getD j (.int .u8 0)
theorem pcF_one (L : List MPiece) (j : Nat) : (pcF L j).oneCell' = true := by
  unfold pcF
  rcases Nat.lt_or_ge j (pcRow L).length with h | h
  · rw [List.getD_eq_getElem?_getD, List.getElem?_eq_getElem h]; exact pcRow_one L _ (List.getElem_mem h)
  · rw [List.getD_eq_getElem?_getD, List.getElem?_eq_none h]; rfl
theorem pcF_all (L : List MPiece) : (List.range (L.length * 2)).map (pcF L) = pcRow L := by
  rw [← pcRow_len]; exact range_get _ _
/-- Pieces in memory are a source. -/
theorem srcAt_pcs {w : World} {A : Option Addr} {L : List MPiece} (h : PcsAt w A L) : SrcAt w A L.length 2 (pcF L) := fun h0 => by
  obtain ⟨x0, hx0⟩ : ∃ x, L[0]? = some x := ⟨_, List.getElem?_eq_getElem h0⟩
  obtain ⟨g, o, rfl, hg, _, _⟩ := h 0 x0 hx0
  refine ⟨g, o, rfl, hg, fun j hj => ?_⟩
  obtain ⟨x, hx⟩ : ∃ x, L[j / 2]? = some x := ⟨_, List.getElem?_eq_getElem (by omega)⟩
  obtain ⟨g', o', e, _, c0, c1⟩ := h (j / 2) x hx
  cases e
  obtain ⟨r0, r1⟩ := pcRow_get L _ x hx
  unfold pcF
  rw [List.getD_eq_getElem?_getD]
  rcases Nat.mod_two_eq_zero_or_one j with m | m
  · have ej : j = j / 2 * 2 := by omega
    rw [ej, r0, c0]; rfl
  · have ej : j = j / 2 * 2 + 1 := by omega
    rw [ej, r1, ← Nat.add_assoc, c1]; rfl
/-- A part of a list. -/
theorem PcsAt.part {w : World} {b o : Nat} {L : List MPiece} (h : PcsAt w (some ⟨b, o, none⟩) L) (k m : Nat) : PcsAt w (some ⟨b, o + k * 2, none⟩) ((L.drop k).take m) := by
  intro i x hx
  rw [List.getElem?_take] at hx
  split at hx
  · rw [List.getElem?_drop] at hx
    obtain ⟨g, o', e, hg, c0, c1⟩ := h (k + i) x hx
    cases e
    exact ⟨b, o + k * 2, rfl, hg, by rw [show o + k * 2 + i * 2 = o + (k + i) * 2 by omega]; exact c0, by rw [show o + k * 2 + i * 2 + 1 = o + (k + i) * 2 + 1 by omega]; exact c1⟩
  · cases hx
theorem pcsAt_own {w : World} {B g cap : Nat} {L : List MPiece} (h : w.ownsRow B 33 2 (.slice (some ⟨g, 0, none⟩) L.length cap) L.length (pcRow L)) : PcsAt w (some ⟨g, 0, none⟩) L := by
  intro i x hx
  have hlt := (List.getElem?_eq_some_iff.1 hx).1
  obtain ⟨r0, r1⟩ := pcRow_get L i x hx
  have hg : g < w.heap.size := by
    rcases h.2 with ⟨e, _⟩ | ⟨g', cap', cur, e, _, hh, _⟩
    · cases e
    · cases e; exact (Array.getElem?_eq_some_iff.1 hh).1
  refine ⟨g, 0, rfl, hg, ?_, ?_⟩
  · rw [Nat.zero_add]; exact (h.cellAt (i * 2) (by omega)).trans r0
  · rw [Nat.zero_add]; exact (h.cellAt (i * 2 + 1) (by omega)).trans r1
theorem pc_own_ge {w : World} {B n : Nat} {v : Value} {xs : List Value} (h : w.ownsRow B 33 2 v n xs) : ∀ k, v.ownBlock = some k → B ≤ k := by
  rcases h.2 with ⟨rfl, _⟩ | ⟨g, cap, cur, rfl, hg, _⟩
  · intro k hk; cases hk
  · intro k hk; cases hk; exact hg
theorem grown_below {a b : World} {row : Option Nat} (h : Below a.heap.size a b) : a.grownBy b row :=
  ⟨h.os, h.tape, h.output, h.size, fun i hi _ => h.block i hi⟩
theorem pc_own_keep {w w' : World} {B n : Nat} {v : Value} {xs : List Value} (h : w.ownsRow B 33 2 v n xs) (hb : Below w.heap.size w w') : w'.ownsRow B 33 2 v n xs :=
  h.kept (grown_below (row := none) hb) (by by_cases e : v.ownBlock = none; exact .inl e; exact .inr e)
theorem pc_info : (Try.prog.info? 33).map (fun i => (i.zero, i.size, i.bytes)) = some (some (.agg #[.int .i64 0, .int .i64 0]), 2, 16) := by kernel_rfl
end Go.Proofs.Ytjbapjgagiaefaa
