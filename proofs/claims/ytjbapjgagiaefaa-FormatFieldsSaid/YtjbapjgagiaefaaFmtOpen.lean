/- A list of pieces that came in, read as plain values. -/
import Derived.Test.YtjbapjgagiaefaaBitsBase
import Derived.Deep.Slices
import Derived.Deep.SlicePairs
import Derived.RowKit
namespace Go.Proofs.Ytjbapjgagiaefaa
open Go.RowKit Go.ChangeShapes Go.WideShapes Go.Deep
set_option linter.unusedVariables false
set_option linter.unusedSimpArgs false
set_option maxRecDepth 100000

structure MPiece where
  pos : Int
  len : Int
/-- A slice whose elements, of n cells each, are read by E. -/
def RowsAt {α : Type} (n : Nat) (E : World → List Value → α → Prop) (w : World) (v : Value) (L : List α) : Prop :=
  ∃ (A : Option Addr) (c : Nat), v = .slice A L.length c ∧ L.length ≤ maxLen ∧ L.length ≤ c ∧ c ≤ maxLen ∧
    ∀ (i : Nat) (x : α), L[i]? = some x → ∃ b o cs, A = some ⟨b, o, none⟩ ∧ b < w.heap.size ∧ cs.length = n ∧ (∀ (j : Nat) (u : Value), cs[j]? = some u → w.cell? ⟨b, o + i * n + j, none⟩ = some u) ∧ E w cs x
/-- The cells of a api.MachPiece. -/
def pieceE (w : World) (cs : List Value) (x : MPiece) : Prop := cs = [.int .i64 x.pos, .int .i64 x.len] ∧ (-9223372036854775808 ≤ x.pos ∧ x.pos ≤ 9223372036854775807) ∧ (-9223372036854775808 ≤ x.len ∧ x.len ≤ 9223372036854775807)
variable {H : Type} {enc : TypeId × Value → H} {W : World}
theorem cell_lt {W : World} {a : Addr} {v : Value} (h : W.cell? a = some v) : a.block < W.heap.size := Nat.lt_of_not_le fun hle => by
  have hn : W.heap[a.block]? = none := by simp [hle]
  simp [World.cell?, hn] at h

theorem spot_none {a : Addr} {v : Value} {i : Nat} (hi : i = 0) (h : W.cell? (a.add i) = some v) : ∃ b o, a = ⟨b, o, none⟩ := by
  subst hi
  obtain ⟨b, o, spot⟩ := a
  obtain rfl : spot = none := by simpa [Addr.add] using World.cell?_spot h
  exact ⟨b, o, rfl⟩
theorem i64_of {n : Int} (h : (Lit.int .i64 n).wf = true) : -9223372036854775808 ≤ n ∧ n ≤ 9223372036854775807 := by
  simp [Lit.wf, IntKind.min, IntKind.max, IntKind.bits, IntKind.signed] at h
  exact ⟨h.1, by omega⟩
/-- Rows that came in, out of the reading of one element. -/
theorem open_rows {α : Type} [Inhabited α] {sl el : TypeId} {n : Nat} {E : World → List Value → α → Prop} (hsl : Try.prog.underlying sl = some (.slice el)) (hn : Try.prog.cellsOf el = n) (hpos : 0 < n)
    (hE : ∀ {fuel : Nat} {cs : List Value} {y : DataW H × List MemPlace}, DataW.trod enc Try.prog W 0 (fun _ => true) true fuel el cs = some y → ∃ x, E W cs x)
    {fuel : Nat} {v : Value} {y : DataW H × List MemPlace} (h : DataW.trod enc Try.prog W 0 (fun _ => true) true fuel sl [v] = some y) : ∃ L : List α, RowsAt n E W v L := by
  rcases open_slice hsl h with ⟨h1, _⟩ | ⟨a, len0, cap0, m, k, DD, Pl, h1, hb, hl, hm, hmm, _, hx⟩
  · simp only [List.cons.injEq, and_true] at h1
    exact ⟨[], none, 0, h1, by simp, by simp, by simp, fun i x hx => by simp at hx⟩
  · simp only [List.cons.injEq, and_true] at h1
    simp only [if_true] at hmm
    have each : ∀ i, i < len0 → ∃ q : List Value × α, W.cells? 0 (a.add (i * n)) n = some q.1 ∧ E W q.1 q.2 := by
      intro i hi
      obtain ⟨cs', h2, h3⟩ := hx i (by omega)
      rw [hn] at h2
      obtain ⟨x, hx'⟩ := hE h3
      exact ⟨(cs', x), h2, hx'⟩
    obtain ⟨q, hq⟩ := choose_lt each
    have hlen : ((List.range len0).map fun i => (q i).2).length = len0 := by simp
    refine ⟨(List.range len0).map fun i => (q i).2, some a, cap0, by rw [hlen]; exact h1, by rw [hlen]; omega, by rw [hlen]; omega, by omega, fun i x hx => ?_⟩
    have hi : i < len0 := by
      rcases Nat.lt_or_ge i len0 with h | h
      · exact h
      · rw [List.getElem?_eq_none (by simpa using h)] at hx; cases hx
    rw [List.getElem?_map, List.getElem?_range hi] at hx
    obtain rfl := Option.some.inj hx
    obtain ⟨_, hlen0, hc0⟩ := World.cells?_some (hq 0 (by omega)).1
    have hz := hc0 0 (by omega)
    rw [add_add] at hz
    obtain ⟨b, o, rfl⟩ := spot_none (i := 0 * n + 0) (by simp) (hz.trans (List.getElem?_eq_getElem (by omega)))
    obtain ⟨_, hcl, hc⟩ := World.cells?_some (hq i hi).1
    refine ⟨b, o, (q i).1, rfl, ?_, hcl, fun j u hu => ?_, (hq i hi).2⟩
    · have h9 := hc 0 (by omega)
      rw [add_add, add_plain] at h9
      exact cell_lt (h9.trans (List.getElem?_eq_getElem (by omega)))
    · have hj : j < n := by
        rcases Nat.lt_or_ge j (q i).1.length with h | h
        · omega
        · rw [List.getElem?_eq_none h] at hu; cases hu
      have h9 := hc j (by omega)
      rw [add_add, add_plain] at h9
      rw [Nat.add_assoc]
      exact h9.trans hu
instance : Inhabited MPiece := ⟨⟨0, 0⟩⟩
theorem open_piece {fuel : Nat} {cs : List Value} {y : DataW H × List MemPlace} (h : DataW.trod enc Try.prog W 0 (fun _ => true) true fuel 33 cs = some y) : ∃ x, pieceE W cs x := by
  obtain ⟨xs, k, _, _, hcl, hxl, hf⟩ := DataW.trod_struct Try.underlying33 h
  rw [show Try.prog.cellsOf 33 = 2 by kernel_rfl] at hcl
  have e0 : Try.prog.cellsOf 3 = 1 := by kernel_rfl
  match xs, hxl, cs, hcl with
  | [y0, y1], _, [v0, v1], _ =>
    have g0 : DataW.trod enc Try.prog W 0 (fun _ => true) true k 3 (List.take (Try.prog.cellsOf 3) [v0, v1]) = some y0 := hf 0 _ rfl
    rw [e0] at g0
    obtain ⟨z0, q0, _, w0⟩ := DataW.trod_int Try.underlying3 g0
    simp only [List.take_succ_cons, List.take_zero, List.cons.injEq, and_true] at q0
    subst q0
    have g1 : DataW.trod enc Try.prog W 0 (fun _ => true) true k 3 (List.take (Try.prog.cellsOf 3) [v1]) = some y1 := hf 1 _ rfl
    rw [e0] at g1
    obtain ⟨z1, q1, _, w1⟩ := DataW.trod_int Try.underlying3 g1
    simp only [List.take_succ_cons, List.take_zero, List.cons.injEq, and_true] at q1
    subst q1
    exact ⟨⟨z0, z1⟩, rfl, i64_of w0, i64_of w1⟩
/-- Pieces in memory. -/
def PcsAt (w : World) (A : Option Addr) (L : List MPiece) : Prop := ∀ i x, L[i]? = some x → ∃ g o, A = some ⟨g, o, none⟩ ∧ g < w.heap.size ∧ w.cell? ⟨g, o + i * 2, none⟩ = some (.int .i64 x.pos) ∧ w.cell? ⟨g, o + i * 2 + 1, none⟩ = some (.int .i64 x.len)
/-- Their numbers are of the type int. -/
def PcsOk (L : List MPiece) : Prop := ∀ x ∈ L, (-9223372036854775808 ≤ x.pos ∧ x.pos ≤ 9223372036854775807) ∧ (-9223372036854775808 ≤ x.len ∧ x.len ≤ 9223372036854775807)
theorem PcsAt.later {w w' : World} {A : Option Addr} {L : List MPiece} (h : PcsAt w A L) (hb : Below w.heap.size w w') : PcsAt w' A L := by
  intro i x hx
  obtain ⟨g, o, e, hg, h0, h1⟩ := h i x hx
  exact ⟨g, o, e, Nat.lt_of_lt_of_le hg hb.size, by rw [hb.cell hg]; exact h0, by rw [hb.cell hg]; exact h1⟩
theorem open_pieces {base : Nat} {v0 : Value} {d0 : DataW H} {p0 : List MemPlace} (ok : Value.okWide Try.prog W .any base 34 v0)
    (h : DataW.Trod enc Try.prog W 0 (fun _ => true) true 34 v0 d0 p0) :
    ∃ (A : Option Addr) (c : Nat) (L : List MPiece), v0 = .slice A L.length c ∧ PcsAt W A L ∧ PcsOk L ∧ L.length ≤ c ∧ c ≤ maxLen := by
  obtain ⟨a0, len0, cap0, rfl⟩ := okWide_slice Try.underlying34 ok
  obtain ⟨fuel, h⟩ := h
  have hc : (Value.slice a0 len0 cap0).cells.toList = [.slice a0 len0 cap0] := rfl
  rw [hc] at h
  obtain ⟨L, A, c, e, h1, h2, h3, h4⟩ := open_rows (n := 2) (E := pieceE) Try.underlying34 (by kernel_rfl) (by decide) (fun h => open_piece h) h
  refine ⟨A, c, L, e, fun i x hx => ?_, fun x hx => ?_, h2, h3⟩
  · obtain ⟨b, o, cs, e1, hb, _, hcell, hE, _⟩ := h4 i x hx
    refine ⟨b, o, e1, hb, ?_, ?_⟩
    · have := hcell 0 (.int .i64 x.pos) (by rw [hE]; rfl); simpa using this
    · have := hcell 1 (.int .i64 x.len) (by rw [hE]; rfl); simpa using this
  · obtain ⟨i, hi⟩ := List.getElem?_of_mem hx
    obtain ⟨b, o, cs, e1, hb, _, hcell, hE, h5, h6⟩ := h4 i x hi
    exact ⟨h5, h6⟩
end Go.Proofs.Ytjbapjgagiaefaa
