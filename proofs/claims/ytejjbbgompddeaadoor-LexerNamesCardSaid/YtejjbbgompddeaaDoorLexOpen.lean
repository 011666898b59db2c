/- A list of tokens that came in, read as plain values. -/
import Derived.Test.YtejjbbgompddeaaDoorLexRaw
import Derived.Deep.Slices
import Derived.Deep.SlicePairs
import Derived.RowKit
namespace Go.Proofs.YtejjbbgompddeaaDoor
open Go.RowKit Go.ChangeShapes Go.WideShapes Go.Deep
set_option linter.unusedVariables false
set_option linter.unusedSimpArgs false
set_option maxRecDepth 100000

section
variable {H : Type} {enc : TypeId × Value → H} {W : World}
theorem spot_none {a : Addr} {v : Value} {i : Nat} (hi : i = 0) (h : W.cell? (a.add i) = some v) : ∃ b o, a = ⟨b, o, none⟩ := by
  subst hi
  obtain ⟨b, o, spot⟩ := a
  obtain rfl : spot = none := by simpa [Addr.add] using World.cell?_spot h
  exact ⟨b, o, rfl⟩
theorem raw_lt {w : World} {p : Addr} {v : Value} (h : w.cell? p = some v) : p.block < w.heap.size := by
  rcases Nat.lt_or_ge p.block w.heap.size with hl | hl
  · exact hl
  · exfalso
    have : w.heap[p.block]? = none := by simp [hl]
    obtain ⟨b, o, sp⟩ := p
    cases sp <;> simp_all [World.cell?]
theorem raw_choose {α : Type} [Inhabited α] {n : Nat} {p : Nat → α → Prop} (h : ∀ i, i < n → ∃ x, p i x) : ∃ f : Nat → α, ∀ i, i < n → p i (f i) := by
  refine ⟨fun i => if hi : i < n then Classical.choose (h i hi) else default, fun i hi => ?_⟩
  simp only [hi, dif_pos]
  exact Classical.choose_spec (h i hi)

/-- The elements are of their types: a kind is a byte. -/
def RawOk (L : List Raw) : Prop := ∀ y ∈ L, 0 ≤ y.k ∧ y.k ≤ 255

theorem open_raw {base : Nat} {v0 : Value} {d0 : DataW H} {p0 : List MemPlace} (ok : Value.okWide Tryd.prog W .any base 23 v0)
    (h : DataW.Trod enc Tryd.prog W 0 (fun _ => true) true 23 v0 d0 p0) :
    ∃ (A : Option Addr) (c : Nat) (L : List Raw), v0 = .slice A L.length c ∧ RawAt W A L ∧ RawOk L ∧ L.length ≤ c ∧ c ≤ maxLen := by
  obtain ⟨a0, len0, cap0, rfl⟩ := okWide_slice Tryd.underlying23 ok
  obtain ⟨fuel, h⟩ := h
  have hc : (Value.slice a0 len0 cap0).cells.toList = [.slice a0 len0 cap0] := rfl
  rw [hc] at h
  rcases open_slice Tryd.underlying23 h with ⟨h1, _⟩ | ⟨a, len, cap, m, n, DD, Pl, h1, hb, hl, hm, hmm, _, hx⟩
  · simp only [List.cons.injEq, Value.slice.injEq, and_true] at h1
    obtain ⟨rfl, rfl, rfl⟩ := h1
    exact ⟨none, 0, [], rfl, (fun i y hy => by simp at hy), (fun y hy => by cases hy), by simp, by simp⟩
  · simp only [List.cons.injEq, Value.slice.injEq, and_true] at h1
    obtain ⟨rfl, rfl, rfl⟩ := h1
    simp only [if_true] at hmm
    have each : ∀ i, i < len0 → ∃ q : Int × ByteArray × Int × Int, W.cell? (a.add (i * 4)) = some (.int .u8 q.1) ∧ W.cell? (a.add (i * 4 + 1)) = some (.string q.2.1) ∧ W.cell? (a.add (i * 4 + 2)) = some (.int .i64 q.2.2.1) ∧ W.cell? (a.add (i * 4 + 3)) = some (.int .i64 q.2.2.2) ∧ 0 ≤ q.1 ∧ q.1 ≤ 255 := by
      intro i hi
      obtain ⟨cs', h1, h2⟩ := hx i (by omega)
      rw [show Tryd.prog.cellsOf 29 = 4 by kernel_rfl] at h1
      obtain ⟨_, hlen, hcell⟩ := World.cells?_some h1
      obtain ⟨xs, k, hk, hxy, _, hxl, hf⟩ := DataW.trod_struct Tryd.underlying29 h2
      have e1 : Tryd.prog.cellsOf 5 = 1 := by kernel_rfl
      have e2 : Tryd.prog.cellsOf 9 = 1 := by kernel_rfl
      have e3 : Tryd.prog.cellsOf 3 = 1 := by kernel_rfl
      match xs, hxl, cs', hlen with
      | [y0, y1, y2, y3], _, [v0, v1, v2, v3], _ =>
        have g0 : DataW.trod enc Tryd.prog W 0 (fun _ => true) true k 5 (List.take (Tryd.prog.cellsOf 5) [v0, v1, v2, v3]) = some y0 := hf 0 _ rfl
        have g1 : DataW.trod enc Tryd.prog W 0 (fun _ => true) true k 9 (List.take (Tryd.prog.cellsOf 9) [v1, v2, v3]) = some y1 := hf 1 _ rfl
        have g2 : DataW.trod enc Tryd.prog W 0 (fun _ => true) true k 3 (List.take (Tryd.prog.cellsOf 3) [v2, v3]) = some y2 := hf 2 _ rfl
        have g3 : DataW.trod enc Tryd.prog W 0 (fun _ => true) true k 3 (List.take (Tryd.prog.cellsOf 3) [v3]) = some y3 := hf 3 _ rfl
        rw [e1] at g0
        rw [e2] at g1
        rw [e3] at g2 g3
        obtain ⟨z0, q0, _, w0⟩ := DataW.trod_int Tryd.underlying5 g0
        obtain ⟨z1, q1, _, _⟩ := DataW.trod_string Tryd.underlying9 g1
        obtain ⟨z2, q2, _, _⟩ := DataW.trod_int Tryd.underlying3 g2
        obtain ⟨z3, q3, _, _⟩ := DataW.trod_int Tryd.underlying3 g3
        simp only [List.take_succ_cons, List.take_zero, List.cons.injEq, and_true] at q0 q1 q2 q3
        subst q0 q1 q2 q3
        have c0 := hcell 0 (by omega)
        have c1 := hcell 1 (by omega)
        have c2 := hcell 2 (by omega)
        have c3 := hcell 3 (by omega)
        rw [add_add] at c0 c1 c2 c3
        simp [Lit.wf, IntKind.min, IntKind.max, IntKind.bits, IntKind.signed] at w0
        exact ⟨(z0, z1, z2, z3), by simpa using c0, by simpa using c1, by simpa using c2, by simpa using c3, by omega, by omega⟩
    obtain ⟨q, hq⟩ := raw_choose each
    have hlen : ((List.range len0).map fun i => (⟨(q i).1, (q i).2.1, (q i).2.2.1, (q i).2.2.2⟩ : Raw)).length = len0 := by simp
    refine ⟨some a, cap0, (List.range len0).map fun i => ⟨(q i).1, (q i).2.1, (q i).2.2.1, (q i).2.2.2⟩, by rw [hlen], fun i y hy => ?_, fun y hy => ?_, ?_⟩
    · have hi : i < len0 := by
        rcases Nat.lt_or_ge i len0 with h | h
        · exact h
        · rw [List.getElem?_eq_none (by simpa using h)] at hy; cases hy
      rw [List.getElem?_map, List.getElem?_range hi] at hy
      obtain rfl := Option.some.inj hy
      obtain ⟨c0, c1, c2, c3, _⟩ := hq i hi
      obtain ⟨b, o, rfl⟩ := spot_none (i := 0 * 4) (by omega) (hq 0 (by omega)).1
      rw [add_plain] at c0 c1 c2 c3
      exact ⟨b, o, rfl, raw_lt c0, c0, by rw [Nat.add_assoc]; exact c1, by rw [Nat.add_assoc]; exact c2, by rw [Nat.add_assoc]; exact c3⟩
    · obtain ⟨i, hi, rfl⟩ := List.mem_map.1 hy
      exact (hq i (List.mem_range.1 hi)).2.2.2.2
    · rw [hlen]; exact ⟨hl, hm⟩
end
end Go.Proofs.YtejjbbgompddeaaDoor
