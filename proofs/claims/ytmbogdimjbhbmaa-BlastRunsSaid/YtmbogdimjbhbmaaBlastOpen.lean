/- A circuit that came in, as the contracts want it. -/
import Derived.Test.YtmbogdimjbhbmaaBlastGreat
import Derived.Deep.SlicePairs
import Derived.RowKit
namespace Go.Proofs.Ytmbogdimjbhbmaa
open Go.RowKit Go.ChangeShapes Go.WideShapes Go.Deep
set_option linter.unusedVariables false
set_option linter.unusedSimpArgs false

section
variable {H : Type} {enc : TypeId × Value → H} {W : World}
theorem spot_none {a : Addr} {v : Value} {i : Nat} (hi : i = 0) (h : W.cell? (a.add i) = some v) : ∃ b o, a = ⟨b, o, none⟩ := by
  subst hi
  obtain ⟨b, o, spot⟩ := a
  obtain rfl : spot = none := by simpa [Addr.add] using World.cell?_spot h
  exact ⟨b, o, rfl⟩

theorem open_ins {fuel : Nat} {cs : List Value} {x : DataW H × List MemPlace} (h : DataW.trod enc Try.prog W 0 (fun _ => true) true fuel 22 cs = some x) :
    ∃ (p : Option Addr) (n cap : Nat) (N : Nat → ByteArray) (B : Nat → Int), cs = [.slice p n cap] ∧ n ≤ maxLen ∧ InsAt W p n N B := by
  rcases open_slice_pairs Try.underlying22 Try.underlying45 (by kernel_rfl) rfl rfl (by kernel_rfl) (by kernel_rfl) h with ⟨h1, _⟩ | ⟨a, len, cap, m, k, V0, V1, D0, D1, P0, P1, h1, _, hl, hc, hm, _, hall⟩
  · exact ⟨none, 0, 0, fun _ => default, fun _ => 0, h1, Nat.zero_le _, fun i hi => absurd hi (by omega)⟩
  · simp only [if_true] at hm
    have each : ∀ i, i < len → ∃ x : ByteArray × Int, V0 i = .string x.1 ∧ V1 i = .int .i64 x.2 := fun i hi => by
      obtain ⟨_, _, t0, t1⟩ := hall i (by omega)
      obtain ⟨z0, e0, _, w0⟩ := DataW.trod_string Try.underlying9 t0
      obtain ⟨z1, e1, _, w1⟩ := DataW.trod_int Try.underlying3 t1
      simp only [List.cons.injEq, and_true] at e0 e1
      exact ⟨(z0, z1), e0, e1⟩
    obtain ⟨X, hX⟩ := choose_lt each
    refine ⟨some a, len, cap, fun i => (X i).1, fun i => (X i).2, h1, by omega, fun i hi => ?_⟩
    obtain ⟨c0, c1, _, _⟩ := hall i (by omega)
    obtain ⟨b, o, rfl⟩ := spot_none (by first | rfl | omega) (hall 0 (by omega)).1
    rw [(hX i hi).1, add_plain] at c0
    rw [(hX i hi).2, add_plain] at c1
    exact ⟨b, o, rfl, cell_lt c0, c0, c1⟩

theorem open_gates {fuel : Nat} {cs : List Value} {x : DataW H × List MemPlace} (h : DataW.trod enc Try.prog W 0 (fun _ => true) true fuel 23 cs = some x) :
    ∃ (p : Option Addr) (n cap : Nat) (P Q : Nat → Int), cs = [.slice p n cap] ∧ n ≤ maxLen ∧ PairsAt W p n P Q := by
  rcases open_slice_pairs Try.underlying23 Try.underlying52 (by kernel_rfl) rfl rfl (by kernel_rfl) (by kernel_rfl) h with ⟨h1, _⟩ | ⟨a, len, cap, m, k, V0, V1, D0, D1, P0, P1, h1, _, hl, hc, hm, _, hall⟩
  · exact ⟨none, 0, 0, fun _ => 0, fun _ => 0, h1, Nat.zero_le _, fun i hi => absurd hi (by omega)⟩
  · simp only [if_true] at hm
    have each : ∀ i, i < len → ∃ x : Int × Int, V0 i = .int .i64 x.1 ∧ V1 i = .int .i64 x.2 := fun i hi => by
      obtain ⟨_, _, t0, t1⟩ := hall i (by omega)
      obtain ⟨z0, e0, _, w0⟩ := DataW.trod_int Try.underlying3 t0
      obtain ⟨z1, e1, _, w1⟩ := DataW.trod_int Try.underlying3 t1
      simp only [List.cons.injEq, and_true] at e0 e1
      exact ⟨(z0, z1), e0, e1⟩
    obtain ⟨X, hX⟩ := choose_lt each
    refine ⟨some a, len, cap, fun i => (X i).1, fun i => (X i).2, h1, by omega, fun i hi => ?_⟩
    obtain ⟨c0, c1, _, _⟩ := hall i (by omega)
    obtain ⟨b, o, rfl⟩ := spot_none (by first | rfl | omega) (hall 0 (by omega)).1
    rw [(hX i hi).1, add_plain] at c0
    rw [(hX i hi).2, add_plain] at c1
    exact ⟨b, o, rfl, cell_lt c0, c0, c1⟩

theorem open_nums {fuel : Nat} {cs : List Value} {x : DataW H × List MemPlace} (h : DataW.trod enc Try.prog W 0 (fun _ => true) true fuel 24 cs = some x) :
    ∃ (p : Option Addr) (n cap : Nat) (O : Nat → Int), cs = [.slice p n cap] ∧ n ≤ maxLen ∧ NumsAt W p n O := by
  rcases open_slice1 Try.underlying24 (by kernel_rfl) h with ⟨h1, _⟩ | ⟨a, len, cap, m, k, V, D, Pl, h1, _, hl, hc, hm, _, hall⟩
  · exact ⟨none, 0, 0, fun _ => 0, h1, Nat.zero_le _, fun i hi => absurd hi (by omega)⟩
  · simp only [if_true] at hm
    have each : ∀ i, i < len → ∃ x : Int, V i = .int .i64 x := fun i hi => by
      obtain ⟨_, t0⟩ := hall i (by omega)
      obtain ⟨z0, e0, _, w0⟩ := DataW.trod_int Try.underlying3 t0
      simp only [List.cons.injEq, and_true] at e0
      exact ⟨z0, e0⟩
    obtain ⟨X, hX⟩ := choose_lt each
    refine ⟨some a, len, cap, X, h1, by omega, fun i hi => ?_⟩
    obtain ⟨c0, _⟩ := hall i (by omega)
    obtain ⟨b, o, rfl⟩ := spot_none (by first | rfl | omega) (hall 0 (by omega)).1
    rw [hX i hi, add_plain] at c0
    exact ⟨b, o, rfl, cell_lt c0, c0⟩

theorem open_circuit {base : Nat} {v0 : Value} {d0 : DataW H} {p0 : List MemPlace} (ok : Value.okWide Try.prog W .any base 26 v0)
    (h : DataW.Trod enc Try.prog W 0 (fun _ => true) true 26 v0 d0 p0) :
    ∃ (pi pg po : Option Addr) (ni ng no ci cg co : Nat) (N : Nat → ByteArray) (B P Q O : Nat → Int), v0 = .agg #[.slice pi ni ci, .slice pg ng cg, .slice po no co] ∧ ni ≤ maxLen ∧ ng ≤ maxLen ∧ no ≤ maxLen ∧ InsAt W pi ni N B ∧ PairsAt W pg ng P Q ∧ NumsAt W po no O := by
  obtain ⟨xs, rfl, hsz⟩ := okWide_struct Try.underlying26 ok
  rw [show Try.prog.cellsOf 26 = 3 by kernel_rfl] at hsz
  obtain ⟨fuel, h⟩ := h
  obtain ⟨l⟩ := xs
  match l, hsz with
  | [s0, s1, s2], _ =>
    have hc : (Value.agg #[s0, s1, s2]).cells.toList = [s0, s1, s2] := rfl
    rw [hc] at h
    obtain ⟨ys, n, _, _, _, hyl, hf⟩ := DataW.trod_struct Try.underlying26 h
    have e1 : Try.prog.cellsOf 22 = 1 := by kernel_rfl
    have e2 : Try.prog.cellsOf 23 = 1 := by kernel_rfl
    have e3 : Try.prog.cellsOf 24 = 1 := by kernel_rfl
    match ys, hyl with
    | [y0, y1, y2], _ =>
      have g0 : DataW.trod enc Try.prog W 0 (fun _ => true) true n 22 (List.take (Try.prog.cellsOf 22) [s0, s1, s2]) = some y0 := hf 0 _ rfl
      have g1 : DataW.trod enc Try.prog W 0 (fun _ => true) true n 23 (List.take (Try.prog.cellsOf 23) [s1, s2]) = some y1 := hf 1 _ rfl
      have g2 : DataW.trod enc Try.prog W 0 (fun _ => true) true n 24 (List.take (Try.prog.cellsOf 24) [s2]) = some y2 := hf 2 _ rfl
      rw [e1] at g0
      rw [e2] at g1
      rw [e3] at g2
      obtain ⟨pi, ni, ci, N, B, q0, hi, HI⟩ := open_ins g0
      obtain ⟨pg, ng, cg, P, Q, q1, hg, HG⟩ := open_gates g1
      obtain ⟨po, no, co, O, q2, ho, HO⟩ := open_nums g2
      simp only [List.take_succ_cons, List.take_zero, List.cons.injEq, and_true] at q0 q1 q2
      subst q0; subst q1; subst q2
      exact ⟨pi, pg, po, ni, ng, no, ci, cg, co, N, B, P, Q, O, rfl, hi, hg, ho, HI, HG, HO⟩
end
end Go.Proofs.Ytmbogdimjbhbmaa
