/- Values of inputs, and bindings, that came in, as the contracts want them. -/
import Derived.Test.YtmbogdimjbhbmaaBlastOpen
import Derived.Test.YtmbogdimjbhbmaaEnvMem
import Derived.Test.YtmbogdimjbhbmaaRunLists
namespace Go.Proofs.Ytmbogdimjbhbmaa
open Go.RowKit Go.ChangeShapes Go.WideShapes Go.Deep
set_option linter.unusedVariables false
set_option linter.unusedSimpArgs false

section
variable {H : Type} {enc : TypeId × Value → H} {W : World}
theorem u64_nat {n : Int} (h : (Lit.int .u64 n).wf = true) : ∃ x : Nat, n = x ∧ x < 18446744073709551616 := by
  have e1 : IntKind.u64.min = 0 := by decide
  have e2 : IntKind.u64.max = 18446744073709551615 := by decide
  simp [Lit.wf, e1, e2] at h
  exact ⟨n.toNat, by omega, by omega⟩

theorem open_bools {fuel : Nat} {cs : List Value} {x : DataW H × List MemPlace} (h : DataW.trod enc Try.prog W 0 (fun _ => true) true fuel 27 cs = some x) :
    ∃ (p : Option Addr) (n cap : Nat) (V : Nat → Bool), cs = [.slice p n cap] ∧ n ≤ maxLen ∧ BoolsAt W p n V := by
  rcases open_slice1 Try.underlying27 (by kernel_rfl) h with ⟨h1, _⟩ | ⟨a, len, cap, m, k, V, D, Pl, h1, _, hl, hc, hm, _, hall⟩
  · exact ⟨none, 0, 0, fun _ => false, h1, Nat.zero_le _, fun i hi => absurd hi (by omega)⟩
  · simp only [if_true] at hm
    have each : ∀ i, i < len → ∃ x : Bool, V i = .bool x := fun i hi => by
      obtain ⟨_, t0⟩ := hall i (by omega)
      obtain ⟨z0, e0, _⟩ := DataW.trod_bool Try.underlying4 t0
      simp only [List.cons.injEq, and_true] at e0
      exact ⟨z0, e0⟩
    obtain ⟨X, hX⟩ := choose_lt each
    refine ⟨some a, len, cap, X, h1, by omega, fun i hi => ?_⟩
    obtain ⟨c0, _⟩ := hall i (by omega)
    obtain ⟨b, o, rfl⟩ := spot_none (by first | rfl | omega) (hall 0 (by omega)).1
    rw [hX i hi, add_plain] at c0
    exact ⟨b, o, rfl, cell_lt c0, c0⟩

theorem open_env {fuel : Nat} {cs : List Value} {x : DataW H × List MemPlace} (h : DataW.trod enc Try.prog W 0 (fun _ => true) true fuel 28 cs = some x) :
    ∃ (p : Option Addr) (n cap : Nat) (N : Nat → ByteArray) (D : Nat → Int) (X : Nat → Nat), cs = [.slice p n cap] ∧ n ≤ maxLen ∧ EnvAt W p n N D X ∧ ∀ i, i < n → X i < 18446744073709551616 := by
  rcases open_slice Try.underlying28 h with ⟨h1, _⟩ | ⟨a, len, cap, m, n, DD, Pl, rfl, hb, hl, hm, hmm, rfl, hx⟩
  · exact ⟨none, 0, 0, fun _ => default, fun _ => 0, fun _ => 0, h1, Nat.zero_le _, fun i hi => absurd hi (by omega), fun i hi => absurd hi (by omega)⟩
  · simp only [if_true] at hmm
    have each : ∀ i, i < len → ∃ q : ByteArray × Int × Nat, W.cell? (a.add (i * 3)) = some (.string q.1) ∧ W.cell? (a.add (i * 3 + 1)) = some (.int .i64 q.2.1) ∧ W.cell? (a.add (i * 3 + 2)) = some (.int .u64 (q.2.2 : Nat)) ∧ q.2.2 < 18446744073709551616 := by
      intro i hi
      obtain ⟨cs', h1, h2⟩ := hx i (by omega)
      rw [show Try.prog.cellsOf 49 = 3 by kernel_rfl] at h1
      obtain ⟨_, hlen, hcell⟩ := World.cells?_some h1
      obtain ⟨xs, k, hk, hxy, _, hxl, hf⟩ := DataW.trod_struct Try.underlying49 h2
      have e1 : Try.prog.cellsOf 9 = 1 := by kernel_rfl
      have e2 : Try.prog.cellsOf 3 = 1 := by kernel_rfl
      have e3 : Try.prog.cellsOf 47 = 1 := by kernel_rfl
      match xs, hxl, cs', hlen with
      | [y0, y1, y2], _, [v0, v1, v2], _ =>
        have g0 : DataW.trod enc Try.prog W 0 (fun _ => true) true k 9 (List.take (Try.prog.cellsOf 9) [v0, v1, v2]) = some y0 := hf 0 _ rfl
        have g1 : DataW.trod enc Try.prog W 0 (fun _ => true) true k 3 (List.take (Try.prog.cellsOf 3) [v1, v2]) = some y1 := hf 1 _ rfl
        have g2 : DataW.trod enc Try.prog W 0 (fun _ => true) true k 47 (List.take (Try.prog.cellsOf 47) [v2]) = some y2 := hf 2 _ rfl
        rw [e1] at g0
        rw [e2] at g1
        rw [e3] at g2
        obtain ⟨z0, q0, _, _⟩ := DataW.trod_string Try.underlying9 g0
        obtain ⟨z1, q1, _, _⟩ := DataW.trod_int Try.underlying3 g1
        obtain ⟨z2, q2, _, w2⟩ := DataW.trod_int Try.underlying47 g2
        simp only [List.take_succ_cons, List.take_zero, List.cons.injEq, and_true] at q0 q1 q2
        subst q0 q1 q2
        obtain ⟨u, rfl, hu⟩ := u64_nat w2
        have c0 := hcell 0 (by omega)
        have c1 := hcell 1 (by omega)
        have c2 := hcell 2 (by omega)
        rw [add_add] at c0 c1 c2
        exact ⟨(z0, z1, u), by simpa using c0, by simpa using c1, by simpa using c2, hu⟩
    obtain ⟨q, hq⟩ := choose_lt each
    refine ⟨some a, len, cap, fun i => (q i).1, fun i => (q i).2.1, fun i => (q i).2.2, rfl, by omega, fun i hi => ?_, fun i hi => (hq i hi).2.2.2⟩
    obtain ⟨c0, c1, c2, _⟩ := hq i hi
    obtain ⟨b, o, rfl⟩ := spot_none (i := 0 * 3) (by omega) (hq 0 (by omega)).1
    rw [add_plain] at c0 c1 c2
    exact ⟨b, o, rfl, cell_lt c0, c0, c1, c2⟩
end
end Go.Proofs.Ytmbogdimjbhbmaa
