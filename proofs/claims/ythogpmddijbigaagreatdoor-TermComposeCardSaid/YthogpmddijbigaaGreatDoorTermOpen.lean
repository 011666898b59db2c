/- Bindings and memory cells that came in (picked out of the texts of BlastRuns and TermBytes), and the reference's bound on both. -/
import Derived.Test.YthogpmddijbigaaGreatDoorTermValue
import Derived.Deep.SlicePairs
import Derived.Deep.Slices
namespace Go.Proofs.YthogpmddijbigaaGreatDoor
open Go.RowKit Go.ChangeShapes Go.WideShapes Go.Deep
set_option linter.unusedVariables false
set_option maxRecDepth 100000
set_option linter.unusedSimpArgs false

section
variable {H : Type} {enc : TypeId × Value → H} {W : World}

theorem spot_none {a : Addr} {v : Value} {i : Nat} (hi : i = 0) (h : W.cell? (a.add i) = some v) : ∃ b o, a = ⟨b, o, none⟩ := by
  subst hi
  obtain ⟨b, o, spot⟩ := a
  obtain rfl : spot = none := by simpa [Addr.add] using World.cell?_spot h
  exact ⟨b, o, rfl⟩

theorem u64_nat {n : Int} (h : (Lit.int .u64 n).wf = true) : ∃ x : Nat, n = x ∧ x < 18446744073709551616 := by
  have e1 : IntKind.u64.min = 0 := by decide
  have e2 : IntKind.u64.max = 18446744073709551615 := by decide
  simp [Lit.wf, e1, e2] at h
  exact ⟨n.toNat, by omega, by omega⟩

theorem open_env {fuel : Nat} {cs : List Value} {x : DataW H × List MemPlace} (h : DataW.trod enc Tryz.prog W 0 (fun _ => true) true fuel 26 cs = some x) :
    ∃ (p : Option Addr) (n cap : Nat) (N : Nat → ByteArray) (D : Nat → Int) (X : Nat → Nat), cs = [.slice p n cap] ∧ n ≤ maxLen ∧ EnvAt W p n N D X ∧ ∀ i, i < n → X i < 18446744073709551616 := by
  rcases open_slice Tryz.underlying26 h with ⟨h1, _⟩ | ⟨a, len, cap, m, n, DD, Pl, rfl, hb, hl, hm, hmm, rfl, hx⟩
  · exact ⟨none, 0, 0, fun _ => default, fun _ => 0, fun _ => 0, h1, Nat.zero_le _, fun i hi => absurd hi (by omega), fun i hi => absurd hi (by omega)⟩
  · simp only [if_true] at hmm
    have each : ∀ i, i < len → ∃ q : ByteArray × Int × Nat, W.cell? (a.add (i * 3)) = some (.string q.1) ∧ W.cell? (a.add (i * 3 + 1)) = some (.int .i64 q.2.1) ∧ W.cell? (a.add (i * 3 + 2)) = some (.int .u64 (q.2.2 : Nat)) ∧ q.2.2 < 18446744073709551616 := by
      intro i hi
      obtain ⟨cs', h1, h2⟩ := hx i (by omega)
      rw [show Tryz.prog.cellsOf 54 = 3 by kernel_rfl] at h1
      obtain ⟨_, hlen, hcell⟩ := World.cells?_some h1
      obtain ⟨xs, k, hk, hxy, _, hxl, hf⟩ := DataW.trod_struct Tryz.underlying54 h2
      have e1 : Tryz.prog.cellsOf 9 = 1 := by kernel_rfl
      have e2 : Tryz.prog.cellsOf 3 = 1 := by kernel_rfl
      have e3 : Tryz.prog.cellsOf 22 = 1 := by kernel_rfl
      match xs, hxl, cs', hlen with
      | [y0, y1, y2], _, [v0, v1, v2], _ =>
        have g0 : DataW.trod enc Tryz.prog W 0 (fun _ => true) true k 9 (List.take (Tryz.prog.cellsOf 9) [v0, v1, v2]) = some y0 := hf 0 _ rfl
        have g1 : DataW.trod enc Tryz.prog W 0 (fun _ => true) true k 3 (List.take (Tryz.prog.cellsOf 3) [v1, v2]) = some y1 := hf 1 _ rfl
        have g2 : DataW.trod enc Tryz.prog W 0 (fun _ => true) true k 22 (List.take (Tryz.prog.cellsOf 22) [v2]) = some y2 := hf 2 _ rfl
        rw [e1] at g0
        rw [e2] at g1
        rw [e3] at g2
        obtain ⟨z0, q0, _, _⟩ := DataW.trod_string Tryz.underlying9 g0
        obtain ⟨z1, q1, _, _⟩ := DataW.trod_int Tryz.underlying3 g1
        obtain ⟨z2, q2, _, w2⟩ := DataW.trod_int Tryz.underlying22 g2
        simp only [List.take_succ_cons, List.take_zero, List.cons.injEq, and_true] at q0 q1 q2
        subst q0 q1 q2
        obtain ⟨u, rfl, hu⟩ := u64_nat w2
        have c0 := hcell 0 (by omega)
        have c1 := hcell 1 (by omega)
        have c2 := hcell 2 (by omega)
        rw [add_add] at c0 c1 c2
        exact ⟨(z0, z1, u), by simpa using c0, by simpa using c1, by simpa using c2, hu⟩
    obtain ⟨q, hq⟩ := choose_lt each
    refine ⟨some a, len, cap, fun i => (q i).1, fun i => (q i).2.1, fun i => (q i).2.2, rfl, by omega, fun i hi => ?_, fun i hi => (hq i hi).2.2.2⟩
    obtain ⟨c0, c1, c2, _⟩ := hq i hi
    obtain ⟨b, o, rfl⟩ := spot_none (i := 0 * 3) (by omega) (hq 0 (by omega)).1
    rw [add_plain] at c0 c1 c2
    exact ⟨b, o, rfl, cell_lt c0, c0, c1, c2⟩
end

theorem open_cells {H : Type} {enc : TypeId × Value → H} {W : World} {base : Nat} {v0 : Value} {d0 : DataW H} {p0 : List MemPlace} (ok : Value.okWide Tryz.prog W .any base 27 v0)
    (h : DataW.Trod enc Tryz.prog W 0 (fun _ => true) true 27 v0 d0 p0) :
    ∃ (p : Option Addr) (n cap : Nat) (A B : Nat → Nat), v0 = .slice p n cap ∧ MemAt W p n A B ∧ ∀ i, i < n → B i < 256 := by
  obtain ⟨a, len, cap, rfl⟩ := okWide_slice Tryz.underlying27 ok
  obtain ⟨fuel, h⟩ := h
  have hc : (Value.slice a len cap).cells.toList = [.slice a len cap] := rfl
  rw [hc] at h
  rcases open_slice_pairs Tryz.underlying27 Tryz.underlying61 (by kernel_rfl) rfl rfl (by kernel_rfl) (by kernel_rfl) h with ⟨h1, _⟩ | ⟨a', len', cap', m, k, V0, V1, D0, D1, P0, P1, h1, _, hl, _, hm, _, hall⟩
  · simp only [List.cons.injEq, Value.slice.injEq, and_true] at h1
    obtain ⟨rfl, rfl, rfl⟩ := h1
    exact ⟨none, 0, 0, fun _ => 0, fun _ => 0, rfl, fun i hi => absurd hi (by omega), fun i hi => absurd hi (by omega)⟩
  · simp only [List.cons.injEq, Value.slice.injEq, and_true] at h1
    obtain ⟨rfl, rfl, rfl⟩ := h1
    simp only [if_true] at hm
    have each : ∀ i, i < len → ∃ x : Nat × Nat, V0 i = .int .u64 (x.1 : Int) ∧ V1 i = .int .u8 (x.2 : Int) ∧ x.2 < 256 := fun i hi => by
      obtain ⟨_, _, t0, t1⟩ := hall i (by omega)
      obtain ⟨z0, e0, _, w0⟩ := DataW.trod_int Tryz.underlying22 t0
      obtain ⟨z1, e1, _, w1⟩ := DataW.trod_int Tryz.underlying5 t1
      simp only [List.cons.injEq, and_true] at e0 e1
      simp [Lit.wf, IntKind.min, IntKind.max, IntKind.bits, IntKind.signed] at w0 w1
      exact ⟨(z0.toNat, z1.toNat), by rw [e0, Int.toNat_of_nonneg w0.1], by rw [e1, Int.toNat_of_nonneg w1.1], by omega⟩
    obtain ⟨X, hX⟩ := choose_lt each
    refine ⟨some a', len, cap, fun i => (X i).1, fun i => (X i).2, rfl, fun i hi => ?_, fun i hi => (hX i hi).2.2⟩
    obtain ⟨c0, c1, _, _⟩ := hall i (by omega)
    obtain ⟨b, o, spot⟩ := a'
    have hspot : spot = none := by simpa [Addr.add] using World.cell?_spot (hall 0 (by omega)).1
    subst hspot
    rw [(hX i hi).1, add_plain] at c0
    rw [(hX i hi).2.1, add_plain] at c1
    have hlt : b < W.heap.size := Nat.lt_of_not_le fun hle => by
      have hn : W.heap[b]? = none := by simp [hle]
      simp [World.cell?, hn] at c0
    exact ⟨b, o, rfl, hlt, c0, c1⟩

/-- GreatBound, with memory. -/
def greatM (N : Nat → ByteArray) (n mn : Nat) : Bool := if 1100 < n ∨ 4200 < mn then true else !allTo (longB N) n
theorem greatM_no {N : Nat → ByteArray} {n mn : Nat} (h : greatM N n mn = false) : n ≤ 1100 ∧ mn ≤ 4200 ∧ ∀ i, i < n → (N i).size ≤ 200 := by
  unfold greatM at h
  split at h
  · cases h
  · rename_i hn
    have h2 : allTo (longB N) n = true := by simpa using h
    refine ⟨by omega, by omega, fun i hi => ?_⟩
    have := allTo_at _ n h2 i hi
    unfold longB at this
    simpa using this
set_option maxRecDepth 100000 in
theorem greatM_any (p : Option Addr) (n cap : Nat) (N : Nat → ByteArray) (D : Nat → Int) (X : Nat → Nat) (pm : Option Addr) (mn mc : Nat) (w : World) (hm : EnvAt w p n N D X) :
    Calls Tryz.prog 8 #[.slice p n cap, .slice pm mn mc] w fun e w' => e = .returned (.bool (greatM N n mn)) ∧ w = w' := by
  have HM := Lib.hid hm
  clear hm
  by_cases hmany : 1100 < n
  · rw [show greatM N n mn = true from if_pos (.inl hmany)]
    have d : decide ((1100 : Int) < (n : Int)) = true := decide_eq_true (by omega)
    clear hmany
    go_enter Tryz.func8, Tryz.ntmps8
    go_wp2
    go_ret
    exact ⟨rfl, rfl⟩
  · have d : decide ((1100 : Int) < (n : Int)) = false := decide_eq_false (by omega)
    by_cases hmm : 4200 < mn
    · rw [show greatM N n mn = true from if_pos (.inr hmm)]
      have d2 : decide ((4200 : Int) < (mn : Int)) = true := decide_eq_true (by omega)
      clear hmany hmm
      go_enter Tryz.func8, Tryz.ntmps8
      go_wp2
      go_ret
      exact ⟨rfl, rfl⟩
    have d3 : decide ((4200 : Int) < (mn : Int)) = false := decide_eq_false (by omega)
    have HG := Lib.hid (show greatM N n mn = !allTo (longB N) n from if_neg (by omega))
    go_enter Tryz.func8, Tryz.ntmps8
    go_wp2
    go_loop [5] (fun vi => ∃ k : Nat, vi = .int .i64 k ∧ k ≤ n ∧ allTo (longB N) k = true) (fun vi => n - (intOf vi).toNat)
    case atStart => exact ⟨0, rfl, by omega, rfl⟩
    case round =>
      obtain ⟨k, rfl, hk, hl⟩ := hrel
      have HL := Lib.hid hl
      clear hl
      by_cases hlt : k < n
      · obtain ⟨b, o, hp, hbn, a0, a1, a2⟩ := HM.out k (by omega)
        subst hp
        have hj0 : (0 : Int) ≤ (k : Int) := Int.natCast_nonneg _
        have hj1 : (k : Int) < (n : Int) := by omega
        obtain ⟨L, hL⟩ : ∃ L, (N k).size = L := ⟨_, rfl⟩
        have HQ := Lib.hid (show longB N k = !decide (200 < L) by unfold longB; rw [hL])
        by_cases h2 : 200 < L
        · have d2 : decide ((200 : Int) < (L : Int)) = true := decide_eq_true (by omega)
          have HZ := Lib.hid h2
          clear h2
          go_wp2
          go_ret
          exact ⟨by rw [HG.out, allTo_no _ k (by rw [HQ.out, decide_eq_true HZ.out]; rfl) n hlt]; rfl, rfl⟩
        · have d2 : decide ((200 : Int) < (L : Int)) = false := decide_eq_false (by omega)
          have HZ := Lib.hid h2
          clear h2
          go_wp2
          go_round
          case rel => exact ⟨k + 1, by first | rfl | go_num | (rw [wrap64_small _ (by omega) (by omega)]; rfl), by omega, by rw [allTo_succ, HL.out, HQ.out, decide_eq_false HZ.out]; rfl⟩
          case measure => (try rw [wrap64_small _ (by omega) (by omega)]); simp only [intOf]; omega
      · obtain rfl : k = n := by omega
        go_wp2
        go_ret
        exact ⟨by rw [HG.out, HL.out]; rfl, rfl⟩

/-- A term that came in. -/
theorem open_termv {H : Type} {enc : TypeId × Value → H} {W : World} {base : Nat} {v0 : Value} {d0 : DataW H} {p0 : List MemPlace} (ok : Value.okWide Tryz.prog W .any base 25 v0) (h : DataW.Trod enc Tryz.prog W 0 (fun _ => true) true 25 v0 d0 p0) :
    ∃ (t : Tm) (p : Option Addr) (nn cap : Nat), v0 = .agg (Tm.cells t (.slice p nn cap)).toArray ∧ t.fit ∧ SubAt W W.heap.size (.slice p nn cap) t.sub := by
  obtain ⟨xs, rfl, hsz⟩ := okWide_struct Tryz.underlying25 ok
  rw [show Tryz.prog.cellsOf 25 = 6 by kernel_rfl] at hsz
  obtain ⟨fuel, h⟩ := h
  obtain ⟨l⟩ := xs
  obtain ⟨t, sv, hc, hfit, hsub⟩ := open_term fuel h
  obtain ⟨p, nn, cap, S, rfl, _⟩ := hsub.inv
  refine ⟨t, p, nn, cap, ?_, hfit, hsub⟩
  match l, hsz with
  | [s0, s1, s2, s3, s4, s5], _ =>
    have hc2 : (Value.agg #[s0, s1, s2, s3, s4, s5]).cells.toList = [s0, s1, s2, s3, s4, s5] := rfl
    rw [hc2] at hc
    rw [hc]
end Go.Proofs.YthogpmddijbigaaGreatDoor
