/- Contract of the reference's Twin: a copy of a circuit. -/
import Derived.Test.YtmbogdimjbhbmaaBlastRefMath
import Derived.Test.YtmbogdimjbhbmaaCopyRow
import Derived.Deep.RegionHeld3
namespace Go.Proofs.Ytmbogdimjbhbmaa
open Go.RowKit
set_option linter.unusedVariables false
set_option linter.unusedSimpArgs false

theorem in_info : (Try.prog.info? 45).map (fun i => (i.zero, i.size, i.bytes)) = some (some (.agg #[.string ⟨#[]⟩, .int .i64 0]), 2, 24) := by kernel_rfl
theorem gate_info : (Try.prog.info? 52).map (fun i => (i.zero, i.size, i.bytes)) = some (some (.agg #[.int .i64 0, .int .i64 0]), 2, 16) := by kernel_rfl
theorem intInfo : (Try.prog.info? 3).map (fun i => (i.zero, i.size, i.bytes)) = some (some (.int .i64 0), 1, 8) := by kernel_rfl

def insC (N : Nat → ByteArray) (B : Nat → Int) (j : Nat) : Value := if j % 2 = 0 then .string (N (j / 2)) else .int .i64 (B (j / 2))
def pairC (P Q : Nat → Int) (j : Nat) : Value := if j % 2 = 0 then .int .i64 (P (j / 2)) else .int .i64 (Q (j / 2))
def numC (O : Nat → Int) (j : Nat) : Value := .int .i64 (O j)
theorem InsAt.src {w : World} {p : Option Addr} {n : Nat} {N : Nat → ByteArray} {B : Nat → Int} (h : InsAt w p n N B) : SrcAt w p n 2 (insC N B) := fun h0 => by
  obtain ⟨b, o, rfl, hb, _⟩ := h 0 h0
  refine ⟨b, o, rfl, hb, fun j hj => ?_⟩
  obtain ⟨b', o', e, _, h2, h3⟩ := h (j / 2) (by omega)
  obtain ⟨rfl, rfl⟩ : b' = b ∧ o' = o := by injection e with e; injection e with e1 e2; exact ⟨e1.symm, e2.symm⟩
  unfold insC
  split
  · rw [show o' + j = o' + j / 2 * 2 by omega]; exact h2
  · rw [show o' + j = o' + j / 2 * 2 + 1 by omega]; exact h3
theorem PairsAt.src {w : World} {p : Option Addr} {n : Nat} {P Q : Nat → Int} (h : PairsAt w p n P Q) : SrcAt w p n 2 (pairC P Q) := fun h0 => by
  obtain ⟨b, o, rfl, hb, _⟩ := h 0 h0
  refine ⟨b, o, rfl, hb, fun j hj => ?_⟩
  obtain ⟨b', o', e, _, h2, h3⟩ := h (j / 2) (by omega)
  obtain ⟨rfl, rfl⟩ : b' = b ∧ o' = o := by injection e with e; injection e with e1 e2; exact ⟨e1.symm, e2.symm⟩
  unfold pairC
  split
  · rw [show o' + j = o' + j / 2 * 2 by omega]; exact h2
  · rw [show o' + j = o' + j / 2 * 2 + 1 by omega]; exact h3
theorem NumsAt.src {w : World} {p : Option Addr} {n : Nat} {O : Nat → Int} (h : NumsAt w p n O) : SrcAt w p n 1 (numC O) := fun h0 => by
  obtain ⟨b, o, rfl, hb, _⟩ := h 0 h0
  refine ⟨b, o, rfl, hb, fun j hj => ?_⟩
  obtain ⟨b', o', e, _, h2⟩ := h j (by omega)
  obtain ⟨rfl, rfl⟩ : b' = b ∧ o' = o := by injection e with e; injection e with e1 e2; exact ⟨e1.symm, e2.symm⟩
  exact h2
theorem RowAt.ins {w : World} {lo : Nat} {p : Option Addr} {n : Nat} {N : Nat → ByteArray} {B : Nat → Int} (h : RowAt w lo p n 2 (insC N B)) : InsAt w p n N B := fun i hi => by
  obtain ⟨g, rfl, _, hb, hc⟩ := h (by omega)
  have h0 := hc (i * 2) (by omega)
  have h1 := hc (i * 2 + 1) (by omega)
  unfold insC at h0 h1
  rw [if_pos (by omega), show i * 2 / 2 = i by omega] at h0
  rw [if_neg (by omega), show (i * 2 + 1) / 2 = i by omega] at h1
  exact ⟨g, 0, rfl, hb, by rw [Nat.zero_add]; exact h0, by rw [Nat.zero_add]; exact h1⟩
theorem RowAt.pairs {w : World} {lo : Nat} {p : Option Addr} {n : Nat} {P Q : Nat → Int} (h : RowAt w lo p n 2 (pairC P Q)) : PairsAt w p n P Q := fun i hi => by
  obtain ⟨g, rfl, _, hb, hc⟩ := h (by omega)
  have h0 := hc (i * 2) (by omega)
  have h1 := hc (i * 2 + 1) (by omega)
  unfold pairC at h0 h1
  rw [if_pos (by omega), show i * 2 / 2 = i by omega] at h0
  rw [if_neg (by omega), show (i * 2 + 1) / 2 = i by omega] at h1
  exact ⟨g, 0, rfl, hb, by rw [Nat.zero_add]; exact h0, by rw [Nat.zero_add]; exact h1⟩
theorem RowAt.nums {w : World} {lo : Nat} {p : Option Addr} {n : Nat} {O : Nat → Int} (h : RowAt w lo p n 1 (numC O)) : NumsAt w p n O := fun i hi => by
  obtain ⟨g, rfl, _, hb, hc⟩ := h (by omega)
  exact ⟨g, 0, rfl, hb, by rw [Nat.zero_add]; exact hc i (by omega)⟩

/-- What Twin hands back. -/
def Twins (ni ng no : Nat) (N : Nat → ByteArray) (B P Q O : Nat → Int) (w : World) (e : Ending) (w' : World) : Prop :=
  ∃ pi' pg' po' ci' cg' co', e = .returned (.agg #[.slice pi' ni ci', .slice pg' ng cg', .slice po' no co']) ∧ CirAt w' pi' pg' po' ni ng no N B P Q O ∧ Below w.heap.size w w'

theorem twin_end {w W2 w1 w2 w3 : World} {pi pg po : Option Addr} {ni ng no : Nat} {N : Nat → ByteArray} {B P Q O : Nat → Int} (hc : CirAt w pi pg po ni ng no N B P Q O) {A1 A2 A3 : Option Addr}
    (hbw : Below w.heap.size w W2) (h3 : Below (w.heap.size + 2) W2 w3) (r1 : RowAt w1 (w.heap.size + 2) A1 ni 2 (insC N B)) (r2 : RowAt w2 (w.heap.size + 2) A2 ng 2 (pairC P Q)) (r3 : RowAt w3 (w.heap.size + 2) A3 no 1 (numC O))
    (n1 : Below w1.heap.size w1 w2) (n2 : Below w2.heap.size w2 w3) (k1 k2 k3 : Nat) :
    Twins ni ng no N B P Q O w (.returned (.agg #[.slice A1 ni k1, .slice A2 ng k2, .slice A3 no k3]))
      (((w3.setCell ⟨w.heap.size + 1, 0, none⟩ (.slice A1 ni k1)).setCell ⟨w.heap.size + 1, 1, none⟩ (.slice A2 ng k2)).setCell ⟨w.heap.size + 1, 2, none⟩ (.slice A3 no k3)) := by
  have q1 := (r1.below n1).below n2
  have q2 := r2.below n2
  have s : ∀ {A : Option Addr} {m size : Nat} {f : Nat → Value}, RowAt w3 (w.heap.size + 2) A m size f → RowAt (((w3.setCell ⟨w.heap.size + 1, 0, none⟩ (.slice A1 ni k1)).setCell ⟨w.heap.size + 1, 1, none⟩ (.slice A2 ng k2)).setCell ⟨w.heap.size + 1, 2, none⟩ (.slice A3 no k3)) (w.heap.size + 2) A m size f :=
    fun h => ((h.setCell (by simp) _).setCell (by simp) _).setCell (by simp) _
  refine ⟨A1, A2, A3, k1, k2, k3, rfl, ⟨hc.hi, hc.hg, hc.ho, hc.hN, (s q1).ins, (s q2).pairs, (s r3).nums⟩, ?_⟩
  exact hbw.trans ((((h3.mono (by omega : w.heap.size ≤ w.heap.size + 2)).setCell (by simp) _).setCell (by simp) _).setCell (by simp) _)

set_option maxRecDepth 100000 in
set_option maxHeartbeats 4000000 in
theorem twin_any (pi pg po : Option Addr) (ni ng no ci cg co : Nat) (N : Nat → ByteArray) (B P Q O : Nat → Int) (w : World) (hc : CirAt w pi pg po ni ng no N B P Q O) :
    Calls Try.prog 6 #[.agg #[.slice pi ni ci, .slice pg ng cg, .slice po no co]] w (Twins ni ng no N B P Q O w) := by
  obtain ⟨i0, hi0, hz0, hz1, hz2⟩ := info_parts in_info
  obtain ⟨i1, hi1, hy0, hy1, hy2⟩ := info_parts gate_info
  obtain ⟨i2, hi2, hx0, hx1, hx2⟩ := info_parts intInfo
  obtain ⟨W1, hW1⟩ : ∃ W1, W1 = w.alloc (.cells #[.slice pi ni ci, .slice pg ng cg, .slice po no co] 26) := ⟨_, rfl⟩
  have c0 : W1.cell? ⟨w.heap.size, 0, none⟩ = some (.slice pi ni ci) := by rw [hW1]; go_simp
  have c1 : W1.cell? ⟨w.heap.size, 1, none⟩ = some (.slice pg ng cg) := by rw [hW1]; go_simp
  have c2 : W1.cell? ⟨w.heap.size, 2, none⟩ = some (.slice po no co) := by rw [hW1]; go_simp
  obtain ⟨W2, hW2⟩ : ∃ W2, W2 = W1.alloc (.cells #[.slice none 0 0, .slice none 0 0, .slice none 0 0] 26) := ⟨_, rfl⟩
  have hs1 : W1.heap.size = w.heap.size + 1 := by rw [hW1]; simp
  have hs2 : W2.heap.size = w.heap.size + 2 := by rw [hW2]; simp [hs1]
  have hbw : Below w.heap.size w W2 := by rw [hW2, hW1]; exact ((Below.refl _ _).alloc (Nat.le_refl _) _).alloc (by simp) _
  have d0 : W2.cell? ⟨w.heap.size, 0, none⟩ = some (.slice pi ni ci) := by rw [hW2, World.cell?_alloc_lt _ _ _ (by simp [hs1])]; exact c0
  have d1 : W2.cell? ⟨w.heap.size, 1, none⟩ = some (.slice pg ng cg) := by rw [hW2, World.cell?_alloc_lt _ _ _ (by simp [hs1])]; exact c1
  have d2 : W2.cell? ⟨w.heap.size, 2, none⟩ = some (.slice po no co) := by rw [hW2, World.cell?_alloc_lt _ _ _ (by simp [hs1])]; exact c2
  have hnew2 : W2.heap[w.heap.size + 1]? = some (.cells #[.slice none 0 0, .slice none 0 0, .slice none 0 0] 26 (0, 0)) := by rw [hW2, ← hs1]; exact heap_alloc_new W1 _
  have g0 : W2.cell? ⟨w.heap.size + 1, 0, none⟩ = some (.slice none 0 0) := by simp [World.cell?, hnew2]
  have g1 : W2.cell? ⟨w.heap.size + 1, 1, none⟩ = some (.slice none 0 0) := by simp [World.cell?, hnew2]
  have g2 : W2.cell? ⟨w.heap.size + 1, 2, none⟩ = some (.slice none 0 0) := by simp [World.cell?, hnew2]
  have z0 : W2.frozen? ⟨w.heap.size + 1, 0, none⟩ = false := by simp [World.frozen?, hnew2]
  have z1 : W2.frozen? ⟨w.heap.size + 1, 1, none⟩ = false := by simp [World.frozen?, hnew2]
  have z2 : W2.frozen? ⟨w.heap.size + 1, 2, none⟩ = false := by simp [World.frozen?, hnew2]
  have HBW := Lib.hid hbw
  have HS := Lib.hid hs2
  have S0 := Lib.hid (fun (W : World) (h : Below (w.heap.size + 1) W2 W) => hc.ins.src.below (hbw.trans (h.mono (by omega))))
  have S1 := Lib.hid (fun (W : World) (h : Below (w.heap.size + 1) W2 W) => hc.gates.src.below (hbw.trans (h.mono (by omega))))
  have S2 := Lib.hid (fun (W : World) (h : Below (w.heap.size + 1) W2 W) => hc.outs.src.below (hbw.trans (h.mono (by omega))))
  have HSB := Lib.hid (fun (W : World) (h : Below (w.heap.size + 1) W2 W) => (⟨by rw [h.cell (by simp)]; exact d0, by rw [h.cell (by simp)]; exact d1, by rw [h.cell (by simp)]; exact d2, h⟩ : W.cell? ⟨w.heap.size, 0, none⟩ = some (.slice pi ni ci) ∧ W.cell? ⟨w.heap.size, 1, none⟩ = some (.slice pg ng cg) ∧ W.cell? ⟨w.heap.size, 2, none⟩ = some (.slice po no co) ∧ Below (w.heap.size + 1) W2 W))
  have HE := Lib.hid (fun (W : World) (h : Below (w.heap.size + 2) W2 W) => (⟨by rw [h.cell (by simp)]; exact g0, by rw [h.cell (by simp)]; exact g1, by rw [h.cell (by simp)]; exact g2, by rw [h.frozen (by simp)]; exact z0, by rw [h.frozen (by simp)]; exact z1, by rw [h.frozen (by simp)]; exact z2⟩ :
    W.cell? ⟨w.heap.size + 1, 0, none⟩ = some (.slice none 0 0) ∧ W.cell? ⟨w.heap.size + 1, 1, none⟩ = some (.slice none 0 0) ∧ W.cell? ⟨w.heap.size + 1, 2, none⟩ = some (.slice none 0 0) ∧ W.frozen? ⟨w.heap.size + 1, 0, none⟩ = false ∧ W.frozen? ⟨w.heap.size + 1, 1, none⟩ = false ∧ W.frozen? ⟨w.heap.size + 1, 2, none⟩ = false))
  have hni := hc.hi
  have hng := hc.hg
  have hno := hc.ho
  have HC := Lib.hid hc
  have HW := Lib.hid (And.intro hW1 hW2)
  have hs2' : w.heap.size + 2 ≤ W2.heap.size := by omega
  clear hW1 hW2 hc hbw c0 c1 c2 hs1 hs2 hnew2 g0 g1 g2 z0 z1 z2
  go_enter Try.func6, Try.ntmps6
  go_wp2_with fail
  rw [← HW.out.1, ← HW.out.2]
  clear HW
  go_region_held3 (fun w' => w'.cell? ⟨w.heap.size, 0, none⟩ = some (.slice pi ni ci) ∧ w'.cell? ⟨w.heap.size, 1, none⟩ = some (.slice pg ng cg) ∧ w'.cell? ⟨w.heap.size, 2, none⟩ = some (.slice po no co) ∧ Below (w.heap.size + 1) W2 w')
    (first | (refine HSB.out _ ?_; (repeat (first | assumption | exact Below.refl _ _ | exact Below.mono (by assumption : Below (w.heap.size + 2) W2 _) (by omega) | refine Below.drew ?_ | (refine Below.setCell ?_ ?_ _; rotate_left; · (simp; done)) | (refine Below.alloc ?_ ?_ _; rotate_left; · (first | assumption | omega | (simp [World.drew] <;> omega))))); done) )
    (first
      | (refine step_append_copy _ (by rfl) _ _ 22 (by rfl) 45 i0 _ 2 24 Try.underlying22 hi0 hz0 hz1 hz2 rfl (by omega) _ (by rfl) pi ni ci (insC N B) (by rfl) (S0.out _ (by repeat (first | assumption | exact Below.refl _ _ | exact Below.mono (by assumption : Below (w.heap.size + 2) W2 _) (by omega) | refine Below.drew ?_ | (refine Below.setCell ?_ ?_ _; rotate_left; · (simp; done)) | (refine Below.alloc ?_ ?_ _; rotate_left; · (first | assumption | omega | (simp [World.drew] <;> omega)))))) (by unfold maxLen; omega) (by omega) ?_; intro A1 k1 w1 hr1 hb1; have hB1 : Below (w.heap.size + 2) W2 w1 := Below.trans (by repeat (first | assumption | exact Below.refl _ _ | exact Below.mono (by assumption : Below (w.heap.size + 2) W2 _) (by omega) | refine Below.drew ?_ | (refine Below.setCell ?_ ?_ _; rotate_left; · (simp; done)) | (refine Below.alloc ?_ ?_ _; rotate_left; · (first | assumption | omega | (simp [World.drew] <;> omega))))) (hb1.mono (by (first | assumption | omega | (simp [World.drew] <;> omega)))); have hZ1 : w.heap.size + 2 ≤ w1.heap.size := Nat.le_trans hs2' hB1.size; have R1 := Lib.hid (hr1.mono (by (first | assumption | omega | (simp [World.drew] <;> omega)) : w.heap.size + 2 ≤ _)); have B1 := Lib.hid hb1; clear hr1 hb1)
      | (refine step_append_copy _ (by rfl) _ _ 23 (by rfl) 52 i1 _ 2 16 Try.underlying23 hi1 hy0 hy1 hy2 rfl (by omega) _ (by rfl) pg ng cg (pairC P Q) (by rfl) (S1.out _ (by repeat (first | assumption | exact Below.refl _ _ | exact Below.mono (by assumption : Below (w.heap.size + 2) W2 _) (by omega) | refine Below.drew ?_ | (refine Below.setCell ?_ ?_ _; rotate_left; · (simp; done)) | (refine Below.alloc ?_ ?_ _; rotate_left; · (first | assumption | omega | (simp [World.drew] <;> omega)))))) (by unfold maxLen; omega) (by omega) ?_; intro A2 k2 w2 hr2 hb2; have hB2 : Below (w.heap.size + 2) W2 w2 := Below.trans (by repeat (first | assumption | exact Below.refl _ _ | exact Below.mono (by assumption : Below (w.heap.size + 2) W2 _) (by omega) | refine Below.drew ?_ | (refine Below.setCell ?_ ?_ _; rotate_left; · (simp; done)) | (refine Below.alloc ?_ ?_ _; rotate_left; · (first | assumption | omega | (simp [World.drew] <;> omega))))) (hb2.mono (by (first | assumption | omega | (simp [World.drew] <;> omega)))); have hZ2 : w.heap.size + 2 ≤ w2.heap.size := Nat.le_trans hs2' hB2.size; have R2 := Lib.hid (hr2.mono (by (first | assumption | omega | (simp [World.drew] <;> omega)) : w.heap.size + 2 ≤ _)); have N1 := Lib.hid (Below.trans (by repeat (first | exact Below.refl _ _ | refine Below.drew ?_ | (refine Below.alloc ?_ ?_ _; rotate_left; · (first | assumption | omega | (simp [World.drew] <;> omega)))) : Below w1.heap.size w1 _) (hb2.mono (by (first | assumption | omega | (simp [World.drew] <;> omega))))); have B2 := Lib.hid hb2; clear hr2 hb2)
      | (refine step_append_copy _ (by rfl) _ _ 24 (by rfl) 3 i2 _ 1 8 Try.underlying24 hi2 hx0 hx1 hx2 rfl (by omega) _ (by rfl) po no co (numC O) (by rfl) (S2.out _ (by repeat (first | assumption | exact Below.refl _ _ | exact Below.mono (by assumption : Below (w.heap.size + 2) W2 _) (by omega) | refine Below.drew ?_ | (refine Below.setCell ?_ ?_ _; rotate_left; · (simp; done)) | (refine Below.alloc ?_ ?_ _; rotate_left; · (first | assumption | omega | (simp [World.drew] <;> omega)))))) (by unfold maxLen; omega) (by omega) ?_; intro A3 k3 w3 hr3 hb3; have hB3 : Below (w.heap.size + 2) W2 w3 := Below.trans (by repeat (first | assumption | exact Below.refl _ _ | exact Below.mono (by assumption : Below (w.heap.size + 2) W2 _) (by omega) | refine Below.drew ?_ | (refine Below.setCell ?_ ?_ _; rotate_left; · (simp; done)) | (refine Below.alloc ?_ ?_ _; rotate_left; · (first | assumption | omega | (simp [World.drew] <;> omega))))) (hb3.mono (by (first | assumption | omega | (simp [World.drew] <;> omega)))); have hZ3 : w.heap.size + 2 ≤ w3.heap.size := Nat.le_trans hs2' hB3.size; have R3 := Lib.hid (hr3.mono (by (first | assumption | omega | (simp [World.drew] <;> omega)) : w.heap.size + 2 ≤ _)); have N2 := Lib.hid (Below.trans (by repeat (first | exact Below.refl _ _ | refine Below.drew ?_ | (refine Below.alloc ?_ ?_ _; rotate_left; · (first | assumption | omega | (simp [World.drew] <;> omega)))) : Below w2.heap.size w2 _) (hb3.mono (by (first | assumption | omega | (simp [World.drew] <;> omega))))); have B3 := Lib.hid hb3; clear hr3 hb3; obtain ⟨E0, E1, E2, F0, F1, F2⟩ := HE.out _ hB3))
  all_goals
    have HF := Lib.hid (twin_end HC.out HBW.out hB3 R1.out R2.out R3.out N1.out N2.out k1 k2 k3)
    clear R1 R2 R3 N1 N2 B1 B2 B3 hB1 hB2 hB3 hZ1 hZ2 hZ3 HSB HE S0 S1 S2 HBW HC
    go_wp2
    exact bodyPost_ret (v := .agg #[.slice A1 ni k1, .slice A2 ng k2, .slice A3 no k3]) (by simp [results, Try.results6, go_sem, E0, E1, E2]) rfl HF.out
end Go.Proofs.Ytmbogdimjbhbmaa
