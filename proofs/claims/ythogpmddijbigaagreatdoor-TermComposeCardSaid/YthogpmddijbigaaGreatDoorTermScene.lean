/- The value of a term in a scene: (scene).value of package term. -/
import Derived.Test.YthogpmddijbigaaGreatDoorTermEval
import Derived.Test.YthogpmddijbigaaGreatDoorTermVars
import Derived.Deep.RegionHeld3
namespace Go.Proofs.YthogpmddijbigaaGreatDoor
open Go.RowKit Go.Sort
set_option linter.unusedVariables false
set_option linter.unusedSimpArgs false

/-- What the cells of the values and widths of the parts hold after k rounds. -/
def upToN (k : Nat) (f : Nat → Nat) (j : Nat) : Nat := if j < k then f j else 0
def upToI (k : Nat) (f : Nat → Int) (j : Nat) : Int := if j < k then f j else 0
/-- The memory of the call after k rounds. -/
structure SV (n B : Nat) (mp : Option Addr) (mn mc : Nat) (t : Tm) (sv : Value) (fv : Nat → Nat) (fw : Nat → Int) (w wr : World) (k : Nat) : Prop where
  c0 : wr.cell? ⟨n, 0, none⟩ = some (.map (some B))
  c1 : wr.cell? ⟨n, 1, none⟩ = some (.slice mp mn mc)
  tc : wr.heap[n + 1]? = some (.cells (Tm.cells t sv).toArray 25 (0, 0))
  ov : ∀ j, j < 3 → wr.cell? ⟨n + 1 + 1, j, none⟩ = some (.int .u64 (upToN k fv j))
  wv : ∀ j, j < 3 → wr.cell? ⟨n + 1 + 1 + 1, j, none⟩ = some (.int .i64 (upToI k fw j))
  fo : ∀ j, wr.frozen? ⟨n + 1 + 1, j, none⟩ = false
  fi : ∀ j, wr.frozen? ⟨n + 1 + 1 + 1, j, none⟩ = false
  below : Below w.heap.size w wr
  size : n + 4 ≤ wr.heap.size
  start : w.heap.size = n
theorem SV.down {n B : Nat} {mp : Option Addr} {mn mc : Nat} {t : Tm} {sv : Value} {fv : Nat → Nat} {fw : Nat → Int} {w wr w5 : World} {k : Nat} (h : SV n B mp mn mc t sv fv fw w wr k) (hb : Below wr.heap.size wr w5) : SV n B mp mn mc t sv fv fw w w5 k := by
  have hz := h.size
  refine ⟨?_, ?_, ?_, fun j hj => ?_, fun j hj => ?_, fun j => ?_, fun j => ?_, h.below.trans (hb.mono h.below.size), Nat.le_trans hz hb.size, h.start⟩
  · rw [hb.cell (by simp; omega)]; exact h.c0
  · rw [hb.cell (by simp; omega)]; exact h.c1
  · rw [hb.block _ (by omega)]; exact h.tc
  · rw [hb.cell (by simp; omega)]; exact h.ov j hj
  · rw [hb.cell (by simp; omega)]; exact h.wv j hj
  · rw [hb.frozen (by simp; omega)]; exact h.fo j
  · rw [hb.frozen (by simp; omega)]; exact h.fi j
theorem cell_set_same {W : World} {a : Addr} {u v : Value} (hc : W.cell? a = some u) : (W.setCell a v).cell? a = some v := World.cell?_setCell_same' _ _ _ (by rw [hc]; rfl)
theorem cell_set_off {W : World} {b i j : Nat} {u v : Value} (h : i ≠ j) (hc : W.cell? ⟨b, j, none⟩ = some v) : (W.setCell ⟨b, i, none⟩ u).cell? ⟨b, j, none⟩ = some v := by
  rw [Go.World.cell?_setCell_other _ _ _ _ (fun e => by injection e with e1 e2; exact h e2)]; exact hc
theorem SV.step {n B : Nat} {mp : Option Addr} {mn mc : Nat} {t : Tm} {sv : Value} {fv : Nat → Nat} {fw : Nat → Int} {w w5 : World} {k : Nat} (h : SV n B mp mn mc t sv fv fw w w5 k) (hk : k < 3) :
    SV n B mp mn mc t sv fv fw w ((w5.setCell ⟨n + 1 + 1, k, none⟩ (.int .u64 (fv k))).setCell ⟨n + 1 + 1 + 1, k, none⟩ (.int .i64 (fw k))) (k + 1) := by
  have hs := h.start
  refine ⟨?_, ?_, ?_, fun j hj => ?_, fun j hj => ?_, fun j => ?_, fun j => ?_, ?_, ?_, h.start⟩
  · exact cell_set_other (by show n ≠ n + 1 + 1 + 1; omega) (cell_set_other (by show n ≠ n + 1 + 1; omega) h.c0)
  · exact cell_set_other (by show n ≠ n + 1 + 1 + 1; omega) (cell_set_other (by show n ≠ n + 1 + 1; omega) h.c1)
  · rw [Below.heap_setCell _ _ _ _ (by show n + 1 ≠ n + 1 + 1 + 1; omega), Below.heap_setCell _ _ _ _ (by show n + 1 ≠ n + 1 + 1; omega)]; exact h.tc
  · refine cell_set_other (by simp) ?_
    by_cases e : j = k
    · subst e
      rw [cell_set_same (h.ov j hj)]; simp [upToN]
    · rw [cell_set_off (fun q => e q.symm) (h.ov j hj)]
      unfold upToN
      by_cases h1 : j < k
      · rw [if_pos h1, if_pos (by omega)]
      · rw [if_neg h1, if_neg (by omega)]
  · have h1 : (w5.setCell ⟨n + 1 + 1, k, none⟩ (.int .u64 (fv k))).cell? ⟨n + 1 + 1 + 1, j, none⟩ = some (.int .i64 (upToI k fw j)) := cell_set_other (by simp) (h.wv j hj)
    by_cases e : j = k
    · subst e
      rw [cell_set_same h1]; simp [upToI]
    · rw [cell_set_off (fun q => e q.symm) h1]
      unfold upToI
      by_cases h2 : j < k
      · rw [if_pos h2, if_pos (by omega)]
      · rw [if_neg h2, if_neg (by omega)]
  · rw [World.frozen?_setCell, World.frozen?_setCell]; exact h.fo j
  · rw [World.frozen?_setCell, World.frozen?_setCell]; exact h.fi j
  · exact (h.below.setCell (by simp; omega) _).setCell (by simp; omega) _
  · have := h.size; simp; omega
theorem SV.cellT {n B : Nat} {mp : Option Addr} {mn mc : Nat} {t : Tm} {sv : Value} {fv : Nat → Nat} {fw : Nat → Int} {w wr : World} {k : Nat} (h : SV n B mp mn mc t sv fv fw w wr k) (i : Nat) (v : Value) (hv : (Tm.cells t sv)[i]? = some v) : wr.cell? ⟨n + 1, i, none⟩ = some v :=
  cell_of (i := i) h.tc (by rw [List.getElem?_toArray]; exact hv)
theorem heap_up {W : World} {k : Nat} {o : Obj} (h : W.heap[k]? = some o) (o' : Obj) : (W.alloc o').heap[k]? = some o := (Below.heap_alloc W o' k (Array.getElem?_eq_some_iff.1 h).1).trans h
theorem frozen_of {W : World} {k : Nat} {c : Array Value} {e : TypeId} (h : W.heap[k]? = some (.cells c e (0, 0))) (j : Nat) : W.frozen? ⟨k, j, none⟩ = false := by
  simp [World.frozen?, h]
theorem SV.begin (n B : Nat) (mp : Option Addr) (mn mc : Nat) (t : Tm) (sv : Value) (fv : Nat → Nat) (fw : Nat → Int) (w W4 : World) (hn : n = w.heap.size)
    (h : W4 = (((w.alloc (.cells #[.map (some B), .slice mp mn mc] 69)).alloc (.cells (Tm.cells t sv).toArray 25)).alloc (.cells #[.int .u64 0, .int .u64 0, .int .u64 0] 35)).alloc (.cells #[.int .i64 0, .int .i64 0, .int .i64 0] 104)) :
    SV n B mp mn mc t sv fv fw w W4 0 := by
  have h0 : W4.heap[n]? = some (.cells #[.map (some B), .slice mp mn mc] 69 (0, 0)) := by rw [h]; exact heap_up (heap_up (heap_up (new_atw hn _) _) _) _
  have h1 : W4.heap[n + 1]? = some (.cells (Tm.cells t sv).toArray 25 (0, 0)) := by rw [h]; exact heap_up (heap_up (new_atw (by simp [hn]) _) _) _
  have h2 : W4.heap[n + 1 + 1]? = some (.cells #[.int .u64 0, .int .u64 0, .int .u64 0] 35 (0, 0)) := by rw [h]; exact heap_up (new_atw (by simp [hn]) _) _
  have h3 : W4.heap[n + 1 + 1 + 1]? = some (.cells #[.int .i64 0, .int .i64 0, .int .i64 0] 104 (0, 0)) := by rw [h]; exact new_atw (by simp [hn]) _
  refine ⟨cell_of (i := 0) h0 rfl, cell_of (i := 1) h0 rfl, h1, fun j hj => ?_, fun j hj => ?_, fun j => frozen_of h2 j, fun j => frozen_of h3 j, ?_, ?_, hn.symm⟩
  · match j, hj with
    | 0, _ => exact cell_of (i := 0) h2 rfl
    | 1, _ => exact cell_of (i := 1) h2 rfl
    | 2, _ => exact cell_of (i := 2) h2 rfl
  · match j, hj with
    | 0, _ => exact cell_of (i := 0) h3 rfl
    | 1, _ => exact cell_of (i := 1) h3 rfl
    | 2, _ => exact cell_of (i := 2) h3 rfl
  · rw [h]
    exact ((((Below.refl _ w).alloc (Nat.le_refl _) _).alloc (by simp) _).alloc (by simp; omega) _).alloc (by simp; omega) _
  · rw [h, hn]; simp

set_option maxRecDepth 100000 in
set_option maxHeartbeats 2000000 in
theorem scene_any {H : Type} (B nb : Nat) (D : DataW H) (mp : Option Addr) (mn mc : Nat) (A Bt : Nat → Nat) (V : ByteArray → Nat) (L : Nat → Nat → Nat → Nat) (hmn : mn ≤ 4200) (hBt : ∀ i, i < mn → Bt i < 256) (hL : L = fun a b k => part (fun i => bytN A Bt mn (adr a b i)) k) :
    ∀ (z : Nat) (t : Tm), t.sz ≤ z → t.Valid → t.fit → VarsFit V t → (∀ u ∈ t.nodes, u.kind = 2 → D.atKey (nameKey u.name) (.lit (.int .u64 0)) = .lit (.int .u64 (V u.name))) → ∀ (sv : Value) (w : World), SubAt w w.heap.size sv t.sub → MemAt w mp mn A Bt → w.ownsMap Tryz.prog 9 (plainElem Tryz.prog 22) B nb D →
    Calls Tryz.prog 35 #[.agg #[.map (some B), .slice mp mn mc], .agg (Tm.cells t sv).toArray] w fun e w' => e = .returned (.int .u64 (t.val V L)) ∧ Below w.heap.size w w' := by
  intro z
  induction z with
  | zero => intro t ht; rw [Tm.sz_eq] at ht; omega
  | succ z ih =>
    intro t ht hv hfit hV hD sv w hs hm hown
    obtain ⟨p, nn, cap, S, rfl, hlen, hmax, hfits, hcells, hsubs⟩ := hs.inv
    obtain ⟨k1, k24, hw, hpl, _, hfitR⟩ := formedR_parts hv.formed
    have hnn : nn ≤ 3 := by
      rw [← hlen, hpl]; unfold partsK; repeat' split
      all_goals omega
    obtain ⟨rv, hrv⟩ : ∃ rv, rv = t.val V L := ⟨_, rfl⟩
    rw [← hrv]
    have HRV := Lib.hid hrv
    clear hrv
    obtain ⟨n, hn⟩ : ∃ n, n = w.heap.size := ⟨_, rfl⟩
    obtain ⟨W4, hW4⟩ : ∃ W4, W4 = (((w.alloc (.cells #[.map (some B), .slice mp mn mc] 69)).alloc (.cells (Tm.cells t (.slice p nn cap)).toArray 25)).alloc (.cells #[.int .u64 0, .int .u64 0, .int .u64 0] 35)).alloc (.cells #[.int .i64 0, .int .i64 0, .int .i64 0] 104) := ⟨_, rfl⟩
    have hSV : SV n B mp mn mc t (.slice p nn cap) (fun j => vAt V L t.sub j) (fun j => wdAt t.sub j) w W4 0 := by
      exact SV.begin n B mp mn mc t _ _ _ w W4 hn hW4
    have HSV := Lib.hid hSV
    have HW4 := Lib.hid hW4
    clear hSV hW4
    rw [hn] at HSV
    simp only [Tm.cells] at HW4 ⊢
    go_enter Tryz.func35, Tryz.ntmps35
    go_wp2_with fail
    rw [← HW4.out]
    have HM4 : Hid (∀ X : World, Below w.heap.size w X → MemAt X mp mn A Bt) := Lib.hid (fun X h => hm.below h)
    have HO4 : Hid (∀ X : World, Below w.heap.size w X → X.ownsMap Tryz.prog 9 (plainElem Tryz.prog 22) B nb D) := Lib.hid (fun X h => own_below hown h)
    have HIH := Lib.hid ih
    have HHV := Lib.hid hv
    have HHF := Lib.hid hfits
    have HHC := Lib.hid hcells
    have HHS := Lib.hid hsubs
    have HV := Lib.hid hV
    have HD := Lib.hid hD
    have HLN := Lib.hid hlen
    have HN := Lib.hid hn
    have HT := Lib.hid ht
    have HMX := Lib.hid hmax
    clear ih hv hfits hcells hsubs hV hD hlen hn ht hmax hm hown hs
    rw [← HN.out] at HSV ⊢
    go_loopw [13] (fun vi wr => ∃ k : Nat, vi = .int .i64 k ∧ k ≤ nn ∧ SV n B mp mn mc t (.slice p nn cap) (fun j => vAt V L t.sub j) (fun j => wdAt t.sub j) w wr k) (fun vi _ => nn - (intOf vi).toNat)
    case atStart => exact ⟨0, rfl, by omega, HSV.out⟩
    case round =>
      obtain ⟨k, rfl, hk, hSV⟩ := hrel
      have HS := Lib.hid hSV
      by_cases hlt : k < nn
      · obtain ⟨u, hu⟩ : ∃ u, t.sub[k]? = some u := ⟨_, List.getElem?_eq_getElem (by have := HLN.out; omega)⟩
        obtain ⟨b, o, rfl, hbn, a0, a1, a2, a3, a4, a5⟩ := HHC.out k u hu
        have hsk := HHS.out k u hu
        obtain ⟨p', n', cap', _, hSk, _⟩ := hsk.inv
        rw [hSk] at hsk a5
        rw [← hSV.below.cell hbn] at a0 a1 a2 a3 a4 a5
        have hum : u ∈ t.sub := List.mem_of_getElem? hu
        obtain ⟨W5, hW5⟩ : ∃ W5, W5 = wr.alloc (Obj.cells #[.int .u8 u.kind, .int .i64 u.width, .int .u64 u.bits, .string u.name, .int .i64 u.low, .slice p' n' cap'] 25) := ⟨_, rfl⟩
        obtain ⟨q, hq⟩ : ∃ q, q = wr.heap.size := ⟨_, rfl⟩
        have hb5 : Below wr.heap.size wr W5 := by rw [hW5]; exact (Below.refl _ _).alloc (Nat.le_refl _) _
        have hS5 : SV n B mp mn mc t _ (fun j => vAt V L t.sub j) (fun j => wdAt t.sub j) w W5 k := hSV.down hb5
        have hq5 : W5.heap[q]? = some (.cells #[.int .u8 u.kind, .int .i64 u.width, .int .u64 u.bits, .string u.name, .int .i64 u.low, .slice p' n' cap'] 25 (0, 0)) := by rw [hW5, hq]; exact World.alloc_heap_new wr _
        have HC5 := Lib.hid (fun (X : World) (h : Below W5.heap.size W5 X) => HIH.out u (by have := Tm.sz_mem hum; have := Tm.sz_eq t; have := HT.out; omega) (HHV.out.sub hum) (HHF.out k u hu) (HV.out.sub hum) (fun v hv => HD.out v (Tm.nodes_sub hum hv)) (.slice p' n' cap') X
          ((hsk.kept (hS5.below.trans (h.mono hS5.below.size))).up (Nat.le_trans hS5.below.size h.size)) (HM4.out X (hS5.below.trans (h.mono hS5.below.size))) (HO4.out X (hS5.below.trans (h.mono hS5.below.size))))
        simp only [Tm.cells] at HC5
        have HW5 := Lib.hid hW5
        have HS5 := Lib.hid hS5
        have HQ5 := Lib.hid hq5
        have HU := Lib.hid hu
        have hfo := hS5.fo k
        have hfi := hS5.fi k
        have hov := hS5.ov k (by omega)
        have hwv := hS5.wv k (by omega)
        have e0 := hS5.c0
        have e1 := hS5.c1
        have m0 := cell_of (i := 0) hq5 rfl
        have m1 := cell_of (i := 1) hq5 rfl
        have m2 := cell_of (i := 2) hq5 rfl
        have m3 := cell_of (i := 3) hq5 rfl
        have m4 := cell_of (i := 4) hq5 rfl
        have m5 := cell_of (i := 5) hq5 rfl
        have hqn : n + 4 ≤ q := by rw [hq]; exact hSV.size
        have hql : q < W5.heap.size := (Array.getElem?_eq_some_iff.1 hq5).1
        clear hS5 hq5 hW5 hsk hSk hum hSV hbn hb5
        rw [hq] at m0 m1 m2 m3 m4 m5
        go_wp2_with fail
        rw [← HW5.out]
        rw [← hq] at m0 m1 m2 m3 m4 m5 ⊢
        clear a0 a1 a2 a3 a4 a5 hq
        obtain ⟨x, hx⟩ : ∃ x, x = u.val V L := ⟨_, rfl⟩
        have HX := Lib.hid hx
        have HSB := Lib.hid (fun (X : World) (h : Below W5.heap.size W5 X) => (⟨by rw [h.cell (by simp; omega)]; exact e0, by rw [h.cell (by simp; omega)]; exact e1, by rw [h.cell hql]; exact m0, by rw [h.cell hql]; exact m1, by rw [h.cell hql]; exact m2, by rw [h.cell hql]; exact m3, by rw [h.cell hql]; exact m4, by rw [h.cell hql]; exact m5⟩ : X.cell? ⟨n, 0, none⟩ = some (.map (some B)) ∧ X.cell? ⟨n, 1, none⟩ = some (.slice mp mn mc) ∧ X.cell? ⟨q, 0, none⟩ = some (.int .u8 u.kind) ∧ X.cell? ⟨q, 1, none⟩ = some (.int .i64 u.width) ∧ X.cell? ⟨q, 2, none⟩ = some (.int .u64 u.bits) ∧ X.cell? ⟨q, 3, none⟩ = some (.string u.name) ∧ X.cell? ⟨q, 4, none⟩ = some (.int .i64 u.low) ∧ X.cell? ⟨q, 5, none⟩ = some (.slice p' n' cap')))
        have HFB := Lib.hid (fun (X : World) (h : Below W5.heap.size W5 X) => (⟨by rw [h.cell (by simp; omega)]; exact hov, by rw [h.frozen (by simp; omega)]; exact hfo, by rw [h.cell (by simp; omega)]; exact hwv, by rw [h.frozen (by simp; omega)]; exact hfi⟩ : X.cell? ⟨n + 1 + 1, k, none⟩ = some (.int .u64 (upToN k (fun j => vAt V L t.sub j) k)) ∧ X.frozen? ⟨n + 1 + 1, k, none⟩ = false ∧ X.cell? ⟨n + 1 + 1 + 1, k, none⟩ = some (.int .i64 (upToI k (fun j => wdAt t.sub j) k)) ∧ X.frozen? ⟨n + 1 + 1 + 1, k, none⟩ = false))
        have hn2 : ¬ (n + 1 + 1 = q) := by omega
        have hn3 : ¬ (n + 1 + 1 + 1 = q) := by omega
        have hk3 : k < 3 := by omega
        have hki : (k : Int) < 3 := by omega
        rw [← hx] at HC5
        clear hx
        go_region_held3 (fun w' => w'.cell? ⟨n, 0, none⟩ = some (.map (some B)) ∧ w'.cell? ⟨n, 1, none⟩ = some (.slice mp mn mc) ∧ w'.cell? ⟨q, 0, none⟩ = some (.int .u8 u.kind) ∧ w'.cell? ⟨q, 1, none⟩ = some (.int .i64 u.width) ∧ w'.cell? ⟨q, 2, none⟩ = some (.int .u64 u.bits) ∧ w'.cell? ⟨q, 3, none⟩ = some (.string u.name) ∧ w'.cell? ⟨q, 4, none⟩ = some (.int .i64 u.low) ∧ w'.cell? ⟨q, 5, none⟩ = some (.slice p' n' cap'))
          (first | (refine HSB.out _ ?_; (repeat (first | assumption | exact Below.refl _ _ | refine Below.drew ?_)); done) | go_keep)
          (first
            | (go_at_call 35; (with_reducible refine (HC5.out _ (by (repeat (first | assumption | exact Below.refl _ _ | refine Below.drew ?_)))).mono ?_); rintro e w7 ⟨rfl, hb7⟩; have hB7 : Below W5.heap.size W5 w7 := Below.trans (by (repeat (first | assumption | exact Below.refl _ _ | refine Below.drew ?_))) (hb7.mono (by (first | assumption | exact Nat.le_refl _ | omega | (simp; done) | (simp; omega)))); clear hb7; obtain ⟨f0, f1, g0, g1, g2, g3, g4, g5⟩ := HSB.out w7 hB7; obtain ⟨i0, i1, i2, i3⟩ := HFB.out w7 hB7; have t0 := fun v => cell_set_other (a := ⟨n + 1 + 1, k, none⟩) (u := v) (by show n ≠ n + 1 + 1; omega) f0; have t1 := fun v => cell_set_other (a := ⟨n + 1 + 1, k, none⟩) (u := v) (by show n ≠ n + 1 + 1; omega) f1; have t2 := fun v v' => cell_set_other (a := ⟨n + 1 + 1 + 1, k, none⟩) (u := v') (by show n ≠ n + 1 + 1 + 1; omega) (t0 v); have t3 := fun v v' => cell_set_other (a := ⟨n + 1 + 1 + 1, k, none⟩) (u := v') (by show n ≠ n + 1 + 1 + 1; omega) (t1 v)))
        have HZ : Hid (SV n B mp mn mc t (.slice (some ⟨b, o, none⟩) nn cap) (fun j => vAt V L t.sub j) (fun j => wdAt t.sub j) w ((w7.setCell ⟨n + 1 + 1, k, none⟩ (.int .u64 x)).setCell ⟨n + 1 + 1 + 1, k, none⟩ (.int .i64 u.width)) (k + 1)) := Lib.hid (by
          have h := (HS5.out.down hB7).step hk3
          simp only [vAt_some HU.out, wdAt_some HU.out] at h
          rw [HX.out]; exact h)
        generalize (w7.setCell ⟨n + 1 + 1, k, none⟩ (.int .u64 x)).setCell ⟨n + 1 + 1 + 1, k, none⟩ (.int .i64 u.width) = wz at HZ ⊢
        go_wp2
        go_roundw
        case rel => exact ⟨k + 1, by first | rfl | (rw [wrap64_small _ (by omega) (by omega)]; rfl), by omega, HZ.out⟩
        case measure => (try rw [wrap64_small _ (by omega) (by omega)]); simp only [intOf]; omega
      · obtain rfl : k = nn := by omega
        have hvz : ∀ j, upToN k (fun j => vAt V L t.sub j) j = vAt V L t.sub j := fun j => by
          unfold upToN
          by_cases h : j < k
          · rw [if_pos h]
          · rw [if_neg h, vAt_none (by have := HLN.out; omega)]
        have hwz : ∀ j, upToI k (fun j => wdAt t.sub j) j = wdAt t.sub j := fun j => by
          unfold upToI
          by_cases h : j < k
          · rw [if_pos h]
          · rw [if_neg h, wdAt_none (by have := HLN.out; omega)]
        have e0 := hSV.c0
        have e1 := hSV.c1
        have T0 := hSV.cellT 0 _ rfl
        have T1 := hSV.cellT 1 _ rfl
        have T2 := hSV.cellT 2 _ rfl
        have T3 := hSV.cellT 3 _ rfl
        have T4 := hSV.cellT 4 _ rfl
        have o0 := hSV.ov 0 (by omega)
        have o1 := hSV.ov 1 (by omega)
        have o2 := hSV.ov 2 (by omega)
        have y0 := hSV.wv 0 (by omega)
        have y1 := hSV.wv 1 (by omega)
        rw [hvz] at o0 o1 o2
        rw [hwz] at y0 y1
        have HVAL := Lib.hid (HRV.out.trans (Tm.val_eq V L t))
        obtain ⟨v0, hv0⟩ : ∃ v, v = vAt V L t.sub 0 := ⟨_, rfl⟩
        obtain ⟨v1, hv1⟩ : ∃ v, v = vAt V L t.sub 1 := ⟨_, rfl⟩
        obtain ⟨v2, hv2⟩ : ∃ v, v = vAt V L t.sub 2 := ⟨_, rfl⟩
        obtain ⟨x, hx⟩ : ∃ v, v = wdAt t.sub 0 := ⟨_, rfl⟩
        obtain ⟨y, hy⟩ : ∃ v, v = wdAt t.sub 1 := ⟨_, rfl⟩
        rw [← hv0] at o0 HVAL
        rw [← hv1] at o1 HVAL
        rw [← hv2] at o2 HVAL
        rw [← hx] at y0 HVAL
        rw [← hy] at y1 HVAL
        have hxr : 0 < t.sub.length → 1 ≤ x ∧ x ≤ 64 := fun h => by
          have hu : t.sub[0]? = some t.sub[0] := List.getElem?_eq_getElem h
          rw [hx, wdAt_some hu]
          exact (formedR_parts (HHV.out.sub (List.getElem_mem h)).formed).2.2.1
        have hyr : 1 < t.sub.length → 1 ≤ y ∧ y ≤ 64 := fun h => by
          have hu : t.sub[1]? = some t.sub[1] := List.getElem?_eq_getElem h
          rw [hy, wdAt_some hu]
          exact (formedR_parts (HHV.out.sub (List.getElem_mem h)).formed).2.2.1
        have HXR := Lib.hid hxr
        have HYR := Lib.hid hyr
        have HWD := Lib.hid hw
        have HPL := Lib.hid hpl
        have HFR := Lib.hid hfitR
        have HFT := Lib.hid hfit
        have HB := Lib.hid hSV.below
        have HOM := Lib.hid (HO4.out wr hSV.below)
        have HMM := Lib.hid (HM4.out wr hSV.below)
        have HKK := Lib.hid (And.intro k1 k24)
        clear hSV hv0 hv1 hv2 hx hy hxr hyr hw hpl hfitR hfit hvz hwz k1 k24
        generalize hkk : t.kind = kk at *
        by_cases c1 : kk = 1
        · have HVE : Hid (rv = t.bits) := Lib.hid (by rw [HVAL.out]; unfold valK; rw [if_pos c1])
          have d1 : ((kk : Int) == 1) = true := by rw [beq_iff_eq]; omega
          have d2 : ((kk : Int) == 2) = false := by rw [beq_eq_false_iff_ne]; omega
          have d3 : ((kk : Int) == 3) = false := by rw [beq_eq_false_iff_ne]; omega
          have d4 : ((kk : Int) == 4) = false := by rw [beq_eq_false_iff_ne]; omega
          have d19 : ((kk : Int) == 19) = false := by rw [beq_eq_false_iff_ne]; omega
          have d20 : ((kk : Int) == 20) = false := by rw [beq_eq_false_iff_ne]; omega
          have d21 : ((kk : Int) == 21) = false := by rw [beq_eq_false_iff_ne]; omega
          have d22 : ((kk : Int) == 22) = false := by rw [beq_eq_false_iff_ne]; omega
          have d23 : ((kk : Int) == 23) = false := by rw [beq_eq_false_iff_ne]; omega
          have d24 : ((kk : Int) == 24) = false := by rw [beq_eq_false_iff_ne]; omega
          go_wp2
          go_ret
          exact ⟨by rw [HVE.out]; rfl, HB.out⟩
        by_cases c2 : kk = 2
        · have HVE : Hid (rv = V t.name) := Lib.hid (by rw [HVAL.out]; unfold valK; rw [if_neg c1, if_pos c2])
          have d1 : ((kk : Int) == 1) = false := by rw [beq_eq_false_iff_ne]; omega
          have d2 : ((kk : Int) == 2) = true := by rw [beq_iff_eq]; omega
          have d3 : ((kk : Int) == 3) = false := by rw [beq_eq_false_iff_ne]; omega
          have d4 : ((kk : Int) == 4) = false := by rw [beq_eq_false_iff_ne]; omega
          have d19 : ((kk : Int) == 19) = false := by rw [beq_eq_false_iff_ne]; omega
          have d20 : ((kk : Int) == 20) = false := by rw [beq_eq_false_iff_ne]; omega
          have d21 : ((kk : Int) == 21) = false := by rw [beq_eq_false_iff_ne]; omega
          have d22 : ((kk : Int) == 22) = false := by rw [beq_eq_false_iff_ne]; omega
          have d23 : ((kk : Int) == 23) = false := by rw [beq_eq_false_iff_ne]; omega
          have d24 : ((kk : Int) == 24) = false := by rw [beq_eq_false_iff_ne]; omega
          have HDD := Lib.hid (HD.out t t.nodes_self (by rw [hkk]; exact c2))
          have HSL := Lib.hid HFT.out.2.2.2.1
          go_wp2_with (at_lookup; refine wpList_lookup_own_int _ rfl _ _ 67 rfl 9 22 .u64 (Maps.string_keyed Tryz.underlying9) Tryz.underlying67 Tryz.underlying22 (Tryz.zeroValue22 _) B nb D rfl HOM.out _ (nameKey t.name) rfl (Go.WideMaps.keyOf_string_mk Tryz.underlying9 HSL.out) ?_; rw [HDD.out]; intro c hc hwc; obtain rfl : ((V t.name : Nat) : Int) = c := by injection hc with hc; injection hc)
          go_ret
          exact ⟨by rw [HVE.out]; rfl, HB.out⟩
        by_cases c3 : kk = 3
        · have HVE : Hid (rv = (opR 3 4 kk x v0 0).1) := Lib.hid (by rw [HVAL.out]; unfold valK; rw [if_neg c1, if_neg c2, if_pos (by omega)])
          have d1 : ((kk : Int) == 1) = false := by rw [beq_eq_false_iff_ne]; omega
          have d2 : ((kk : Int) == 2) = false := by rw [beq_eq_false_iff_ne]; omega
          have d3 : ((kk : Int) == 3) = true := by rw [beq_iff_eq]; omega
          have d4 : ((kk : Int) == 4) = false := by rw [beq_eq_false_iff_ne]; omega
          have d19 : ((kk : Int) == 19) = false := by rw [beq_eq_false_iff_ne]; omega
          have d20 : ((kk : Int) == 20) = false := by rw [beq_eq_false_iff_ne]; omega
          have d21 : ((kk : Int) == 21) = false := by rw [beq_eq_false_iff_ne]; omega
          have d22 : ((kk : Int) == 22) = false := by rw [beq_eq_false_iff_ne]; omega
          have d23 : ((kk : Int) == 23) = false := by rw [beq_eq_false_iff_ne]; omega
          have d24 : ((kk : Int) == 24) = false := by rw [beq_eq_false_iff_ne]; omega
          have HC := Lib.hid (show Calls Tryz.prog 11 #[.int .u8 3, .int .i64 x, .int .u64 v0] wr fun e w' => e = .returned (.tuple #[.int .u64 (opR 3 4 3 x v0 0).1, .int .i64 (opR 3 4 3 x v0 0).2]) ∧ Below wr.heap.size wr w' from unary_any 3 v0 x wr)
          go_wp2_with (go_at_call 11; (with_reducible refine HC.out.mono ?_); rintro e w9 ⟨rfl, hb9⟩)
          go_ret
          exact ⟨by rw [HVE.out, c3]; rfl, HB.out.trans (hb9.mono HB.out.size)⟩
        by_cases c4 : kk = 4
        · have HVE : Hid (rv = (opR 3 4 kk x v0 0).1) := Lib.hid (by rw [HVAL.out]; unfold valK; rw [if_neg c1, if_neg c2, if_pos (by omega)])
          have d1 : ((kk : Int) == 1) = false := by rw [beq_eq_false_iff_ne]; omega
          have d2 : ((kk : Int) == 2) = false := by rw [beq_eq_false_iff_ne]; omega
          have d3 : ((kk : Int) == 3) = false := by rw [beq_eq_false_iff_ne]; omega
          have d4 : ((kk : Int) == 4) = true := by rw [beq_iff_eq]; omega
          have d19 : ((kk : Int) == 19) = false := by rw [beq_eq_false_iff_ne]; omega
          have d20 : ((kk : Int) == 20) = false := by rw [beq_eq_false_iff_ne]; omega
          have d21 : ((kk : Int) == 21) = false := by rw [beq_eq_false_iff_ne]; omega
          have d22 : ((kk : Int) == 22) = false := by rw [beq_eq_false_iff_ne]; omega
          have d23 : ((kk : Int) == 23) = false := by rw [beq_eq_false_iff_ne]; omega
          have d24 : ((kk : Int) == 24) = false := by rw [beq_eq_false_iff_ne]; omega
          have HC := Lib.hid (show Calls Tryz.prog 11 #[.int .u8 4, .int .i64 x, .int .u64 v0] wr fun e w' => e = .returned (.tuple #[.int .u64 (opR 3 4 4 x v0 0).1, .int .i64 (opR 3 4 4 x v0 0).2]) ∧ Below wr.heap.size wr w' from unary_any 4 v0 x wr)
          go_wp2_with (go_at_call 11; (with_reducible refine HC.out.mono ?_); rintro e w9 ⟨rfl, hb9⟩)
          go_ret
          exact ⟨by rw [HVE.out, c4]; rfl, HB.out.trans (hb9.mono HB.out.size)⟩
        by_cases c19 : kk = 19
        · have HVE : Hid (rv = if v0 = 1 then v1 else v2) := Lib.hid (by rw [HVAL.out]; unfold valK; rw [if_neg c1, if_neg c2, if_neg (by omega), if_pos c19])
          have d1 : ((kk : Int) == 1) = false := by rw [beq_eq_false_iff_ne]; omega
          have d2 : ((kk : Int) == 2) = false := by rw [beq_eq_false_iff_ne]; omega
          have d3 : ((kk : Int) == 3) = false := by rw [beq_eq_false_iff_ne]; omega
          have d4 : ((kk : Int) == 4) = false := by rw [beq_eq_false_iff_ne]; omega
          have d19 : ((kk : Int) == 19) = true := by rw [beq_iff_eq]; omega
          have d20 : ((kk : Int) == 20) = false := by rw [beq_eq_false_iff_ne]; omega
          have d21 : ((kk : Int) == 21) = false := by rw [beq_eq_false_iff_ne]; omega
          have d22 : ((kk : Int) == 22) = false := by rw [beq_eq_false_iff_ne]; omega
          have d23 : ((kk : Int) == 23) = false := by rw [beq_eq_false_iff_ne]; omega
          have d24 : ((kk : Int) == 24) = false := by rw [beq_eq_false_iff_ne]; omega
          by_cases h1 : v0 = 1
          · have hq : ((v0 : Int) == 1) = true := by rw [beq_iff_eq]; omega
            go_wp2
            go_ret
            exact ⟨by rw [HVE.out, if_pos h1]; rfl, HB.out⟩
          · have hq : ((v0 : Int) == 1) = false := by rw [beq_eq_false_iff_ne]; omega
            go_wp2
            go_ret
            exact ⟨by rw [HVE.out, if_neg h1]; rfl, HB.out⟩
        by_cases c20 : kk = 20
        · have HVE : Hid (rv = (catR x v0 y v1).1) := Lib.hid (by rw [HVAL.out]; unfold valK; rw [if_neg c1, if_neg c2, if_neg (by omega), if_neg c19, if_pos c20])
          have d1 : ((kk : Int) == 1) = false := by rw [beq_eq_false_iff_ne]; omega
          have d2 : ((kk : Int) == 2) = false := by rw [beq_eq_false_iff_ne]; omega
          have d3 : ((kk : Int) == 3) = false := by rw [beq_eq_false_iff_ne]; omega
          have d4 : ((kk : Int) == 4) = false := by rw [beq_eq_false_iff_ne]; omega
          have d19 : ((kk : Int) == 19) = false := by rw [beq_eq_false_iff_ne]; omega
          have d20 : ((kk : Int) == 20) = true := by rw [beq_iff_eq]; omega
          have d21 : ((kk : Int) == 21) = false := by rw [beq_eq_false_iff_ne]; omega
          have d22 : ((kk : Int) == 22) = false := by rw [beq_eq_false_iff_ne]; omega
          have d23 : ((kk : Int) == 23) = false := by rw [beq_eq_false_iff_ne]; omega
          have d24 : ((kk : Int) == 24) = false := by rw [beq_eq_false_iff_ne]; omega
          have hy2 : 1 ≤ y ∧ y ≤ 64 := HYR.out (by rw [HPL.out, c20]; decide)
          have HC := Lib.hid (concat_any x v0 y v1 wr (by omega))
          clear hy2
          go_wp2_with (go_at_call 12; (with_reducible refine HC.out.mono ?_); rintro e w9 ⟨rfl, hb9⟩)
          go_ret
          exact ⟨by rw [HVE.out]; rfl, HB.out.trans (hb9.mono HB.out.size)⟩
        by_cases c21 : kk = 21
        · have HVE : Hid (rv = (exR x v0 t.low t.width).1) := Lib.hid (by rw [HVAL.out]; unfold valK; rw [if_neg c1, if_neg c2, if_neg (by omega), if_neg c19, if_neg c20, if_pos c21])
          have d1 : ((kk : Int) == 1) = false := by rw [beq_eq_false_iff_ne]; omega
          have d2 : ((kk : Int) == 2) = false := by rw [beq_eq_false_iff_ne]; omega
          have d3 : ((kk : Int) == 3) = false := by rw [beq_eq_false_iff_ne]; omega
          have d4 : ((kk : Int) == 4) = false := by rw [beq_eq_false_iff_ne]; omega
          have d19 : ((kk : Int) == 19) = false := by rw [beq_eq_false_iff_ne]; omega
          have d20 : ((kk : Int) == 20) = false := by rw [beq_eq_false_iff_ne]; omega
          have d21 : ((kk : Int) == 21) = true := by rw [beq_iff_eq]; omega
          have d22 : ((kk : Int) == 22) = false := by rw [beq_eq_false_iff_ne]; omega
          have d23 : ((kk : Int) == 23) = false := by rw [beq_eq_false_iff_ne]; omega
          have d24 : ((kk : Int) == 24) = false := by rw [beq_eq_false_iff_ne]; omega
          have HC := Lib.hid (extract_any x v0 t.low t.width wr HFT.out.2.2.2.2 HFT.out.2.1)
          go_wp2_with (go_at_call 13; (with_reducible refine HC.out.mono ?_); rintro e w9 ⟨rfl, hb9⟩)
          go_ret
          exact ⟨by rw [HVE.out]; rfl, HB.out.trans (hb9.mono HB.out.size)⟩
        by_cases c22 : kk = 22
        · have HVE : Hid (rv = (extR x v0 t.width false).1) := Lib.hid (by rw [HVAL.out]; unfold valK; rw [if_neg c1, if_neg c2, if_neg (by omega), if_neg c19, if_neg c20, if_neg c21, if_pos (by omega)]; rw [c22]; rfl)
          have d1 : ((kk : Int) == 1) = false := by rw [beq_eq_false_iff_ne]; omega
          have d2 : ((kk : Int) == 2) = false := by rw [beq_eq_false_iff_ne]; omega
          have d3 : ((kk : Int) == 3) = false := by rw [beq_eq_false_iff_ne]; omega
          have d4 : ((kk : Int) == 4) = false := by rw [beq_eq_false_iff_ne]; omega
          have d19 : ((kk : Int) == 19) = false := by rw [beq_eq_false_iff_ne]; omega
          have d20 : ((kk : Int) == 20) = false := by rw [beq_eq_false_iff_ne]; omega
          have d21 : ((kk : Int) == 21) = false := by rw [beq_eq_false_iff_ne]; omega
          have d22 : ((kk : Int) == 22) = true := by rw [beq_iff_eq]; omega
          have d23 : ((kk : Int) == 23) = false := by rw [beq_eq_false_iff_ne]; omega
          have d24 : ((kk : Int) == 24) = false := by rw [beq_eq_false_iff_ne]; omega
          have HC := Lib.hid (extend_any x v0 t.width false wr)
          go_wp2_with (go_at_call 14; (with_reducible refine HC.out.mono ?_); rintro e w9 ⟨rfl, hb9⟩)
          go_ret
          exact ⟨by rw [HVE.out]; rfl, HB.out.trans (hb9.mono HB.out.size)⟩
        by_cases c23 : kk = 23
        · have HVE : Hid (rv = (extR x v0 t.width true).1) := Lib.hid (by rw [HVAL.out]; unfold valK; rw [if_neg c1, if_neg c2, if_neg (by omega), if_neg c19, if_neg c20, if_neg c21, if_pos (by omega)]; rw [c23]; rfl)
          have d1 : ((kk : Int) == 1) = false := by rw [beq_eq_false_iff_ne]; omega
          have d2 : ((kk : Int) == 2) = false := by rw [beq_eq_false_iff_ne]; omega
          have d3 : ((kk : Int) == 3) = false := by rw [beq_eq_false_iff_ne]; omega
          have d4 : ((kk : Int) == 4) = false := by rw [beq_eq_false_iff_ne]; omega
          have d19 : ((kk : Int) == 19) = false := by rw [beq_eq_false_iff_ne]; omega
          have d20 : ((kk : Int) == 20) = false := by rw [beq_eq_false_iff_ne]; omega
          have d21 : ((kk : Int) == 21) = false := by rw [beq_eq_false_iff_ne]; omega
          have d22 : ((kk : Int) == 22) = false := by rw [beq_eq_false_iff_ne]; omega
          have d23 : ((kk : Int) == 23) = true := by rw [beq_iff_eq]; omega
          have d24 : ((kk : Int) == 24) = false := by rw [beq_eq_false_iff_ne]; omega
          have HC := Lib.hid (extend_any x v0 t.width true wr)
          go_wp2_with (go_at_call 14; (with_reducible refine HC.out.mono ?_); rintro e w9 ⟨rfl, hb9⟩)
          go_ret
          exact ⟨by rw [HVE.out]; rfl, HB.out.trans (hb9.mono HB.out.size)⟩
        by_cases c24 : kk = 24
        · have HVE : Hid (rv = L x.toNat v0 (t.width.toNat / 8)) := Lib.hid (by rw [HVAL.out]; unfold valK; rw [if_neg c1, if_neg c2, if_neg (by omega), if_neg c19, if_neg c20, if_neg c21, if_neg (by omega), if_pos c24])
          have d1 : ((kk : Int) == 1) = false := by rw [beq_eq_false_iff_ne]; omega
          have d2 : ((kk : Int) == 2) = false := by rw [beq_eq_false_iff_ne]; omega
          have d3 : ((kk : Int) == 3) = false := by rw [beq_eq_false_iff_ne]; omega
          have d4 : ((kk : Int) == 4) = false := by rw [beq_eq_false_iff_ne]; omega
          have d19 : ((kk : Int) == 19) = false := by rw [beq_eq_false_iff_ne]; omega
          have d20 : ((kk : Int) == 20) = false := by rw [beq_eq_false_iff_ne]; omega
          have d21 : ((kk : Int) == 21) = false := by rw [beq_eq_false_iff_ne]; omega
          have d22 : ((kk : Int) == 22) = false := by rw [beq_eq_false_iff_ne]; omega
          have d23 : ((kk : Int) == 23) = false := by rw [beq_eq_false_iff_ne]; omega
          have d24 : ((kk : Int) == 24) = true := by rw [beq_iff_eq]; omega
          have hx2 : 1 ≤ x ∧ x ≤ 64 := HXR.out (by rw [HPL.out, c24]; decide)
          obtain ⟨xn, rfl⟩ : ∃ xn : Nat, x = xn := ⟨x.toNat, by omega⟩
          have hw8 : t.width = 8 ∨ t.width = 16 ∨ t.width = 32 ∨ t.width = 64 := by
            have h := HFR.out
            unfold fitsR fitsK at h
            rw [hkk, if_neg c1, if_neg c2, if_neg (by omega), if_neg (by omega), if_neg c19, if_neg c20, if_neg c21, if_neg (by omega), if_pos c24] at h
            exact (loadW_iff _).1 h
          obtain ⟨mk8, m8, h8, hm8, hk8⟩ : ∃ k m : Nat, t.width = (m : Int) ∧ m = 8 * k ∧ k ≤ 8 := ⟨t.width.toNat / 8, 8 * (t.width.toNat / 8), by omega, rfl, by omega⟩
          have HVE2 : Hid (rv = part (fun i => bytN A Bt mn (adr xn v0 i)) mk8) := Lib.hid (by rw [HVE.out, hL, h8, hm8, Int.toNat_natCast, Int.toNat_natCast, Nat.mul_div_cancel_left _ (by decide)])
          have HC := Lib.hid (loaded_any mp mn mc A Bt xn v0 m8 mk8 (fun i => bytN A Bt mn (adr xn v0 i)) (fun i => rfl) wr hmn HMM.out (by omega) (by omega) hk8 hm8 hBt)
          rw [h8] at T1
          clear hw8 h8 hk8 hx2 HVE hm8
          go_wp2_with (go_at_call 45; (with_reducible refine HC.out.mono ?_); rintro e w9 ⟨rfl, hb9⟩)
          go_ret
          exact ⟨by rw [HVE2.out]; rfl, HB.out.trans (hb9.mono HB.out.size)⟩
        have HVE : Hid (rv = (opR 5 18 kk x v0 v1).1) := Lib.hid (by rw [HVAL.out]; unfold valK; rw [if_neg c1, if_neg c2, if_neg (by omega), if_neg c19, if_neg c20, if_neg c21, if_neg (by omega), if_neg c24])
        have d1 : ((kk : Int) == 1) = false := by rw [beq_eq_false_iff_ne]; omega
        have d2 : ((kk : Int) == 2) = false := by rw [beq_eq_false_iff_ne]; omega
        have d3 : ((kk : Int) == 3) = false := by rw [beq_eq_false_iff_ne]; omega
        have d4 : ((kk : Int) == 4) = false := by rw [beq_eq_false_iff_ne]; omega
        have d19 : ((kk : Int) == 19) = false := by rw [beq_eq_false_iff_ne]; omega
        have d20 : ((kk : Int) == 20) = false := by rw [beq_eq_false_iff_ne]; omega
        have d21 : ((kk : Int) == 21) = false := by rw [beq_eq_false_iff_ne]; omega
        have d22 : ((kk : Int) == 22) = false := by rw [beq_eq_false_iff_ne]; omega
        have d23 : ((kk : Int) == 23) = false := by rw [beq_eq_false_iff_ne]; omega
        have d24 : ((kk : Int) == 24) = false := by rw [beq_eq_false_iff_ne]; omega
        have HC := Lib.hid (binary_any kk v0 v1 x wr)
        go_wp2_with (go_at_call 16; (with_reducible refine HC.out.mono ?_); rintro e w9 ⟨rfl, hb9⟩)
        go_ret
        exact ⟨by rw [HVE.out]; rfl, HB.out.trans (hb9.mono HB.out.size)⟩
end Go.Proofs.YthogpmddijbigaaGreatDoor
