/- The walk of TermCompose (made by compose.py). -/
import Derived.Test.YthogpmddijbigaaGreatDoorTermOk
import Derived.Test.YthogpmddijbigaaGreatDoorTermComposePlay
namespace Go.Proofs.YthogpmddijbigaaGreatDoor.termCompose
open Go.Play Go.RowKit
set_option linter.unusedVariables false
set_option linter.unusedSimpArgs false

set_option maxRecDepth 100000 in
/-- The table of the kinds' shapes, when the call begins. -/
theorem shapes_of (W : World) (hL : laidMetH Tryz.prog Rows.termComposeRow.laid W) : ShapesAt W := by
  have hm : laidMet Tryz.prog Rows.termComposeRow.laid W := by
    have h1 := (laidMetH_iff.1 hL).1
    rw [filtered] at h1
    exact h1
  have h5 := laid_table (ρ := fun _ => none) hm (List.mem_of_getElem? (show Rows.termComposeRow.laid[5]? = some _ from rfl)) (g := 0) (by kernel_rfl) (t := ((Tryz.prog.globals[0]?).map (·.type)).getD 0) (by kernel_rfl) (k := 8) (vs := [.lit (.string ⟨#[]⟩), .lit (.int .i64 0), .lit (.string ⟨#[]⟩), .lit (.int .i64 0), .lit (.string ⟨#[]⟩), .lit (.int .i64 0), .lit (.string ⟨#[110, 111, 116]⟩), .lit (.int .i64 1), .lit (.string ⟨#[110, 101, 103]⟩), .lit (.int .i64 1), .lit (.string ⟨#[97, 100, 100]⟩), .lit (.int .i64 2), .lit (.string ⟨#[115, 117, 98]⟩), .lit (.int .i64 2), .lit (.string ⟨#[109, 117, 108]⟩), .lit (.int .i64 2), .lit (.string ⟨#[97, 110, 100]⟩), .lit (.int .i64 2), .lit (.string ⟨#[111, 114]⟩), .lit (.int .i64 2), .lit (.string ⟨#[120, 111, 114]⟩), .lit (.int .i64 2), .lit (.string ⟨#[115, 104, 108]⟩), .lit (.int .i64 2), .lit (.string ⟨#[115, 104, 114]⟩), .lit (.int .i64 2), .lit (.string ⟨#[115, 97, 114]⟩), .lit (.int .i64 2), .lit (.string ⟨#[117, 100, 105, 118]⟩), .lit (.int .i64 2), .lit (.string ⟨#[117, 114, 101, 109]⟩), .lit (.int .i64 2), .lit (.string ⟨#[101, 113]⟩), .lit (.int .i64 2), .lit (.string ⟨#[117, 108, 116]⟩), .lit (.int .i64 2), .lit (.string ⟨#[115, 108, 116]⟩), .lit (.int .i64 2), .lit (.string ⟨#[105, 116, 101]⟩), .lit (.int .i64 3), .lit (.string ⟨#[99, 111, 110, 99, 97, 116]⟩), .lit (.int .i64 2), .lit (.string ⟨#[101, 120, 116, 114, 97, 99, 116]⟩), .lit (.int .i64 1), .lit (.string ⟨#[122, 101, 120, 116]⟩), .lit (.int .i64 1), .lit (.string ⟨#[115, 101, 120, 116]⟩), .lit (.int .i64 1), .lit (.string ⟨#[108, 111, 97, 100]⟩), .lit (.int .i64 1)]) (by kernel_rfl)
  obtain ⟨c, el, fr, hc, hv⟩ := h5
  intro k hk
  have key : ∀ (v : Value), c[k * 2 + 1]? = some v → W.cell? ⟨0, k * 2 + 1, none⟩ = some v := fun v h => by simp [World.cell?, hc, h]
  apply key
  rcases (by omega : k = 0 ∨ k = 1 ∨ k = 2 ∨ k = 3 ∨ k = 4 ∨ k = 5 ∨ k = 6 ∨ k = 7 ∨ k = 8 ∨ k = 9 ∨ k = 10 ∨ k = 11 ∨ k = 12 ∨ k = 13 ∨ k = 14 ∨ k = 15 ∨ k = 16 ∨ k = 17 ∨ k = 18 ∨ k = 19 ∨ k = 20 ∨ k = 21 ∨ k = 22 ∨ k = 23 ∨ k = 24) with rfl | rfl | rfl | rfl | rfl | rfl | rfl | rfl | rfl | rfl | rfl | rfl | rfl | rfl | rfl | rfl | rfl | rfl | rfl | rfl | rfl | rfl | rfl | rfl | rfl
  · obtain ⟨x, hx, hr⟩ := hv 1 _ rfl; cases hr; exact hx
  · obtain ⟨x, hx, hr⟩ := hv 3 _ rfl; cases hr; exact hx
  · obtain ⟨x, hx, hr⟩ := hv 5 _ rfl; cases hr; exact hx
  · obtain ⟨x, hx, hr⟩ := hv 7 _ rfl; cases hr; exact hx
  · obtain ⟨x, hx, hr⟩ := hv 9 _ rfl; cases hr; exact hx
  · obtain ⟨x, hx, hr⟩ := hv 11 _ rfl; cases hr; exact hx
  · obtain ⟨x, hx, hr⟩ := hv 13 _ rfl; cases hr; exact hx
  · obtain ⟨x, hx, hr⟩ := hv 15 _ rfl; cases hr; exact hx
  · obtain ⟨x, hx, hr⟩ := hv 17 _ rfl; cases hr; exact hx
  · obtain ⟨x, hx, hr⟩ := hv 19 _ rfl; cases hr; exact hx
  · obtain ⟨x, hx, hr⟩ := hv 21 _ rfl; cases hr; exact hx
  · obtain ⟨x, hx, hr⟩ := hv 23 _ rfl; cases hr; exact hx
  · obtain ⟨x, hx, hr⟩ := hv 25 _ rfl; cases hr; exact hx
  · obtain ⟨x, hx, hr⟩ := hv 27 _ rfl; cases hr; exact hx
  · obtain ⟨x, hx, hr⟩ := hv 29 _ rfl; cases hr; exact hx
  · obtain ⟨x, hx, hr⟩ := hv 31 _ rfl; cases hr; exact hx
  · obtain ⟨x, hx, hr⟩ := hv 33 _ rfl; cases hr; exact hx
  · obtain ⟨x, hx, hr⟩ := hv 35 _ rfl; cases hr; exact hx
  · obtain ⟨x, hx, hr⟩ := hv 37 _ rfl; cases hr; exact hx
  · obtain ⟨x, hx, hr⟩ := hv 39 _ rfl; cases hr; exact hx
  · obtain ⟨x, hx, hr⟩ := hv 41 _ rfl; cases hr; exact hx
  · obtain ⟨x, hx, hr⟩ := hv 43 _ rfl; cases hr; exact hx
  · obtain ⟨x, hx, hr⟩ := hv 45 _ rfl; cases hr; exact hx
  · obtain ⟨x, hx, hr⟩ := hv 47 _ rfl; cases hr; exact hx
  · obtain ⟨x, hx, hr⟩ := hv 49 _ rfl; cases hr; exact hx

/-- What all ways through the law have at hand. -/
structure Pre (t : Tm) (p : Option Addr) (nn cap : Nat) (pe : Option Addr) (n : Nat) (N : Nat → ByteArray) (D : Nat → Int) (X : Nat → Nat) (pm : Option Addr) (mn : Nat) (A Bt : Nat → Nat) (w : World) : Prop where
  sub : SubAt w w.heap.size (.slice p nn cap) t.sub
  fit : t.fit
  tab : ShapesAt w
  env : EnvAt w pe n N D X
  envX : ∀ i, i < n → X i < 18446744073709551616
  mem : MemAt w pm mn A Bt
  memB : ∀ i, i < mn → Bt i < 256
  live : ∀ Y, Below w.heap.size w Y → Calls Tryz.prog 6 #[] Y fun e w' => e = .returned (.bool true) ∧ Below Y.heap.size Y w'

/-- The values of the parts, in the list that the law makes. -/
structure LV (lb : Nat) (fv : Nat → Nat) (W1 wr : World) (k : Nat) : Prop where
  ov : ∀ j, j < 3 → wr.cell? ⟨lb, j, none⟩ = some (.int .u64 (upToN k fv j))
  fo : ∀ j, wr.frozen? ⟨lb, j, none⟩ = false
  below : Below W1.heap.size W1 wr
  size : lb < wr.heap.size
  ge : W1.heap.size ≤ lb
theorem LV.down {lb : Nat} {fv : Nat → Nat} {W1 wr w5 : World} {k : Nat} (h : LV lb fv W1 wr k) (hb : Below wr.heap.size wr w5) : LV lb fv W1 w5 k :=
  ⟨fun j hj => by rw [hb.cell h.size]; exact h.ov j hj, fun j => by rw [hb.frozen h.size]; exact h.fo j, h.below.trans (hb.mono h.below.size), Nat.lt_of_lt_of_le h.size hb.size, h.ge⟩
theorem LV.step {lb : Nat} {fv : Nat → Nat} {W1 w5 : World} {k : Nat} (h : LV lb fv W1 w5 k) (hk : k < 3) : LV lb fv W1 (w5.setCell ⟨lb, k, none⟩ (.int .u64 (fv k))) (k + 1) := by
  refine ⟨fun j hj => ?_, fun j => by rw [World.frozen?_setCell]; exact h.fo j, h.below.setCell h.ge _, by have := h.size; simp; omega, h.ge⟩
  by_cases e : j = k
  · subst e
    rw [cell_set_same (h.ov j hj)]; simp [upToN]
  · rw [cell_set_off (fun q => e q.symm) (h.ov j hj)]
    unfold upToN
    by_cases h1 : j < k
    · rw [if_pos h1, if_pos (by omega)]
    · rw [if_neg h1, if_neg (by omega)]

set_option maxRecDepth 100000 in
set_option maxHeartbeats 2000000 in
theorem core_great (t : Tm) (p : Option Addr) (nn cap : Nat) (pe : Option Addr) (n ce : Nat) (N : Nat → ByteArray) (D : Nat → Int) (X : Nat → Nat) (pm : Option Addr) (mn mc : Nat) (A Bt : Nat → Nat) (w : World) (hP : Pre t p nn cap pe n N D X pm mn A Bt w) (hq : greatM N n mn = true) :
    Calls Tryz.prog 3 #[.agg (Tm.cells t (.slice p nn cap)).toArray, .slice pe n ce, .slice pm mn mc] w fun e w' => e = .returned (.bool true) ∧ Below w.heap.size w w' := by
  obtain ⟨W1, hW1⟩ : ∃ W1, W1 = w.alloc (.cells (Tm.cells t (.slice p nn cap)).toArray 25) := ⟨_, rfl⟩
  have hb1 : Below w.heap.size w W1 := by rw [hW1]; exact (Below.refl _ _).alloc (Nat.le_refl _) _
  have hz1 : W1.heap.size = w.heap.size + 1 := by rw [hW1]; simp
  have h1h : W1.heap[w.heap.size]? = some (.cells (Tm.cells t (.slice p nn cap)).toArray 25 (0, 0)) := by rw [hW1]; exact new_atw rfl _
  have hcell : ∀ i v, (Tm.cells t (.slice p nn cap))[i]? = some v → W1.cell? ⟨w.heap.size, i, none⟩ = some v := fun i v h => cell_of (i := i) h1h (by rw [List.getElem?_toArray]; exact h)
  have HP := Lib.hid hP
  have HA := Lib.hid (hP.live W1 hb1)
  have HD := Lib.hid (fun Y (h : Below W1.heap.size W1 Y) => hb1.trans (h.mono hb1.size))
  have KT := Lib.hid (fun (Y : World) (h : Below W1.heap.size W1 Y) => (⟨by rw [h.cell (by rw [hz1]; show w.heap.size < w.heap.size + 1; omega)]; exact hcell 0 _ rfl, by rw [h.cell (by rw [hz1]; show w.heap.size < w.heap.size + 1; omega)]; exact hcell 1 _ rfl, by rw [h.cell (by rw [hz1]; show w.heap.size < w.heap.size + 1; omega)]; exact hcell 2 _ rfl, by rw [h.cell (by rw [hz1]; show w.heap.size < w.heap.size + 1; omega)]; exact hcell 3 _ rfl, by rw [h.cell (by rw [hz1]; show w.heap.size < w.heap.size + 1; omega)]; exact hcell 4 _ rfl, by rw [h.cell (by rw [hz1]; show w.heap.size < w.heap.size + 1; omega)]; exact hcell 5 _ rfl⟩ : Y.cell? ⟨w.heap.size, 0, none⟩ = some (.int .u8 t.kind) ∧ Y.cell? ⟨w.heap.size, 1, none⟩ = some (.int .i64 t.width) ∧ Y.cell? ⟨w.heap.size, 2, none⟩ = some (.int .u64 t.bits) ∧ Y.cell? ⟨w.heap.size, 3, none⟩ = some (.string t.name) ∧ Y.cell? ⟨w.heap.size, 4, none⟩ = some (.int .i64 t.low) ∧ Y.cell? ⟨w.heap.size, 5, none⟩ = some (.slice p nn cap)))
  have HG := Lib.hid (fun Y (h : Below W1.heap.size W1 Y) => great_any t (.slice p nn cap) w.heap.size Y (Nat.le_trans hb1.size h.size) (hP.sub.kept (hb1.trans (h.mono hb1.size))))
  have HM := Lib.hid (fun Y (h : Below W1.heap.size W1 Y) => greatM_any pe n ce N D X pm mn mc Y (hP.env.below (hb1.trans (h.mono hb1.size))))
  have HZ1 := Lib.hid hz1
  have HW1 := Lib.hid hW1
  clear hP hb1 hz1 h1h hcell
  rw [hW1] at HA
  clear hW1
  simp only [Tm.cells] at HA HG HW1 ⊢
  rw [hq] at HM
  clear hq
  go_enter Tryz.func3, Tryz.ntmps3
  go_wp2_with first
    | (go_at_call 6; refine HA.out.mono ?_; rintro e wa ⟨rfl, hba⟩; rw [← HW1.out] at hba; obtain ⟨a0, a1, a2, a3, a4, a5⟩ := KT.out wa hba; have HBA := Lib.hid hba; clear hba)
    | (go_at_call 7; refine (HG.out _ HBA.out).mono ?_; clear a0 a1 a2 a3 a4 a5; rintro e wg ⟨⟨g, rfl, hg⟩, hbg⟩; have HBG := Lib.hid (HBA.out.trans (hbg.mono HBA.out.size)); obtain ⟨a0, a1, a2, a3, a4, a5⟩ := KT.out wg HBG.out; clear hbg; cases g; have HGF := Lib.hid (hg rfl); clear hg)
    | (go_at_call 8; refine (HM.out _ HBG.out).mono ?_; rintro e w3 ⟨rfl, rfl⟩)
  all_goals
    go_ret
    exact ⟨rfl, HD.out _ HBG.out⟩

set_option maxRecDepth 100000 in
set_option maxHeartbeats 2000000 in
theorem core_none (t : Tm) (p : Option Addr) (nn cap : Nat) (pe : Option Addr) (n ce : Nat) (N : Nat → ByteArray) (D : Nat → Int) (X : Nat → Nat) (pm : Option Addr) (mn mc : Nat) (A Bt : Nat → Nat) (w : World) (hP : Pre t p nn cap pe n N D X pm mn A Bt w) (hq : greatM N n mn = false) (hno : ¬ OkV N D X n A Bt mn t) :
    Calls Tryz.prog 3 #[.agg (Tm.cells t (.slice p nn cap)).toArray, .slice pe n ce, .slice pm mn mc] w fun e w' => e = .returned (.bool true) ∧ Below w.heap.size w w' := by
  obtain ⟨W1, hW1⟩ : ∃ W1, W1 = w.alloc (.cells (Tm.cells t (.slice p nn cap)).toArray 25) := ⟨_, rfl⟩
  have hb1 : Below w.heap.size w W1 := by rw [hW1]; exact (Below.refl _ _).alloc (Nat.le_refl _) _
  have hz1 : W1.heap.size = w.heap.size + 1 := by rw [hW1]; simp
  have h1h : W1.heap[w.heap.size]? = some (.cells (Tm.cells t (.slice p nn cap)).toArray 25 (0, 0)) := by rw [hW1]; exact new_atw rfl _
  have hcell : ∀ i v, (Tm.cells t (.slice p nn cap))[i]? = some v → W1.cell? ⟨w.heap.size, i, none⟩ = some v := fun i v h => cell_of (i := i) h1h (by rw [List.getElem?_toArray]; exact h)
  have HP := Lib.hid hP
  have HA := Lib.hid (hP.live W1 hb1)
  have HD := Lib.hid (fun Y (h : Below W1.heap.size W1 Y) => hb1.trans (h.mono hb1.size))
  have KT := Lib.hid (fun (Y : World) (h : Below W1.heap.size W1 Y) => (⟨by rw [h.cell (by rw [hz1]; show w.heap.size < w.heap.size + 1; omega)]; exact hcell 0 _ rfl, by rw [h.cell (by rw [hz1]; show w.heap.size < w.heap.size + 1; omega)]; exact hcell 1 _ rfl, by rw [h.cell (by rw [hz1]; show w.heap.size < w.heap.size + 1; omega)]; exact hcell 2 _ rfl, by rw [h.cell (by rw [hz1]; show w.heap.size < w.heap.size + 1; omega)]; exact hcell 3 _ rfl, by rw [h.cell (by rw [hz1]; show w.heap.size < w.heap.size + 1; omega)]; exact hcell 4 _ rfl, by rw [h.cell (by rw [hz1]; show w.heap.size < w.heap.size + 1; omega)]; exact hcell 5 _ rfl⟩ : Y.cell? ⟨w.heap.size, 0, none⟩ = some (.int .u8 t.kind) ∧ Y.cell? ⟨w.heap.size, 1, none⟩ = some (.int .i64 t.width) ∧ Y.cell? ⟨w.heap.size, 2, none⟩ = some (.int .u64 t.bits) ∧ Y.cell? ⟨w.heap.size, 3, none⟩ = some (.string t.name) ∧ Y.cell? ⟨w.heap.size, 4, none⟩ = some (.int .i64 t.low) ∧ Y.cell? ⟨w.heap.size, 5, none⟩ = some (.slice p nn cap)))
  have HG := Lib.hid (fun Y (h : Below W1.heap.size W1 Y) => great_any t (.slice p nn cap) w.heap.size Y (Nat.le_trans hb1.size h.size) (hP.sub.kept (hb1.trans (h.mono hb1.size))))
  have HM := Lib.hid (fun Y (h : Below W1.heap.size W1 Y) => greatM_any pe n ce N D X pm mn mc Y (hP.env.below (hb1.trans (h.mono hb1.size))))
  have HZ1 := Lib.hid hz1
  have HW1 := Lib.hid hW1
  clear hP hb1 hz1 h1h hcell
  rw [hW1] at HA
  clear hW1
  simp only [Tm.cells] at HA HG HW1 ⊢
  obtain ⟨hq1, hq2, hq3⟩ := greatM_no hq
  have HV := Lib.hid (fun (h1 : t.dp ≤ 80) (h2 : t.long = false) (Y : World) (h : Below W1.heap.size W1 Y) => value_any t p nn cap pe n ce N D X pm mn mc A Bt (fun a b k => part (fun i => bytN A Bt mn (adr a b i)) k) Y (by omega) ((HP.out.sub.kept (HD.out Y h)).up (HD.out Y h).size) HP.out.fit (HP.out.tab.below (HD.out Y h)) h2 hq1 (HP.out.env.below (HD.out Y h)) hq3 HP.out.envX hq2 (HP.out.mem.below (HD.out Y h)) HP.out.memB rfl)
  simp only [Tm.cells] at HV
  rw [hq] at HM
  have HNO := Lib.hid hno
  clear hq hno hq1 hq2 hq3
  go_enter Tryz.func3, Tryz.ntmps3
  go_wp2_with first
    | (go_at_call 6; refine HA.out.mono ?_; rintro e wa ⟨rfl, hba⟩; rw [← HW1.out] at hba; obtain ⟨a0, a1, a2, a3, a4, a5⟩ := KT.out wa hba; have HBA := Lib.hid hba; clear hba)
    | (go_at_call 7; refine (HG.out _ HBA.out).mono ?_; clear a0 a1 a2 a3 a4 a5; rintro e wg ⟨⟨g, rfl, hg⟩, hbg⟩; have HBG := Lib.hid (HBA.out.trans (hbg.mono HBA.out.size)); obtain ⟨a0, a1, a2, a3, a4, a5⟩ := KT.out wg HBG.out; clear hbg; cases g; have HGF := Lib.hid (hg rfl); clear hg)
    | (go_at_call 8; refine (HM.out _ HBG.out).mono ?_; rintro e w3 ⟨rfl, rfl⟩)
    | (go_at_call 9; refine (HV.out HGF.out.2.1 HGF.out.2.2 _ HBG.out).mono ?_; clear a0 a1 a2 a3 a4 a5; rintro e w4 ⟨hb4, (⟨hok, _⟩ | ⟨_, er, hne, rfl⟩)⟩; exact absurd hok HNO.out; have e1 : (er != 0) = true := (by simpa using hne); have e2 : (er == 0) = false := (by simpa using hne); have HB4 := Lib.hid (HBG.out.trans (hb4.mono HBG.out.size)); clear hb4 hne)
  · go_ret
    exact ⟨rfl, HD.out _ HB4.out⟩
  all_goals
    go_ret
    exact ⟨rfl, HD.out _ HBG.out⟩

set_option maxRecDepth 100000 in
set_option maxHeartbeats 2000000 in
theorem core_leaf (t : Tm) (p : Option Addr) (nn cap : Nat) (pe : Option Addr) (n ce : Nat) (N : Nat → ByteArray) (D : Nat → Int) (X : Nat → Nat) (pm : Option Addr) (mn mc : Nat) (A Bt : Nat → Nat) (w : World) (hP : Pre t p nn cap pe n N D X pm mn A Bt w) (hq : greatM N n mn = false) (hok : OkV N D X n A Bt mn t) (hnn : nn = 0) :
    Calls Tryz.prog 3 #[.agg (Tm.cells t (.slice p nn cap)).toArray, .slice pe n ce, .slice pm mn mc] w fun e w' => e = .returned (.bool true) ∧ Below w.heap.size w w' := by
  obtain ⟨W1, hW1⟩ : ∃ W1, W1 = w.alloc (.cells (Tm.cells t (.slice p nn cap)).toArray 25) := ⟨_, rfl⟩
  have hb1 : Below w.heap.size w W1 := by rw [hW1]; exact (Below.refl _ _).alloc (Nat.le_refl _) _
  have hz1 : W1.heap.size = w.heap.size + 1 := by rw [hW1]; simp
  have h1h : W1.heap[w.heap.size]? = some (.cells (Tm.cells t (.slice p nn cap)).toArray 25 (0, 0)) := by rw [hW1]; exact new_atw rfl _
  have hcell : ∀ i v, (Tm.cells t (.slice p nn cap))[i]? = some v → W1.cell? ⟨w.heap.size, i, none⟩ = some v := fun i v h => cell_of (i := i) h1h (by rw [List.getElem?_toArray]; exact h)
  have HP := Lib.hid hP
  have HA := Lib.hid (hP.live W1 hb1)
  have HD := Lib.hid (fun Y (h : Below W1.heap.size W1 Y) => hb1.trans (h.mono hb1.size))
  have KT := Lib.hid (fun (Y : World) (h : Below W1.heap.size W1 Y) => (⟨by rw [h.cell (by rw [hz1]; show w.heap.size < w.heap.size + 1; omega)]; exact hcell 0 _ rfl, by rw [h.cell (by rw [hz1]; show w.heap.size < w.heap.size + 1; omega)]; exact hcell 1 _ rfl, by rw [h.cell (by rw [hz1]; show w.heap.size < w.heap.size + 1; omega)]; exact hcell 2 _ rfl, by rw [h.cell (by rw [hz1]; show w.heap.size < w.heap.size + 1; omega)]; exact hcell 3 _ rfl, by rw [h.cell (by rw [hz1]; show w.heap.size < w.heap.size + 1; omega)]; exact hcell 4 _ rfl, by rw [h.cell (by rw [hz1]; show w.heap.size < w.heap.size + 1; omega)]; exact hcell 5 _ rfl⟩ : Y.cell? ⟨w.heap.size, 0, none⟩ = some (.int .u8 t.kind) ∧ Y.cell? ⟨w.heap.size, 1, none⟩ = some (.int .i64 t.width) ∧ Y.cell? ⟨w.heap.size, 2, none⟩ = some (.int .u64 t.bits) ∧ Y.cell? ⟨w.heap.size, 3, none⟩ = some (.string t.name) ∧ Y.cell? ⟨w.heap.size, 4, none⟩ = some (.int .i64 t.low) ∧ Y.cell? ⟨w.heap.size, 5, none⟩ = some (.slice p nn cap)))
  have HG := Lib.hid (fun Y (h : Below W1.heap.size W1 Y) => great_any t (.slice p nn cap) w.heap.size Y (Nat.le_trans hb1.size h.size) (hP.sub.kept (hb1.trans (h.mono hb1.size))))
  have HM := Lib.hid (fun Y (h : Below W1.heap.size W1 Y) => greatM_any pe n ce N D X pm mn mc Y (hP.env.below (hb1.trans (h.mono hb1.size))))
  have HZ1 := Lib.hid hz1
  have HW1 := Lib.hid hW1
  clear hP hb1 hz1 h1h hcell
  rw [hW1] at HA
  clear hW1
  simp only [Tm.cells] at HA HG HW1 ⊢
  obtain ⟨hq1, hq2, hq3⟩ := greatM_no hq
  have hfin := OkV.fine HP.out.memB rfl hok
  have hform := hok.valid.formed
  obtain ⟨kk1, kk24, hwd, hpl, _, hfitR⟩ := formedR_parts hform
  obtain ⟨v, hv⟩ : ∃ v, v = t.val (bndV N X n) (fun a b k => part (fun i => bytN A Bt mn (adr a b i)) k) := ⟨_, rfl⟩
  rw [← hv] at hfin
  have HOW := Lib.hid (fun Y => okW_any t.width v Y)
  rw [(okW_iff t.width v).2 ⟨hwd, hfin.1⟩] at HOW
  have HV := Lib.hid (fun (h1 : t.dp ≤ 80) (h2 : t.long = false) (Y : World) (h : Below W1.heap.size W1 Y) => value_any t p nn cap pe n ce N D X pm mn mc A Bt (fun a b k => part (fun i => bytN A Bt mn (adr a b i)) k) Y (by omega) ((HP.out.sub.kept (HD.out Y h)).up (HD.out Y h).size) HP.out.fit (HP.out.tab.below (HD.out Y h)) h2 hq1 (HP.out.env.below (HD.out Y h)) hq3 HP.out.envX hq2 (HP.out.mem.below (HD.out Y h)) HP.out.memB rfl)
  simp only [Tm.cells] at HV
  rw [← hv] at HV
  rw [hq] at HM
  have HOK := Lib.hid hok
  subst hnn
  clear hq hok hq1 hq2 hq3 hv hfin hform kk1 kk24 hwd hpl hfitR
  go_enter Tryz.func3, Tryz.ntmps3
  go_wp2_with first
    | (go_at_call 6; refine HA.out.mono ?_; rintro e wa ⟨rfl, hba⟩; rw [← HW1.out] at hba; obtain ⟨a0, a1, a2, a3, a4, a5⟩ := KT.out wa hba; have HBA := Lib.hid hba; clear hba)
    | (go_at_call 7; refine (HG.out _ HBA.out).mono ?_; clear a0 a1 a2 a3 a4 a5; rintro e wg ⟨⟨g, rfl, hg⟩, hbg⟩; have HBG := Lib.hid (HBA.out.trans (hbg.mono HBA.out.size)); obtain ⟨a0, a1, a2, a3, a4, a5⟩ := KT.out wg HBG.out; clear hbg; cases g; have HGF := Lib.hid (hg rfl); clear hg)
    | (go_at_call 8; refine (HM.out _ HBG.out).mono ?_; rintro e w3 ⟨rfl, rfl⟩)
    | (go_at_call 9; refine (HV.out HGF.out.2.1 HGF.out.2.2 _ HBG.out).mono ?_; clear a0 a1 a2 a3 a4 a5; rintro e w4 ⟨hb4, (⟨_, rfl⟩ | ⟨hno, _⟩)⟩; rotate_left; exact absurd HOK.out hno; have HB4 := Lib.hid (HBG.out.trans (hb4.mono HBG.out.size)); obtain ⟨a0, a1, a2, a3, a4, a5⟩ := KT.out w4 HB4.out; clear hb4)
    | (go_at_call 10; refine (HOW.out _).mono ?_; rintro e w5 ⟨rfl, rfl⟩)
  · go_ret
    exact ⟨rfl, HD.out _ HB4.out⟩
  all_goals
    go_ret
    exact ⟨rfl, HD.out _ HBG.out⟩

set_option maxRecDepth 100000 in
set_option maxHeartbeats 20000000 in
theorem core_node (t : Tm) (p : Option Addr) (nn cap : Nat) (pe : Option Addr) (n ce : Nat) (N : Nat → ByteArray) (D : Nat → Int) (X : Nat → Nat) (pm : Option Addr) (mn mc : Nat) (A Bt : Nat → Nat) (w : World) (hP : Pre t p nn cap pe n N D X pm mn A Bt w) (hq : greatM N n mn = false) (hok : OkV N D X n A Bt mn t) (hnn : 0 < nn) :
    Calls Tryz.prog 3 #[.agg (Tm.cells t (.slice p nn cap)).toArray, .slice pe n ce, .slice pm mn mc] w fun e w' => e = .returned (.bool true) ∧ Below w.heap.size w w' := by
  obtain ⟨W1, hW1⟩ : ∃ W1, W1 = w.alloc (.cells (Tm.cells t (.slice p nn cap)).toArray 25) := ⟨_, rfl⟩
  have hb1 : Below w.heap.size w W1 := by rw [hW1]; exact (Below.refl _ _).alloc (Nat.le_refl _) _
  have hz1 : W1.heap.size = w.heap.size + 1 := by rw [hW1]; simp
  have h1h : W1.heap[w.heap.size]? = some (.cells (Tm.cells t (.slice p nn cap)).toArray 25 (0, 0)) := by rw [hW1]; exact new_atw rfl _
  have hcell : ∀ i v, (Tm.cells t (.slice p nn cap))[i]? = some v → W1.cell? ⟨w.heap.size, i, none⟩ = some v := fun i v h => cell_of (i := i) h1h (by rw [List.getElem?_toArray]; exact h)
  have HP := Lib.hid hP
  have HA := Lib.hid (hP.live W1 hb1)
  have HD := Lib.hid (fun Y (h : Below W1.heap.size W1 Y) => hb1.trans (h.mono hb1.size))
  have KT := Lib.hid (fun (Y : World) (h : Below W1.heap.size W1 Y) => (⟨by rw [h.cell (by rw [hz1]; show w.heap.size < w.heap.size + 1; omega)]; exact hcell 0 _ rfl, by rw [h.cell (by rw [hz1]; show w.heap.size < w.heap.size + 1; omega)]; exact hcell 1 _ rfl, by rw [h.cell (by rw [hz1]; show w.heap.size < w.heap.size + 1; omega)]; exact hcell 2 _ rfl, by rw [h.cell (by rw [hz1]; show w.heap.size < w.heap.size + 1; omega)]; exact hcell 3 _ rfl, by rw [h.cell (by rw [hz1]; show w.heap.size < w.heap.size + 1; omega)]; exact hcell 4 _ rfl, by rw [h.cell (by rw [hz1]; show w.heap.size < w.heap.size + 1; omega)]; exact hcell 5 _ rfl⟩ : Y.cell? ⟨w.heap.size, 0, none⟩ = some (.int .u8 t.kind) ∧ Y.cell? ⟨w.heap.size, 1, none⟩ = some (.int .i64 t.width) ∧ Y.cell? ⟨w.heap.size, 2, none⟩ = some (.int .u64 t.bits) ∧ Y.cell? ⟨w.heap.size, 3, none⟩ = some (.string t.name) ∧ Y.cell? ⟨w.heap.size, 4, none⟩ = some (.int .i64 t.low) ∧ Y.cell? ⟨w.heap.size, 5, none⟩ = some (.slice p nn cap)))
  have HG := Lib.hid (fun Y (h : Below W1.heap.size W1 Y) => great_any t (.slice p nn cap) w.heap.size Y (Nat.le_trans hb1.size h.size) (hP.sub.kept (hb1.trans (h.mono hb1.size))))
  have HM := Lib.hid (fun Y (h : Below W1.heap.size W1 Y) => greatM_any pe n ce N D X pm mn mc Y (hP.env.below (hb1.trans (h.mono hb1.size))))
  have HZ1 := Lib.hid hz1
  have HW1 := Lib.hid hW1
  clear hP hb1 hz1 h1h hcell
  rw [hW1] at HA
  clear hW1
  simp only [Tm.cells] at HA HG HW1 ⊢
  obtain ⟨hq1, hq2, hq3⟩ := greatM_no hq
  have hfin := OkV.fine HP.out.memB rfl hok
  have hform := hok.valid.formed
  obtain ⟨kk1, kk24, hwd, hpl, _, hfitR⟩ := formedR_parts hform
  obtain ⟨v, hv⟩ : ∃ v, v = t.val (bndV N X n) (fun a b k => part (fun i => bytN A Bt mn (adr a b i)) k) := ⟨_, rfl⟩
  rw [← hv] at hfin
  have HOW := Lib.hid (fun Y => okW_any t.width v Y)
  rw [(okW_iff t.width v).2 ⟨hwd, hfin.1⟩] at HOW
  have HV := Lib.hid (fun (h1 : t.dp ≤ 80) (h2 : t.long = false) (Y : World) (h : Below W1.heap.size W1 Y) => value_any t p nn cap pe n ce N D X pm mn mc A Bt (fun a b k => part (fun i => bytN A Bt mn (adr a b i)) k) Y (by omega) ((HP.out.sub.kept (HD.out Y h)).up (HD.out Y h).size) HP.out.fit (HP.out.tab.below (HD.out Y h)) h2 hq1 (HP.out.env.below (HD.out Y h)) hq3 HP.out.envX hq2 (HP.out.mem.below (HD.out Y h)) HP.out.memB rfl)
  simp only [Tm.cells] at HV
  rw [← hv] at HV
  rw [hq] at HM
  have HOK := Lib.hid hok
  obtain ⟨L, hL⟩ : ∃ L : Nat → Nat → Nat → Nat, L = fun a b k => part (fun i => bytN A Bt mn (adr a b i)) k := ⟨_, rfl⟩
  have HL := Lib.hid hL
  rw [← hL] at hv hfin
  obtain ⟨p_, nn_, cap_, S, hpeq, hlen, hmax, hfits, hcells, hsubs⟩ := HP.out.sub.inv
  cases hpeq
  have hd0 : ((nn : Int) == 0) = false := by rw [beq_eq_false_iff_ne]; omega
  have hn3 : nn ≤ 3 := by
    rw [← hlen, hpl]; unfold partsK; repeat' split
    all_goals omega
  have HVP := Lib.hid (fun (h1 : t.dp ≤ 80) (h2 : t.long = false) (u : Tm) (hu : u ∈ t.sub) (p' : Option Addr) (n' cap' : Nat) (hsu : SubAt w w.heap.size (.slice p' n' cap') u.sub) (hfu : u.fit) (Y : World) (h : Below W1.heap.size W1 Y) => by
    have hdu := Tm.dp_mem hu
    have hdt := Tm.dp_eq t
    have hlu : u.long = false := Tm.longs_mem hu (by rw [Tm.long_eq] at h2; exact (Bool.or_eq_false_iff.1 h2).1)
    have h3 := value_any u p' n' cap' pe n ce N D X pm mn mc A Bt L Y (by omega) ((hsu.kept (HD.out Y h)).up (HD.out Y h).size) hfu (HP.out.tab.below (HD.out Y h)) hlu hq1 (HP.out.env.below (HD.out Y h)) hq3 HP.out.envX hq2 (HP.out.mem.below (HD.out Y h)) HP.out.memB hL
    exact h3)
  simp only [Tm.cells] at HVP
  have HFN := Lib.hid hfin
  have HVV := Lib.hid hv
  have HFI := Lib.hid hfits
  have HCE := Lib.hid hcells
  have HSU := Lib.hid hsubs
  have HLN := Lib.hid hlen
  have HWD := Lib.hid hwd
  have HPL := Lib.hid hpl
  have HFR := Lib.hid hfitR
  have HKK := Lib.hid (And.intro kk1 kk24)
  have HQ := Lib.hid (And.intro hq1 (And.intro hq2 hq3))
  clear hq hok hq1 hq2 hq3 hv hfin hform kk1 kk24 hwd hpl hfitR hL hfits hcells hsubs hlen hmax
  go_enter Tryz.func3, Tryz.ntmps3
  go_wp2_with first
    | (go_at_call 6; refine HA.out.mono ?_; rintro e wa ⟨rfl, hba⟩; rw [← HW1.out] at hba; obtain ⟨a0, a1, a2, a3, a4, a5⟩ := KT.out wa hba; have HBA := Lib.hid hba; clear hba)
    | (go_at_call 7; refine (HG.out _ HBA.out).mono ?_; clear a0 a1 a2 a3 a4 a5; rintro e wg ⟨⟨g, rfl, hg⟩, hbg⟩; have HBG := Lib.hid (HBA.out.trans (hbg.mono HBA.out.size)); obtain ⟨a0, a1, a2, a3, a4, a5⟩ := KT.out wg HBG.out; clear hbg; cases g; have HGF := Lib.hid (hg rfl); clear hg)
    | (go_at_call 8; refine (HM.out _ HBG.out).mono ?_; rintro e w3 ⟨rfl, rfl⟩)
    | (go_at_call 9; refine (HV.out HGF.out.2.1 HGF.out.2.2 _ HBG.out).mono ?_; clear a0 a1 a2 a3 a4 a5; rintro e w4 ⟨hb4, (⟨_, rfl⟩ | ⟨hno, _⟩)⟩; rotate_left; exact absurd HOK.out hno; have HB4 := Lib.hid (HBG.out.trans (hb4.mono HBG.out.size)); obtain ⟨a0, a1, a2, a3, a4, a5⟩ := KT.out w4 HB4.out; clear hb4)
    | (go_at_call 10; refine (HOW.out _).mono ?_; rintro e w5 ⟨rfl, rfl⟩)
  rotate_left
  · go_ret
    exact ⟨rfl, HD.out _ HBG.out⟩
  obtain ⟨lb, hlb⟩ : ∃ lb, lb = w4.heap.size := ⟨_, rfl⟩
  obtain ⟨W5, hW5⟩ : ∃ W5, W5 = w4.alloc (.cells #[.int .u64 0, .int .u64 0, .int .u64 0] 35) := ⟨_, rfl⟩
  have h5h : W5.heap[lb]? = some (.cells #[.int .u64 0, .int .u64 0, .int .u64 0] 35 (0, 0)) := by rw [hW5]; exact new_atw hlb _
  have hLV : LV lb (fun j => vAt (bndV N X n) L t.sub j) W1 W5 0 := by
    have hb5 : Below w4.heap.size w4 W5 := by rw [hW5]; exact (Below.refl _ _).alloc (Nat.le_refl _) _
    refine ⟨fun j hj => ?_, fun j => frozen_of h5h j, HB4.out.trans (hb5.mono HB4.out.size), (Array.getElem?_eq_some_iff.1 h5h).1, by rw [hlb]; exact HB4.out.size⟩
    match j, hj with
    | 0, _ => exact cell_of (i := 0) h5h rfl
    | 1, _ => exact cell_of (i := 1) h5h rfl
    | 2, _ => exact cell_of (i := 2) h5h rfl
  rw [← hW5, ← hlb]
  have HLV := Lib.hid hLV
  have HLB := Lib.hid hlb
  clear hLV h5h hW5 hlb a0 a1 a2 a3 a4 a5
  go_loopw [11] (fun vi wr => ∃ k : Nat, vi = .int .i64 k ∧ k ≤ nn ∧ LV lb (fun j => vAt (bndV N X n) L t.sub j) W1 wr k) (fun vi _ => nn - (intOf vi).toNat)
  case atStart => exact ⟨0, rfl, by omega, HLV.out⟩
  case round =>
    obtain ⟨k, rfl, hk, hl⟩ := hrel
    have HLK := Lib.hid hl
    obtain ⟨a0, a1, a2, a3, a4, a5⟩ := KT.out wr hl.below
    by_cases hlt : k < nn
    · obtain ⟨u, hu⟩ : ∃ u, t.sub[k]? = some u := ⟨_, List.getElem?_eq_getElem (by have := HLN.out; omega)⟩
      obtain ⟨b, o, hpb, hbn, c0, c1, c2, c3, c4, c5⟩ := HCE.out k u hu
      subst hpb
      have hsk := HSU.out k u hu
      obtain ⟨p', n', cap', _, hSk, _⟩ := hsk.inv
      rw [hSk] at hsk c5
      rw [← (HD.out wr hl.below).cell hbn] at c0 c1 c2 c3 c4 c5
      have hum : u ∈ t.sub := List.mem_of_getElem? hu
      have HVU := Lib.hid (HVP.out HGF.out.2.1 HGF.out.2.2 u hum p' n' cap' hsk (HFI.out k u hu) wr hl.below)
      have hoku := HOK.out.sub hum
      obtain ⟨x, hx⟩ : ∃ x, x = u.val (bndV N X n) L := ⟨_, rfl⟩
      rw [← hx] at HVU
      have HX := Lib.hid hx
      have HOU := Lib.hid hoku
      have HU := Lib.hid hu
      have hk2 : decide ((2 : Int) < (k : Int)) = false := decide_eq_false (by omega)
      have hki : (k : Int) < 3 := by omega
      have hk3 : k < 3 := by omega
      clear hx hoku hsk hSk hum hl hu hbn
      go_wp2_with (go_at_call 9; refine HVU.out.mono ?_; clear a0 a1 a2 a3 a4 a5 c0 c1 c2 c3 c4 c5; rintro e w6 ⟨hb6, (⟨_, rfl⟩ | ⟨hno, _⟩)⟩; rotate_left; exact absurd HOU.out hno; have hl6 := HLK.out.down hb6; have hov := hl6.ov k hk3; have hfo := hl6.fo k; have HL6 := Lib.hid hl6; clear hb6 hl6)
      have HZ : Hid (LV lb (fun j => vAt (bndV N X n) L t.sub j) W1 (w6.setCell ⟨lb, k, none⟩ (.int .u64 x)) (k + 1)) := Lib.hid (by
        have h := HL6.out.step hk3
        simp only [vAt_some HU.out] at h
        rw [HX.out]; exact h)
      go_roundw
      case rel => exact ⟨k + 1, by first | rfl | (rw [wrap64_small _ (by omega) (by omega)]; rfl), by omega, HZ.out⟩
      case measure => (try rw [wrap64_small _ (by omega) (by omega)]); simp only [intOf]; omega
    · obtain rfl : k = nn := by omega
      have hvz : ∀ j, upToN k (fun j => vAt (bndV N X n) L t.sub j) j = vAt (bndV N X n) L t.sub j := fun j => by
        unfold upToN
        by_cases h : j < k
        · rw [if_pos h]
        · rw [if_neg h, vAt_none (by have := HLN.out; omega)]
      have o0 := hl.ov 0 (by omega)
      have o1 := hl.ov 1 (by omega)
      have o2 := hl.ov 2 (by omega)
      rw [hvz] at o0 o1 o2
      obtain ⟨u0, hu0⟩ : ∃ u, t.sub[0]? = some u := ⟨_, List.getElem?_eq_getElem (by have := HLN.out; omega)⟩
      obtain ⟨b, o, hpb, hbn, _, c1, _⟩ := HCE.out 0 u0 hu0
      subst hpb
      rw [← (HD.out wr hl.below).cell hbn, Nat.zero_mul, Nat.add_zero, ← wdAt_some hu0] at c1
      have HVAL := Lib.hid (HVV.out.trans (Tm.val_eq (bndV N X n) L t))
      have HERR := Lib.hid HFN.out.2
      obtain ⟨v0, hv0⟩ : ∃ z, z = vAt (bndV N X n) L t.sub 0 := ⟨_, rfl⟩
      obtain ⟨v1, hv1⟩ : ∃ z, z = vAt (bndV N X n) L t.sub 1 := ⟨_, rfl⟩
      obtain ⟨v2, hv2⟩ : ∃ z, z = vAt (bndV N X n) L t.sub 2 := ⟨_, rfl⟩
      obtain ⟨x, hx⟩ : ∃ z, z = wdAt t.sub 0 := ⟨_, rfl⟩
      obtain ⟨y, hy⟩ : ∃ z, z = wdAt t.sub 1 := ⟨_, rfl⟩
      have HV0 : Hid (1 ≤ x ∧ x ≤ 64 ∧ v0 < 2 ^ x.toNat) := Lib.hid (by
        have hm0 : u0 ∈ t.sub := List.mem_of_getElem? hu0
        have h1 := formedR_parts (HOK.out.valid.sub hm0).formed
        have h2 := (OkV.fine HP.out.memB HL.out (HOK.out.sub hm0)).1
        rw [hx, wdAt_some hu0, hv0, vAt_some hu0]
        exact ⟨h1.2.2.1.1, h1.2.2.1.2, h2⟩)
      rw [← hv0] at o0 HVAL HERR
      rw [← hv1] at o1 HVAL HERR
      rw [← hv2] at o2 HVAL
      rw [← hx] at c1 HVAL HERR
      rw [← hy] at HVAL HERR
      have HYY := Lib.hid hy
      have HXX := Lib.hid hx
      have HBB := Lib.hid (HD.out wr hl.below)
      have HMM := Lib.hid (HP.out.mem.below (HD.out wr hl.below))
      have HE0 := Lib.hid (badE_zero HOK.out.1).2.2
      clear hl hv0 hv1 hv2 hx hy hvz hbn hu0
      generalize hkk : t.kind = kk at *
      have k1n : kk ≠ 1 := fun e => by have := HPL.out; rw [e] at this; have h2 := HLN.out; rw [this] at h2; simp [partsK] at h2; omega
      have k2n : kk ≠ 2 := fun e => by have := HPL.out; rw [e] at this; have h2 := HLN.out; rw [this] at h2; simp [partsK] at h2; omega
      have hvv : ((v : Int) == (v : Int)) = true := by simp
      by_cases c3 : kk = 3
      · have hpair : opR 3 4 kk x v0 0 = (v, 0) := Prod.ext (by have h := HVAL.out; unfold valK at h; rw [if_neg k1n, if_neg k2n, if_pos (by omega)] at h; exact h.symm) (by have h := HERR.out; unfold errK at h; rw [if_neg k1n, if_neg k2n, if_pos (by omega)] at h; exact h)
        have d3 : ((kk : Int) == 3) = true := by rw [beq_iff_eq]; omega
        have d4 : ((kk : Int) == 4) = false := by rw [beq_eq_false_iff_ne]; omega
        have d19 : ((kk : Int) == 19) = false := by rw [beq_eq_false_iff_ne]; omega
        have d20 : ((kk : Int) == 20) = false := by rw [beq_eq_false_iff_ne]; omega
        have d21 : ((kk : Int) == 21) = false := by rw [beq_eq_false_iff_ne]; omega
        have d22 : ((kk : Int) == 22) = false := by rw [beq_eq_false_iff_ne]; omega
        have d23 : ((kk : Int) == 23) = false := by rw [beq_eq_false_iff_ne]; omega
        have d24 : ((kk : Int) == 24) = false := by rw [beq_eq_false_iff_ne]; omega
        have HC := Lib.hid (unary_any 3 v0 x wr)
        rw [show opR 3 4 3 x v0 0 = (v, 0) from c3 ▸ hpair] at HC
        have HC2 := HC
        clear HC
        have HC : Hid (Calls Tryz.prog 11 #[.int .u8 3, .int .i64 x, .int .u64 v0] wr fun e w' => e = .returned (.tuple #[.int .u64 v, .int .i64 0]) ∧ Below wr.heap.size wr w') := HC2
        clear HC2
        clear hpair
        go_wp2_with first
          | (go_at_call 11; (with_reducible refine HC.out.mono ?_); rintro e w9 ⟨rfl, hb9⟩; obtain ⟨z0, z1, z2, z3, z4, z5⟩ := KT.out w9 (HLK.out.below.trans (hb9.mono HLK.out.below.size)))
          | (go_at_call 10; refine (HOW.out _).mono ?_; rintro e w5 ⟨rfl, rfl⟩)
        go_ret
        exact ⟨rfl, HBB.out.trans (hb9.mono HBB.out.size)⟩
      by_cases c4 : kk = 4
      · have hpair : opR 3 4 kk x v0 0 = (v, 0) := Prod.ext (by have h := HVAL.out; unfold valK at h; rw [if_neg k1n, if_neg k2n, if_pos (by omega)] at h; exact h.symm) (by have h := HERR.out; unfold errK at h; rw [if_neg k1n, if_neg k2n, if_pos (by omega)] at h; exact h)
        have d3 : ((kk : Int) == 3) = false := by rw [beq_eq_false_iff_ne]; omega
        have d4 : ((kk : Int) == 4) = true := by rw [beq_iff_eq]; omega
        have d19 : ((kk : Int) == 19) = false := by rw [beq_eq_false_iff_ne]; omega
        have d20 : ((kk : Int) == 20) = false := by rw [beq_eq_false_iff_ne]; omega
        have d21 : ((kk : Int) == 21) = false := by rw [beq_eq_false_iff_ne]; omega
        have d22 : ((kk : Int) == 22) = false := by rw [beq_eq_false_iff_ne]; omega
        have d23 : ((kk : Int) == 23) = false := by rw [beq_eq_false_iff_ne]; omega
        have d24 : ((kk : Int) == 24) = false := by rw [beq_eq_false_iff_ne]; omega
        have HC := Lib.hid (unary_any 4 v0 x wr)
        rw [show opR 3 4 4 x v0 0 = (v, 0) from c4 ▸ hpair] at HC
        have HC2 := HC
        clear HC
        have HC : Hid (Calls Tryz.prog 11 #[.int .u8 4, .int .i64 x, .int .u64 v0] wr fun e w' => e = .returned (.tuple #[.int .u64 v, .int .i64 0]) ∧ Below wr.heap.size wr w') := HC2
        clear HC2
        clear hpair
        go_wp2_with first
          | (go_at_call 11; (with_reducible refine HC.out.mono ?_); rintro e w9 ⟨rfl, hb9⟩; obtain ⟨z0, z1, z2, z3, z4, z5⟩ := KT.out w9 (HLK.out.below.trans (hb9.mono HLK.out.below.size)))
          | (go_at_call 10; refine (HOW.out _).mono ?_; rintro e w5 ⟨rfl, rfl⟩)
        go_ret
        exact ⟨rfl, HBB.out.trans (hb9.mono HBB.out.size)⟩
      by_cases c19 : kk = 19
      · have HVE : Hid (v = if v0 = 1 then v1 else v2) := Lib.hid (by have h := HVAL.out; unfold valK at h; rw [if_neg k1n, if_neg k2n, if_neg (by omega), if_pos c19] at h; exact h)
        have d3 : ((kk : Int) == 3) = false := by rw [beq_eq_false_iff_ne]; omega
        have d4 : ((kk : Int) == 4) = false := by rw [beq_eq_false_iff_ne]; omega
        have d19 : ((kk : Int) == 19) = true := by rw [beq_iff_eq]; omega
        have d20 : ((kk : Int) == 20) = false := by rw [beq_eq_false_iff_ne]; omega
        have d21 : ((kk : Int) == 21) = false := by rw [beq_eq_false_iff_ne]; omega
        have d22 : ((kk : Int) == 22) = false := by rw [beq_eq_false_iff_ne]; omega
        have d23 : ((kk : Int) == 23) = false := by rw [beq_eq_false_iff_ne]; omega
        have d24 : ((kk : Int) == 24) = false := by rw [beq_eq_false_iff_ne]; omega
        by_cases h1 : v0 = 1
        · have hq : ((v0 : Int) == 1) = true := by rw [beq_iff_eq]; omega
          have hv1 : v = v1 := by rw [HVE.out, if_pos h1]
          rw [← hv1] at o1
          clear h1 hv1 HVE
          go_wp2_with (go_at_call 10; refine (HOW.out _).mono ?_; rintro e w5 ⟨rfl, rfl⟩)
          go_ret
          exact ⟨rfl, HBB.out⟩
        · have hq : ((v0 : Int) == 1) = false := by rw [beq_eq_false_iff_ne]; omega
          have hv2 : v = v2 := by rw [HVE.out, if_neg h1]
          rw [← hv2] at o2
          clear h1 hv2 HVE
          go_wp2_with (go_at_call 10; refine (HOW.out _).mono ?_; rintro e w5 ⟨rfl, rfl⟩)
          go_ret
          exact ⟨rfl, HBB.out⟩
      by_cases c20 : kk = 20
      · have hpair : catR x v0 y v1 = (v, 0) := Prod.ext (by have h := HVAL.out; unfold valK at h; rw [if_neg k1n, if_neg k2n, if_neg (by omega), if_neg c19, if_pos c20] at h; exact h.symm) (by have h := HERR.out; unfold errK at h; rw [if_neg k1n, if_neg k2n, if_neg (by omega), if_neg c19, if_pos c20] at h; exact h)
        have d3 : ((kk : Int) == 3) = false := by rw [beq_eq_false_iff_ne]; omega
        have d4 : ((kk : Int) == 4) = false := by rw [beq_eq_false_iff_ne]; omega
        have d19 : ((kk : Int) == 19) = false := by rw [beq_eq_false_iff_ne]; omega
        have d20 : ((kk : Int) == 20) = true := by rw [beq_iff_eq]; omega
        have d21 : ((kk : Int) == 21) = false := by rw [beq_eq_false_iff_ne]; omega
        have d22 : ((kk : Int) == 22) = false := by rw [beq_eq_false_iff_ne]; omega
        have d23 : ((kk : Int) == 23) = false := by rw [beq_eq_false_iff_ne]; omega
        have d24 : ((kk : Int) == 24) = false := by rw [beq_eq_false_iff_ne]; omega
        have hy64 : 1 ≤ y ∧ y ≤ 64 := by
          have h1 : 1 < t.sub.length := by rw [HPL.out, c20]; decide
          have hu : t.sub[1]? = some t.sub[1] := List.getElem?_eq_getElem h1
          rw [HYY.out, wdAt_some hu]
          exact (formedR_parts (HOK.out.valid.sub (List.getElem_mem h1)).formed).2.2.1
        have hyw : wrap64 (t.width - x) = y := by
          have h := HFR.out
          unfold fitsR fitsK at h
          rw [hkk, if_neg k1n, if_neg k2n, if_neg (by omega), if_neg (by omega), if_neg c19, if_pos c20] at h
          have hx1 := HV0.out
          have hy1 := hy64
          rw [HYY.out] at hy1 ⊢
          rw [HXX.out] at hx1 ⊢
          have e2 : wrap64 (wdAt t.sub 0 + wdAt t.sub 1) = t.width := by simpa using h
          rw [wrap64_small _ (by omega) (by omega)] at e2
          rw [wrap64_small _ (by omega) (by omega)]
          omega
        have HC := Lib.hid (concat_any x v0 y v1 wr (by omega))
        rw [hpair] at HC
        clear hpair
        go_wp2_with first
          | (go_at_call 12; (with_reducible refine HC.out.mono ?_); rintro e w9 ⟨rfl, hb9⟩; obtain ⟨z0, z1, z2, z3, z4, z5⟩ := KT.out w9 (HLK.out.below.trans (hb9.mono HLK.out.below.size)))
          | (go_at_call 10; refine (HOW.out _).mono ?_; rintro e w5 ⟨rfl, rfl⟩)
        go_ret
        exact ⟨rfl, HBB.out.trans (hb9.mono HBB.out.size)⟩
      by_cases c21 : kk = 21
      · have hpair : exR x v0 t.low t.width = (v, 0) := Prod.ext (by have h := HVAL.out; unfold valK at h; rw [if_neg k1n, if_neg k2n, if_neg (by omega), if_neg c19, if_neg c20, if_pos c21] at h; exact h.symm) (by have h := HERR.out; unfold errK at h; rw [if_neg k1n, if_neg k2n, if_neg (by omega), if_neg c19, if_neg c20, if_pos c21] at h; exact h)
        have d3 : ((kk : Int) == 3) = false := by rw [beq_eq_false_iff_ne]; omega
        have d4 : ((kk : Int) == 4) = false := by rw [beq_eq_false_iff_ne]; omega
        have d19 : ((kk : Int) == 19) = false := by rw [beq_eq_false_iff_ne]; omega
        have d20 : ((kk : Int) == 20) = false := by rw [beq_eq_false_iff_ne]; omega
        have d21 : ((kk : Int) == 21) = true := by rw [beq_iff_eq]; omega
        have d22 : ((kk : Int) == 22) = false := by rw [beq_eq_false_iff_ne]; omega
        have d23 : ((kk : Int) == 23) = false := by rw [beq_eq_false_iff_ne]; omega
        have d24 : ((kk : Int) == 24) = false := by rw [beq_eq_false_iff_ne]; omega
        have HC := Lib.hid (extract_any x v0 t.low t.width wr HP.out.fit.2.2.2.2 HP.out.fit.2.1)
        rw [hpair] at HC
        clear hpair
        go_wp2_with first
          | (go_at_call 13; (with_reducible refine HC.out.mono ?_); rintro e w9 ⟨rfl, hb9⟩; obtain ⟨z0, z1, z2, z3, z4, z5⟩ := KT.out w9 (HLK.out.below.trans (hb9.mono HLK.out.below.size)))
          | (go_at_call 10; refine (HOW.out _).mono ?_; rintro e w5 ⟨rfl, rfl⟩)
        go_ret
        exact ⟨rfl, HBB.out.trans (hb9.mono HBB.out.size)⟩
      by_cases c22 : kk = 22
      · have hpair : extR x v0 t.width (kk == 23) = (v, 0) := Prod.ext (by have h := HVAL.out; unfold valK at h; rw [if_neg k1n, if_neg k2n, if_neg (by omega), if_neg c19, if_neg c20, if_neg c21, if_pos (by omega)] at h; exact h.symm) (by have h := HERR.out; unfold errK at h; rw [if_neg k1n, if_neg k2n, if_neg (by omega), if_neg c19, if_neg c20, if_neg c21, if_pos (by omega)] at h; exact h)
        have d3 : ((kk : Int) == 3) = false := by rw [beq_eq_false_iff_ne]; omega
        have d4 : ((kk : Int) == 4) = false := by rw [beq_eq_false_iff_ne]; omega
        have d19 : ((kk : Int) == 19) = false := by rw [beq_eq_false_iff_ne]; omega
        have d20 : ((kk : Int) == 20) = false := by rw [beq_eq_false_iff_ne]; omega
        have d21 : ((kk : Int) == 21) = false := by rw [beq_eq_false_iff_ne]; omega
        have d22 : ((kk : Int) == 22) = true := by rw [beq_iff_eq]; omega
        have d23 : ((kk : Int) == 23) = false := by rw [beq_eq_false_iff_ne]; omega
        have d24 : ((kk : Int) == 24) = false := by rw [beq_eq_false_iff_ne]; omega
        rw [show (kk == 23) = false by rw [c22]; rfl] at hpair
        have HC := Lib.hid (extend_any x v0 t.width false wr)
        rw [hpair] at HC
        clear hpair
        go_wp2_with first
          | (go_at_call 14; (with_reducible refine HC.out.mono ?_); rintro e w9 ⟨rfl, hb9⟩; obtain ⟨z0, z1, z2, z3, z4, z5⟩ := KT.out w9 (HLK.out.below.trans (hb9.mono HLK.out.below.size)))
          | (go_at_call 10; refine (HOW.out _).mono ?_; rintro e w5 ⟨rfl, rfl⟩)
        go_ret
        exact ⟨rfl, HBB.out.trans (hb9.mono HBB.out.size)⟩
      by_cases c23 : kk = 23
      · have hpair : extR x v0 t.width (kk == 23) = (v, 0) := Prod.ext (by have h := HVAL.out; unfold valK at h; rw [if_neg k1n, if_neg k2n, if_neg (by omega), if_neg c19, if_neg c20, if_neg c21, if_pos (by omega)] at h; exact h.symm) (by have h := HERR.out; unfold errK at h; rw [if_neg k1n, if_neg k2n, if_neg (by omega), if_neg c19, if_neg c20, if_neg c21, if_pos (by omega)] at h; exact h)
        have d3 : ((kk : Int) == 3) = false := by rw [beq_eq_false_iff_ne]; omega
        have d4 : ((kk : Int) == 4) = false := by rw [beq_eq_false_iff_ne]; omega
        have d19 : ((kk : Int) == 19) = false := by rw [beq_eq_false_iff_ne]; omega
        have d20 : ((kk : Int) == 20) = false := by rw [beq_eq_false_iff_ne]; omega
        have d21 : ((kk : Int) == 21) = false := by rw [beq_eq_false_iff_ne]; omega
        have d22 : ((kk : Int) == 22) = false := by rw [beq_eq_false_iff_ne]; omega
        have d23 : ((kk : Int) == 23) = true := by rw [beq_iff_eq]; omega
        have d24 : ((kk : Int) == 24) = false := by rw [beq_eq_false_iff_ne]; omega
        rw [show (kk == 23) = true by rw [c23]; rfl] at hpair
        have HC := Lib.hid (extend_any x v0 t.width true wr)
        rw [hpair] at HC
        clear hpair
        go_wp2_with first
          | (go_at_call 14; (with_reducible refine HC.out.mono ?_); rintro e w9 ⟨rfl, hb9⟩; obtain ⟨z0, z1, z2, z3, z4, z5⟩ := KT.out w9 (HLK.out.below.trans (hb9.mono HLK.out.below.size)))
          | (go_at_call 10; refine (HOW.out _).mono ?_; rintro e w5 ⟨rfl, rfl⟩)
        go_ret
        exact ⟨rfl, HBB.out.trans (hb9.mono HBB.out.size)⟩
      by_cases c24 : kk = 24
      · have HVE : Hid (v = L x.toNat v0 (t.width.toNat / 8)) := Lib.hid (by have h := HVAL.out; unfold valK at h; rw [if_neg k1n, if_neg k2n, if_neg (by omega), if_neg c19, if_neg c20, if_neg c21, if_neg (by omega), if_pos c24] at h; exact h)
        have d3 : ((kk : Int) == 3) = false := by rw [beq_eq_false_iff_ne]; omega
        have d4 : ((kk : Int) == 4) = false := by rw [beq_eq_false_iff_ne]; omega
        have d19 : ((kk : Int) == 19) = false := by rw [beq_eq_false_iff_ne]; omega
        have d20 : ((kk : Int) == 20) = false := by rw [beq_eq_false_iff_ne]; omega
        have d21 : ((kk : Int) == 21) = false := by rw [beq_eq_false_iff_ne]; omega
        have d22 : ((kk : Int) == 22) = false := by rw [beq_eq_false_iff_ne]; omega
        have d23 : ((kk : Int) == 23) = false := by rw [beq_eq_false_iff_ne]; omega
        have d24 : ((kk : Int) == 24) = true := by rw [beq_iff_eq]; omega
        have hx2 := HV0.out
        obtain ⟨xn, rfl⟩ : ∃ xn : Nat, x = xn := ⟨x.toNat, by omega⟩
        have hw8 : t.width = 8 ∨ t.width = 16 ∨ t.width = 32 ∨ t.width = 64 := by
          have h := HFR.out
          unfold fitsR fitsK at h
          rw [hkk, if_neg k1n, if_neg k2n, if_neg (by omega), if_neg (by omega), if_neg c19, if_neg c20, if_neg c21, if_neg (by omega), if_pos c24] at h
          exact (loadW_iff _).1 h
        obtain ⟨mk8, m8, h8, hm8, hk8⟩ : ∃ k m : Nat, t.width = (m : Int) ∧ m = 8 * k ∧ (k = 1 ∨ k = 2 ∨ k = 4 ∨ k = 8) := ⟨t.width.toNat / 8, 8 * (t.width.toNat / 8), by omega, rfl, by omega⟩
        have hve : part (fun i => bytN A Bt mn (adr xn v0 i)) mk8 = v := by rw [HVE.out, HL.out, h8, hm8, Int.toNat_natCast, Int.toNat_natCast, Nat.mul_div_cancel_left _ (by decide)]
        have HC := Lib.hid (load_any pm mn mc A Bt xn v0 m8 mk8 (fun i => bytN A Bt mn (adr xn v0 i)) (fun i => rfl) wr HQ.out.2.1 HMM.out (by omega) (by omega) hk8 hm8 HP.out.memB (by have := hx2.2.2; rwa [Int.toNat_natCast] at this) HE0.out)
        rw [hve, ← h8] at HC
        clear hw8 h8 hk8 hx2 HVE hm8 hve
        have hpair : True := trivial
        clear hpair
        go_wp2_with first
          | (go_at_call 15; (with_reducible refine HC.out.mono ?_); rintro e w9 ⟨rfl, hb9⟩; obtain ⟨z0, z1, z2, z3, z4, z5⟩ := KT.out w9 (HLK.out.below.trans (hb9.mono HLK.out.below.size)))
          | (go_at_call 10; refine (HOW.out _).mono ?_; rintro e w5 ⟨rfl, rfl⟩)
        go_ret
        exact ⟨rfl, HBB.out.trans (hb9.mono HBB.out.size)⟩
      have hpair : opR 5 18 kk x v0 v1 = (v, 0) := Prod.ext (by have h := HVAL.out; unfold valK at h; rw [if_neg k1n, if_neg k2n, if_neg (by omega), if_neg c19, if_neg c20, if_neg c21, if_neg (by omega), if_neg c24] at h; exact h.symm) (by have h := HERR.out; unfold errK at h; rw [if_neg k1n, if_neg k2n, if_neg (by omega), if_neg c19, if_neg c20, if_neg c21, if_neg (by omega), if_neg c24] at h; exact h)
      have d3 : ((kk : Int) == 3) = false := by rw [beq_eq_false_iff_ne]; omega
      have d4 : ((kk : Int) == 4) = false := by rw [beq_eq_false_iff_ne]; omega
      have d19 : ((kk : Int) == 19) = false := by rw [beq_eq_false_iff_ne]; omega
      have d20 : ((kk : Int) == 20) = false := by rw [beq_eq_false_iff_ne]; omega
      have d21 : ((kk : Int) == 21) = false := by rw [beq_eq_false_iff_ne]; omega
      have d22 : ((kk : Int) == 22) = false := by rw [beq_eq_false_iff_ne]; omega
      have d23 : ((kk : Int) == 23) = false := by rw [beq_eq_false_iff_ne]; omega
      have d24 : ((kk : Int) == 24) = false := by rw [beq_eq_false_iff_ne]; omega
      have HC := Lib.hid (binary_any kk v0 v1 x wr)
      rw [hpair] at HC
      clear hpair
      go_wp2_with first
        | (go_at_call 16; (with_reducible refine HC.out.mono ?_); rintro e w9 ⟨rfl, hb9⟩; obtain ⟨z0, z1, z2, z3, z4, z5⟩ := KT.out w9 (HLK.out.below.trans (hb9.mono HLK.out.below.size)))
        | (go_at_call 10; refine (HOW.out _).mono ?_; rintro e w5 ⟨rfl, rfl⟩)
      go_ret
      exact ⟨rfl, HBB.out.trans (hb9.mono HBB.out.size)⟩

set_option maxRecDepth 100000 in
theorem walk {H : Type} {enc : TypeId × Value → H} {W : World} {base : Nat} (v0 v1 v2 : Value) {d0 d1 d2 : DataW H} {p0 p1 p2 : List MemPlace} (ok0 : Value.okWide Tryz.prog W .any base 25 v0) (h0 : DataW.Trod enc Tryz.prog W 0 (fun _ => true) true 25 v0 d0 p0)
    (ok1 : Value.okWide Tryz.prog W .any base 26 v1) (h1 : DataW.Trod enc Tryz.prog W 0 (fun _ => true) true 26 v1 d1 p1) (ok2 : Value.okWide Tryz.prog W .any base 27 v2) (h2 : DataW.Trod enc Tryz.prog W 0 (fun _ => true) true 27 v2 d2 p2) (hL : laidMetH Tryz.prog Rows.termComposeRow.laid W) :
    Calls Tryz.prog 3 #[v0, v1, v2] W fun e w' => e = .returned (.bool true) ∧ Below W.heap.size W w' := by
  obtain ⟨t, p, nn, cap, rfl, hfit, hsub⟩ := open_termv ok0 h0
  obtain ⟨f1, h1⟩ := h1
  obtain ⟨a1, l1, k1, rfl⟩ := Go.WideShapes.okWide_slice Tryz.underlying26 ok1
  obtain ⟨pe, ne, ce, N, D, X, e1, _, HE, HX⟩ := open_env h1
  obtain ⟨rfl, rfl, rfl⟩ : a1 = pe ∧ l1 = ne ∧ k1 = ce := by simpa [Value.cells] using e1
  obtain ⟨pm, mn, mc, A, B, rfl, HM, HB⟩ := open_cells ok2 h2
  have hP : Pre t p nn cap a1 l1 N D X pm mn A B W := ⟨hsub, hfit, shapes_of W hL, HE, HX, HM, HB, fun Y hb => alive_later W Y hb hL⟩
  by_cases hq : greatM N l1 mn = true
  · exact core_great t p nn cap a1 l1 k1 N D X pm mn mc A B W hP hq
  have hq2 : greatM N l1 mn = false := by simpa using hq
  by_cases hok : OkV N D X l1 A B mn t
  · by_cases hnn : nn = 0
    · exact core_leaf t p nn cap a1 l1 k1 N D X pm mn mc A B W hP hq2 hok hnn
    · exact core_node t p nn cap a1 l1 k1 N D X pm mn mc A B W hP hq2 hok (by omega)
  · exact core_none t p nn cap a1 l1 k1 N D X pm mn mc A B W hP hq2 hok
end Go.Proofs.YthogpmddijbigaaGreatDoor.termCompose
