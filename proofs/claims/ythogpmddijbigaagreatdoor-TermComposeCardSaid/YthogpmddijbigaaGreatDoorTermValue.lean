/- Value of package term: the value of a term under bindings and memory. -/
import Derived.Test.YthogpmddijbigaaGreatDoorTermScene
import Derived.Test.YthogpmddijbigaaGreatDoorTEnvFind
namespace Go.Proofs.YthogpmddijbigaaGreatDoor
open Go.RowKit Go.Sort
set_option linter.unusedVariables false
set_option linter.unusedSimpArgs false

section
variable {P : Program} {w : World}
theorem step_mapUpdate_own {H : Type} {ops : Array Oper} {o : Oper} {a : Act} {K : Act → World → Prop} {Q : Exit → Act → World → Prop} {E : Prop} (hgd : o.guard = none) (m x v : Operand) (t : TypeId) (hop : o.op = Op.mapUpdate t m x v)
    (k e : TypeId) (KK : Maps.Keyed P k) (ht : P.underlying t = some (.map k e)) (R : Value → Option (DataW H × List MemPlace)) (b n : Nat) (D : DataW H)
    (hm : a.eval m = .map (some b)) (hown : w.ownsMap P k R b n D) (hn : n < maxLen) (key val : Value) (kl : Lit) (hx : a.eval x = key) (hv : a.eval v = val) (hkey : keyOf P k key = some kl)
    (d : DataW H) (ps : List MemPlace) (hval : R val = some (d, ps))
    (h : ∀ w', w'.ownsMap P k R b (n + 1) (D.put kl d) → w.grownBy w' (some b) → K (a.put o.dst undef) w') :
    if Region.wanted o (yielded ops a.tmps) = true then Oper.wp P o a w K Q else E := by
  have hw : Region.wanted o (yielded ops a.tmps) = true := by simp [Region.wanted, hgd]
  rw [if_pos hw]
  obtain ⟨w', hrun, r1, r2⟩ := hown.update KK ht hn hkey hval
  unfold Oper.wp
  simp [execOp, hop, hm, hx, hv, hrun, Result.andThen]
  exact h w' r1 r2
end

/-- The value that the bindings give a name. -/
def bndV (N : Nat → ByteArray) (X : Nat → Nat) (n : Nat) (s : ByteArray) : Nat := X (placeE N s n)
/-- Is a variable bound with its width? What is wrong with it? -/
noncomputable def bndE (N : Nat → ByteArray) (D : Nat → Int) (n : Nat) (t : Tm) (s : List UInt8) : Int :=
  open Classical in if NotIn N ⟨s.toArray⟩ n then 16 else if D (placeE N ⟨s.toArray⟩ n) ≠ lastW t.nodes ⟨s.toArray⟩ then 14 else 0
noncomputable def bndsE (N : Nat → ByteArray) (D : Nat → Int) (n : Nat) (t : Tm) : List (List UInt8) → Int
  | [] => 0
  | s :: l => if bndE N D n t s ≠ 0 then bndE N D n t s else bndsE N D n t l
theorem bndsE_all {N : Nat → ByteArray} {D : Nat → Int} {n : Nat} {t : Tm} {l : List (List UInt8)} (h : ∀ s ∈ l, bndE N D n t s = 0) : bndsE N D n t l = 0 := by
  induction l with
  | nil => rfl
  | cons s l ih => rw [bndsE, if_neg (by rw [h s List.mem_cons_self]; simp)]; exact ih fun x hx => h x (List.mem_cons_of_mem _ hx)
theorem bndsE_first {N : Nat → ByteArray} {D : Nat → Int} {n : Nat} {t : Tm} {l r : List (List UInt8)} {s : List UInt8} (h : ∀ x ∈ l, bndE N D n t x = 0) (hs : bndE N D n t s ≠ 0) : bndsE N D n t (l ++ s :: r) = bndE N D n t s := by
  induction l with
  | nil => rw [List.nil_append, bndsE, if_pos hs]
  | cons x l ih => rw [List.cons_append, bndsE, if_neg (by rw [h x List.mem_cons_self]; simp)]; exact ih fun y hy => h y (List.mem_cons_of_mem _ hy)
theorem bndsE_zero {N : Nat → ByteArray} {D : Nat → Int} {n : Nat} {t : Tm} {l : List (List UInt8)} (h : bndsE N D n t l = 0) : ∀ s ∈ l, bndE N D n t s = 0 := by
  induction l with
  | nil => intro s hs; cases hs
  | cons x l ih =>
    rw [bndsE] at h
    by_cases hx : bndE N D n t x = 0
    · rw [if_neg (by simpa using hx)] at h
      intro s hs
      rcases List.mem_cons.1 hs with rfl | hs
      · exact hx
      · exact ih h s hs
    · rw [if_pos hx] at h; exact absurd h hx
/-- What is wrong with Value's arguments. -/
noncomputable def badE (N : Nat → ByteArray) (D : Nat → Int) (X : Nat → Nat) (n : Nat) (A Bt : Nat → Nat) (mn : Nat) (t : Tm) : Int :=
  if checkR t ≠ 0 then checkR t else if envR N D X n ≠ 0 then envR N D X n else cellsE mn A Bt

/-- The map of the first names' values. -/
def valD {H : Type} (V : ByteArray → Nat) (l : List (List UInt8)) : DataW H := l.foldl (fun D s => D.put (.string s) (.lit (.int .u64 (V ⟨s.toArray⟩)))) (.map [])
theorem valD_snoc {H : Type} (V : ByteArray → Nat) (l : List (List UInt8)) (s : List UInt8) : valD (H := H) V (l ++ [s]) = (valD V l).put (.string s) (.lit (.int .u64 (V ⟨s.toArray⟩))) := by simp [valD]
theorem valD_map {H : Type} (V : ByteArray → Nat) (l : List (List UInt8)) : Maps.IsMap (valD (H := H) V l) := by
  induction l using snoc_ind with
  | h0 => exact ⟨[], rfl⟩
  | hs l s ih => rw [valD_snoc]; exact ih.put _ _
theorem valD_at {H : Type} (V : ByteArray → Nat) (l : List (List UInt8)) : ∀ s ∈ l, (valD (H := H) V l).atKey (.string s) (.lit (.int .u64 0)) = .lit (.int .u64 (V ⟨s.toArray⟩)) := by
  induction l using snoc_ind with
  | h0 => intro s hs; cases hs
  | hs l x ih =>
    intro s hs
    rw [valD_snoc]
    by_cases e : s = x
    · subst e
      exact Maps.atKey_put_same (valD_map V l) (show WideAt.IsKeyLit (.string s) from trivial) _ _
    · rw [Maps.atKey_put_other (fun q => e (by injection q))]
      rcases List.mem_append.1 hs with h | h
      · exact ih s h
      · exact absurd (List.mem_singleton.1 h) e

theorem bindsC_at (t : Tm) (ss : List (List UInt8)) : ∀ k, k < ss.length → (bindsC t ss)[k * 3]? = some (encStr (ss.getD k [])) ∧ (bindsC t ss)[k * 3 + 1]? = some (.int .i64 (lastW t.nodes ⟨(ss.getD k []).toArray⟩)) ∧ (bindsC t ss)[k * 3 + 2]? = some (.int .u64 0) := by
  induction ss with
  | nil => intro k h; simp at h
  | cons s l ih =>
    intro k h
    have e : bindsC t (s :: l) = encStr s :: .int .i64 (lastW t.nodes ⟨s.toArray⟩) :: .int .u64 0 :: bindsC t l := by simp [bindsC, bindC]
    rw [e]
    cases k with
    | zero => simp
    | succ k =>
      have h2 := ih k (by simpa using h)
      rw [show (k + 1) * 3 = k * 3 + 1 + 1 + 1 by omega]
      simp only [List.getElem?_cons_succ, List.getD_cons_succ]
      exact h2
/-- What a row of bindings reads as. -/
theorem binds_read {w : World} {base : Nat} {v : Value} {t : Tm} {ss : List (List UInt8)} {n : Nat} (hn : ss.length = n) (h : w.ownsRow base 54 3 v n (bindsC t ss)) :
    ∃ q c, v = .slice q n c ∧ ∀ i (hi : i < n), ∃ g, q = some ⟨g, 0, none⟩ ∧ g < w.heap.size ∧ w.cell? ⟨g, i * 3, none⟩ = some (encStr (ss.getD i [])) ∧ w.cell? ⟨g, i * 3 + 1, none⟩ = some (.int .i64 (lastW t.nodes ⟨(ss.getD i []).toArray⟩)) ∧ w.cell? ⟨g, i * 3 + 2, none⟩ = some (.int .u64 0) := by
  rcases h.2 with ⟨rfl, h0⟩ | ⟨g, cap, cur, rfl, hg, hh, _⟩
  · exact ⟨none, 0, by rw [h0], fun i hi => by omega⟩
  · refine ⟨_, cap, rfl, fun i hi => ⟨g, rfl, (Array.getElem?_eq_some_iff.1 hh).1, ?_, ?_, ?_⟩⟩
    · rw [World.ownsRow.cellAt h _ (by omega)]; exact (bindsC_at t ss i (by omega)).1
    · rw [World.ownsRow.cellAt h _ (by omega)]; exact (bindsC_at t ss i (by omega)).2.1
    · rw [World.ownsRow.cellAt h _ (by omega)]; exact (bindsC_at t ss i (by omega)).2.2

set_option maxRecDepth 100000 in
set_option maxHeartbeats 2000000 in
theorem value_bad (t : Tm) (p : Option Addr) (nn cap : Nat) (pe : Option Addr) (n ce : Nat) (N : Nat → ByteArray) (D : Nat → Int) (X : Nat → Nat) (pm : Option Addr) (mn mc : Nat) (A Bt : Nat → Nat) (w : World)
    (hdp : t.dp ≤ 9000) (hs : SubAt w w.heap.size (.slice p nn cap) t.sub) (hfit : t.fit) (hT : ShapesAt w) (hlong : t.long = false)
    (hn : n ≤ 1100) (hE : EnvAt w pe n N D X) (hN : ∀ i, i < n → (N i).size ≤ 200) (hmn : mn ≤ 4200) (hM : MemAt w pm mn A Bt)
    (hbad : badE N D X n A Bt mn t ≠ 0) :
    Calls Tryz.prog 9 #[.agg (Tm.cells t (.slice p nn cap)).toArray, .slice pe n ce, .slice pm mn mc] w fun e w' => Below w.heap.size w w' ∧ e = .returned (.tuple #[.int .u64 0, .int .i64 (badE N D X n A Bt mn t)]) := by
  obtain ⟨W1, hW1⟩ : ∃ W1, W1 = w.alloc (.cells (Tm.cells t (.slice p nn cap)).toArray 25) := ⟨_, rfl⟩
  have hb1 : Below w.heap.size w W1 := by rw [hW1]; exact (Below.refl _ _).alloc (Nat.le_refl _) _
  have HC := Lib.hid (vars_any t p nn cap W1 hdp (hs.kept hb1 |>.up hb1.size) hfit (hT.below hb1) hlong)
  have HE := Lib.hid (fun X' (h : Below w.heap.size w X') => checkBound_any pe n ce N D X X' hn (hE.below h) hN)
  have HM := Lib.hid (fun X' (h : Below w.heap.size w X') => cells_any pm mn mc A Bt X' (hM.below h) hmn)
  have HB := Lib.hid hb1
  clear hb1 hs hT hE hM hN
  rw [hW1] at HC HB
  simp only [Tm.cells] at HC HB ⊢
  clear hW1 W1
  by_cases c1 : checkR t = 0
  · by_cases c2 : envR N D X n = 0
    · have c3 : cellsE mn A Bt = 8 := by
        rcases cellsE_two mn A Bt with h | h
        · exfalso; apply hbad; unfold badE; rw [if_neg (by simpa using c1), if_neg (by simpa using c2)]; exact h
        · exact h
      have HV : Hid (badE N D X n A Bt mn t = 8) := Lib.hid (by unfold badE; rw [if_neg (by simpa using c1), if_neg (by simpa using c2), c3])
      rw [c2] at HE
      rw [c3] at HM
      rw [HV.out]
      have HX := Lib.hid c1
      clear hbad c1 c2 c3 HV
      go_enter Tryz.func9, Tryz.ntmps9
      go_wp2_with first
        | (go_at_call 24; refine HC.out.mono ?_; rintro e w2 ⟨hb2, (⟨hne, rfl⟩ | ⟨h0, ss, v, hvn, hsl, rfl, hrow⟩)⟩; exact absurd HX.out hne; have HB2 := Lib.hid (HB.out.trans (hb2.mono HB.out.size)); clear hb2)
        | (go_at_call 21; refine (HE.out _ HB2.out).mono ?_; rintro e w3 ⟨rfl, hb3⟩; have HB3 := Lib.hid (HB2.out.trans (hb3.mono HB2.out.size)); clear hb3)
        | (go_at_call 19; refine (HM.out _ HB3.out).mono ?_; rintro e w4 ⟨rfl, hb4⟩; have HB4 := Lib.hid (HB3.out.trans (hb4.mono HB3.out.size)); clear hb4)
      go_ret2
      exact ⟨HB4.out, rfl⟩
    · have c3 : envR N D X n = 8 := by
        rcases envR_cases N D X n with h | h
        · exact absurd h c2
        · exact h
      have HV : Hid (badE N D X n A Bt mn t = 8) := Lib.hid (by unfold badE; rw [if_neg (by simpa using c1), if_pos c2, c3]; rfl)
      rw [c3] at HE
      rw [HV.out]
      have HX := Lib.hid c1
      clear hbad c1 c2 c3 HV
      go_enter Tryz.func9, Tryz.ntmps9
      go_wp2_with first
        | (go_at_call 24; refine HC.out.mono ?_; rintro e w2 ⟨hb2, (⟨hne, rfl⟩ | ⟨h0, ss, v, hvn, hsl, rfl, hrow⟩)⟩; exact absurd HX.out hne; have HB2 := Lib.hid (HB.out.trans (hb2.mono HB.out.size)); clear hb2)
        | (go_at_call 21; refine (HE.out _ HB2.out).mono ?_; rintro e w3 ⟨rfl, hb3⟩; have HB3 := Lib.hid (HB2.out.trans (hb3.mono HB2.out.size)); clear hb3)
      go_ret2
      exact ⟨HB3.out, rfl⟩
  · have HV : Hid (badE N D X n A Bt mn t = checkR t) := Lib.hid (by unfold badE; rw [if_pos c1])
    rw [HV.out]
    obtain ⟨cr, hcr⟩ : ∃ cr : Int, cr = (checkR t : Nat) := ⟨_, rfl⟩
    have hne0 : (cr == 0) = false := by rw [beq_eq_false_iff_ne, hcr]; intro h; exact c1 (by omega)
    have hne1 : (cr != 0) = true := by simp [bne, hne0]
    rw [← hcr] at HC ⊢
    have HX := Lib.hid c1
    clear hbad c1 HV hcr
    go_enter Tryz.func9, Tryz.ntmps9
    go_wp2_with (go_at_call 24; refine HC.out.mono ?_; rintro e w2 ⟨hb2, (⟨hne, rfl⟩ | ⟨h0, _⟩)⟩; rotate_left; exact absurd h0 HX.out; have HB2 := Lib.hid (HB.out.trans (hb2.mono HB.out.size)); clear hb2)
    go_ret2
    exact ⟨HB2.out, rfl⟩

theorem bndE_zero {N : Nat → ByteArray} {D : Nat → Int} {X : Nat → Nat} {n : Nat} {t : Tm} {s : List UInt8} (hall : allTo (bndOk N D X) n = true) (h : bndE N D n t s = 0) : ∃ i, i < n ∧ N i = ⟨s.toArray⟩ ∧ D i = lastW t.nodes ⟨s.toArray⟩ ∧ placeE N ⟨s.toArray⟩ n = i := by
  unfold bndE at h
  by_cases hnot : NotIn N ⟨s.toArray⟩ n
  · rw [if_pos hnot] at h; exact absurd h (by decide)
  · rw [if_neg hnot] at h
    obtain ⟨i, hi, hNi⟩ : ∃ i, i < n ∧ N i = ⟨s.toArray⟩ := by
      apply Classical.byContradiction
      intro h
      exact hnot fun j hj e => h ⟨j, hj, e⟩
    have hpl : placeE N ⟨s.toArray⟩ n = i := by rw [← hNi]; exact place_yes hall i hi
    by_cases hw : D (placeE N ⟨s.toArray⟩ n) ≠ lastW t.nodes ⟨s.toArray⟩
    · rw [if_pos hw] at h; exact absurd h (by decide)
    · refine ⟨i, hi, hNi, ?_, hpl⟩
      rw [hpl] at hw
      exact Classical.byContradiction hw
/-- Where all variables are bound: their values are of their widths. -/
theorem vars_fit {N : Nat → ByteArray} {D : Nat → Int} {X : Nat → Nat} {n : Nat} {t : Tm} {ss : List (List UInt8)} (hv : t.Valid) (hall : allTo (bndOk N D X) n = true) (hn : VarNames t ss) (h : ∀ s ∈ ss, bndE N D n t s = 0) : VarsFit (bndV N X n) t := fun u hu hk => by
  have hw := hv.width hu hk
  have hm : u.name.data.toList ∈ ss := (hn.2.2 _).2 (by simpa using hw.1)
  obtain ⟨i, hi, hNi, hDi, hpl⟩ := bndE_zero hall (h _ hm)
  have e : (⟨u.name.data.toList.toArray⟩ : ByteArray) = u.name := by simp
  rw [e] at hNi hDi hpl
  have hb := allTo_at _ n hall i hi
  unfold bndOk at hb
  simp only [Bool.and_eq_true] at hb
  have h2 := ((okW_iff _ _).1 hb.1.2).2
  unfold bndV
  rw [hpl, ← hw.2, ← hDi]
  exact h2

theorem Tm.nodes_short : ∀ (z : Nat) (t : Tm), t.sz ≤ z → t.long = false → ∀ u ∈ t.nodes, u.name.size ≤ 200 := by
  intro z
  induction z with
  | zero => intro t ht; rw [Tm.sz_eq] at ht; omega
  | succ z ih =>
    intro t ht hl u hu
    rw [Tm.long_eq, Bool.or_eq_false_iff] at hl
    rw [Tm.nodes_eq] at hu
    rcases List.mem_cons.1 hu with rfl | hu
    · simpa using hl.2
    · obtain ⟨v, hv, hu2⟩ := List.mem_flatMap.1 hu
      have h1 := Tm.sz_mem hv
      have h2 := Tm.sz_eq t
      exact ih v (by omega) (Tm.longs_mem hv hl.1) u hu2
theorem badE_zero {N : Nat → ByteArray} {D : Nat → Int} {X : Nat → Nat} {n : Nat} {A Bt : Nat → Nat} {mn : Nat} {t : Tm} (h : badE N D X n A Bt mn t = 0) : checkR t = 0 ∧ envR N D X n = 0 ∧ cellsE mn A Bt = 0 := by
  unfold badE at h
  by_cases c1 : checkR t = 0
  · rw [if_neg (by simpa using c1)] at h
    by_cases c2 : envR N D X n = 0
    · rw [if_neg (by simpa using c2)] at h; exact ⟨c1, c2, h⟩
    · rw [if_pos c2] at h; exact absurd (by omega) c2
  · rw [if_pos c1] at h; exact absurd (by omega) c1

set_option maxRecDepth 100000 in
set_option maxHeartbeats 2000000 in
theorem value_fine (t : Tm) (p : Option Addr) (nn cap : Nat) (pe : Option Addr) (n ce : Nat) (N : Nat → ByteArray) (D : Nat → Int) (X : Nat → Nat) (pm : Option Addr) (mn mc : Nat) (A Bt : Nat → Nat) (L : Nat → Nat → Nat → Nat) (w : World)
    (hdp : t.dp ≤ 9000) (hs : SubAt w w.heap.size (.slice p nn cap) t.sub) (hfit : t.fit) (hT : ShapesAt w) (hlong : t.long = false)
    (hn : n ≤ 1100) (hE : EnvAt w pe n N D X) (hN : ∀ i, i < n → (N i).size ≤ 200) (hX : ∀ i, i < n → X i < 18446744073709551616) (hmn : mn ≤ 4200) (hM : MemAt w pm mn A Bt) (hBt : ∀ i, i < mn → Bt i < 256) (hL : L = fun a b k => part (fun i => bytN A Bt mn (adr a b i)) k)
    (hfine : badE N D X n A Bt mn t = 0) :
    Calls Tryz.prog 9 #[.agg (Tm.cells t (.slice p nn cap)).toArray, .slice pe n ce, .slice pm mn mc] w fun e w' => Below w.heap.size w w' ∧ ∃ ss, VarNames t ss ∧
      ((bndsE N D n t ss = 0 ∧ e = .returned (.tuple #[.int .u64 (t.val (bndV N X n) L), .int .i64 0])) ∨ (bndsE N D n t ss ≠ 0 ∧ e = .returned (.tuple #[.int .u64 0, .int .i64 (bndsE N D n t ss)]))) := by
  obtain ⟨c1, c2, c3⟩ := badE_zero hfine
  have hval := (checkR_zero t).1 c1
  obtain ⟨hn1, hall⟩ := envR_zero c2
  obtain ⟨W1, hW1⟩ : ∃ W1, W1 = w.alloc (.cells (Tm.cells t (.slice p nn cap)).toArray 25) := ⟨_, rfl⟩
  have hb1 : Below w.heap.size w W1 := by rw [hW1]; exact (Below.refl _ _).alloc (Nat.le_refl _) _
  have HC := Lib.hid (vars_any t p nn cap W1 hdp (hs.kept hb1 |>.up hb1.size) hfit (hT.below hb1) hlong)
  have HE := Lib.hid (fun X' (h : Below w.heap.size w X') => checkBound_any pe n ce N D X X' hn (hE.below h) hN)
  have HM := Lib.hid (fun X' (h : Below w.heap.size w X') => cells_any pm mn mc A Bt X' (hM.below h) hmn)
  rw [c2] at HE
  rw [c3] at HM
  have HB := Lib.hid hb1
  have HZ1 := Lib.hid (show W1.heap.size = w.heap.size + 1 by rw [hW1]; simp)
  have HEV := Lib.hid (fun X' (h : Below w.heap.size w X') => hE.below h)
  have HMV := Lib.hid (fun X' (h : Below w.heap.size w X') => hM.below h)
  have HSV := Lib.hid (fun X' (h : Below w.heap.size w X') => (hs.kept h).up h.size)
  have hT1 : ∀ i v, (Tm.cells t (.slice p nn cap))[i]? = some v → W1.cell? ⟨w.heap.size, i, none⟩ = some v := fun i v h => by
    rw [hW1]; exact cell_of (i := i) (World.alloc_heap_new w _) (by rw [List.getElem?_toArray]; exact h)
  have HT1 := Lib.hid hT1
  have HVAL := Lib.hid hval
  have HALL := Lib.hid hall
  have HX := Lib.hid c1
  have HFT := Lib.hid hfit
  clear hb1 hs hT hE hM hN hT1 hval hall c1 c2 c3 hfine hfit
  rw [hW1] at HC HB HT1 HZ1
  simp only [Tm.cells] at HC HB HT1 HZ1 ⊢
  clear hW1 W1
  have hmm := @run_makeMap Tryz.prog
  go_enter Tryz.func9, Tryz.ntmps9
  go_wp2_with first
    | (go_at_call 24; refine HC.out.mono ?_; rintro e w2 ⟨hb2, (⟨hne, rfl⟩ | ⟨h0, ss, v, hvn, hsl, rfl, hrow⟩)⟩; exact absurd HX.out hne; have HQ2 := Lib.hid hb2; have HB2 := Lib.hid (HB.out.trans (hb2.mono HB.out.size)); obtain ⟨m, hm⟩ : ∃ m, m = ss.length := ⟨_, rfl⟩; rw [← hm] at hrow hsl; have HSS := Lib.hid hm; have HVN := Lib.hid hvn; obtain ⟨q, c, rfl, hcell⟩ := binds_read hm.symm hrow; have HCE := Lib.hid hcell; have HSL := Lib.hid hsl; clear hb2 hcell hrow hvn hm hsl h0)
    | (go_at_call 21; refine (HE.out _ HB2.out).mono ?_; rintro e w3 ⟨rfl, hb3⟩; have HQ3 := Lib.hid hb3; have HB3 := Lib.hid (HB2.out.trans (hb3.mono HB2.out.size)); clear hb3)
    | (go_at_call 19; refine (HM.out _ HB3.out).mono ?_; rintro e w4 ⟨rfl, hb4⟩; have HQ4 := Lib.hid (HQ3.out.trans (hb4.mono HQ3.out.size)); have HB4 := Lib.hid (HB3.out.trans (hb4.mono HB3.out.size)); clear hb4)
  obtain ⟨mb, hmb⟩ : ∃ mb, mb = w4.heap.size := ⟨_, rfl⟩
  obtain ⟨W5, hW5⟩ : ∃ W5, W5 = (w4.alloc (.map #[] 0)).alloc (.cells #[.map (some w4.heap.size), .slice pm mn mc] 69) := ⟨_, rfl⟩
  rw [← hW5, ← hmb]
  rw [← hmb] at hW5
  have hbW5 : Below w4.heap.size w4 W5 := by rw [hW5]; exact ((Below.refl _ _).alloc (Nat.le_refl _) _).alloc (by simp) _
  have hs5 : W5.heap.size = mb + 2 := by rw [hW5, hmb]; simp
  have hown5 : W5.ownsMap (H := Unit) Tryz.prog 9 (plainElem Tryz.prog 22) mb 0 (valD (bndV N X n) []) := by
    rw [hW5, hmb]; exact (World.ownsMap_made w4 _ _ _).alloc _
  have h5h : W5.heap[mb + 1]? = some (.cells #[.map (some mb), .slice pm mn mc] 69 (0, 0)) := by rw [hW5]; exact new_atw (by simp [hmb]) _
  have HO5 := Lib.hid hown5
  have HH5 := Lib.hid h5h
  have HBW := Lib.hid hbW5
  have HS5 := Lib.hid hs5
  have HMB := Lib.hid hmb
  clear hown5 h5h hbW5 hs5 hW5 hmb
  go_loopw [36] (fun vi wr => ∃ k : Nat, vi = .int .i64 k ∧ k ≤ m ∧ (∀ s ∈ ss.take k, bndE N D n t s = 0) ∧ wr.ownsMap (H := Unit) Tryz.prog 9 (plainElem Tryz.prog 22) mb k (valD (bndV N X n) (ss.take k)) ∧ wr.heap[mb + 1]? = some (.cells #[.map (some mb), .slice pm mn mc] 69 (0, 0)) ∧ Below w4.heap.size w4 wr) (fun vi _ => m - (intOf vi).toNat)
  case atStart => exact ⟨0, rfl, by omega, fun s hs => by simp at hs, HO5.out, HH5.out, HBW.out⟩
  case round =>
    obtain ⟨k, rfl, hk, hgood, hown, hsc, hb⟩ := hrel
    have HGD := Lib.hid hgood
    have HOW := Lib.hid hown
    have HSC := Lib.hid hsc
    have HBR := Lib.hid hb
    have hms : mb + 2 ≤ wr.heap.size := (Array.getElem?_eq_some_iff.1 hsc).1
    have hb0 : Below w.heap.size w wr := HB4.out.trans (hb.mono HB4.out.size)
    have HB0 := Lib.hid hb0
    by_cases hlt : k < m
    · obtain ⟨g, rfl, hg, r0, r1, r2⟩ := HCE.out k hlt
      have hb2 : Below w2.heap.size w2 wr := HQ4.out.trans (hb.mono HQ4.out.size)
      rw [← hb2.cell (p := ⟨g, k * 3, none⟩) hg] at r0
      rw [← hb2.cell (p := ⟨g, k * 3 + 1, none⟩) hg] at r1
      rw [← hb2.cell (p := ⟨g, k * 3 + 2, none⟩) hg] at r2
      obtain ⟨s, hs⟩ : ∃ s, s = ss.getD k [] := ⟨_, rfl⟩
      obtain ⟨wd, hwd⟩ : ∃ wd, wd = lastW t.nodes ⟨s.toArray⟩ := ⟨_, rfl⟩
      rw [← hs] at r0 r1
      rw [← hwd] at r1
      have hk2 : k < ss.length := by rw [← HSS.out]; exact hlt
      have hsplit : ss = ss.take k ++ s :: ss.drop (k + 1) := by
        have e : s = ss[k] := by rw [hs, List.getD_eq_getElem?_getD, List.getElem?_eq_getElem hk2]; rfl
        rw [e, ← List.drop_eq_getElem_cons hk2, List.take_append_drop]
      have HSP := Lib.hid hsplit
      have hmem : s ∈ ss := by rw [hsplit]; simp
      have hsl2 : (⟨s.toArray⟩ : ByteArray).size ≤ maxLen := by
        obtain ⟨u, hu, h1, _⟩ := lastW_mem t.nodes ⟨s.toArray⟩ ((HVN.out.2.2 s).1 hmem)
        simp only [isVarOf, decide_eq_true_eq] at h1
        have h2 := Tm.nodes_short _ t (Nat.le_refl _) hlong u hu
        rw [h1.2] at h2
        unfold maxLen; omega
      have HSL2 := Lib.hid hsl2
      have HEW := Lib.hid (fun X' (h : Below wr.heap.size wr X') => HEV.out X' (hb0.trans (h.mono hb0.size)))
      by_cases hnot : NotIn N ⟨s.toArray⟩ n
      · have hbE : bndE N D n t s = 16 := by unfold bndE; rw [if_pos hnot]
        have HALLE : Hid (bndsE N D n t ss = 16) := Lib.hid (by rw [hsplit, bndsE_first hgood (by rw [hbE]; decide), hbE])
        have HF := Lib.hid (fun X' (h : Below wr.heap.size wr X') => envFind_no pe n ce N D X ⟨s.toArray⟩ X' (by omega) (HEW.out X' h) hnot)
        clear hgood hown hsc hb hb0 hb2 hs hwd hsplit hmem hsl2 hnot hbE hms hk2 hg
        go_wp2_with (go_at_call 32; refine (HF.out _ ((Below.refl _ _).alloc (Nat.le_refl _) _)).mono ?_; rintro e w7 ⟨⟨r, rfl⟩, hb7⟩)
        go_ret2
        refine ⟨HB0.out.trans ((((Below.refl _ wr).alloc (Nat.le_refl _) _).trans (hb7.mono (by simp))).mono HB0.out.size), ss, HVN.out, .inr ?_⟩
        rw [HALLE.out]
        exact ⟨by decide, rfl⟩
      · obtain ⟨i, hi, hNi⟩ : ∃ i, i < n ∧ N i = ⟨s.toArray⟩ := by
          apply Classical.byContradiction
          intro h
          exact hnot fun j hj e => h ⟨j, hj, e⟩
        have hpl : placeE N ⟨s.toArray⟩ n = i := by rw [← hNi]; exact place_yes HALL.out i hi
        have hnin : ¬ NotIn N ⟨s.toArray⟩ n := hnot
        have HF := Lib.hid (fun X' (h : Below wr.heap.size wr X') => by
          have h3 := envFind_yes pe n ce N D X X' (by omega) (HEW.out X' h) HALL.out i hi
          rw [hNi] at h3; exact h3)
        obtain ⟨be, oe, rfl, hbe, a0, a1, a2⟩ := HEV.out w (Below.refl _ _) i hi
        have hbe2 := hb0.size
        rw [← hb0.cell (p := ⟨be, oe + i * 3, none⟩) hbe] at a0
        rw [← hb0.cell (p := ⟨be, oe + i * 3 + 1, none⟩) hbe] at a1
        rw [← hb0.cell (p := ⟨be, oe + i * 3 + 2, none⟩) hbe] at a2
        have hi0 : (0 : Int) ≤ (i : Int) := Int.natCast_nonneg _
        have hi1 : (i : Int) < (n : Int) := by omega
        obtain ⟨vb, hvb⟩ : ∃ vb, vb = wr.heap.size := ⟨_, rfl⟩
        obtain ⟨W6, hW6⟩ : ∃ W6, W6 = wr.alloc (.cells #[encStr s, .int .i64 wd, .int .u64 0] 54) := ⟨_, rfl⟩
        have hb6 : Below wr.heap.size wr W6 := by rw [hW6]; exact (Below.refl _ _).alloc (Nat.le_refl _) _
        have h6h : W6.heap[vb]? = some (.cells #[encStr s, .int .i64 wd, .int .u64 0] 54 (0, 0)) := by rw [hW6]; exact new_atw hvb _
        have hbel : be < wr.heap.size := by omega
        -- what holds in every later world
        have HSB := Lib.hid (fun (Y : World) (h : Below W6.heap.size W6 Y) => (⟨by rw [(hb6.trans (h.mono hb6.size)).cell (by simp; omega)]; exact cell_of (i := 0) hsc rfl, by rw [h.cell (Array.getElem?_eq_some_iff.1 h6h).1]; exact cell_of (i := 0) h6h rfl, by rw [(hb6.trans (h.mono hb6.size)).cell hbel]; exact a2⟩ : Y.cell? ⟨mb + 1, 0, none⟩ = some (.map (some mb)) ∧ Y.cell? ⟨vb, 0, none⟩ = some (encStr s) ∧ Y.cell? ⟨be, oe + i * 3 + 2, none⟩ = some (.int .u64 (X i : Nat))))
        have HVB := Lib.hid (fun (Y : World) (h : Below W6.heap.size W6 Y) => (⟨by rw [(hb6.trans (h.mono hb6.size)).cell hbel]; exact a1, by rw [h.cell (Array.getElem?_eq_some_iff.1 h6h).1]; exact cell_of (i := 1) h6h rfl⟩ : Y.cell? ⟨be, oe + i * 3 + 1, none⟩ = some (.int .i64 (D i)) ∧ Y.cell? ⟨vb, 1, none⟩ = some (.int .i64 wd)))
        have HFF := Lib.hid (HF.out W6 hb6)
        have HW6 := Lib.hid hW6
        have HB6 := Lib.hid hb6
        have HNI := Lib.hid hNi
        have HPL := Lib.hid hpl
        have HVBE := Lib.hid hvb
        have HNIN := Lib.hid hnin
        have HOM := Lib.hid (fun (Y : World) (h : Below wr.heap.size wr Y) => own_below hown h)
        have HSC2 := Lib.hid (fun (Y : World) (h : Below wr.heap.size wr Y) => (h.block (mb + 1) (by omega)).trans hsc)
        have HMS := Lib.hid hms
        have HBE := Lib.hid hbel
        have HBEW := Lib.hid hbe
        have HLNS := Lib.hid hk2
        have HSD := Lib.hid hs
        have HWD := Lib.hid hwd
        rw [hW6] at HFF
        by_cases hwe : D i = wd
        · have hne : (D i != wd) = false := by rw [hwe]; simp
          have hbE : bndE N D n t s = 0 := by unfold bndE; rw [if_neg hnin, hpl, ← hwd, if_neg (by simpa using hwe)]
          have HBE0 := Lib.hid hbE
          clear hgood hown hsc hb hb0 hb2 hs hwd hsplit hmem hsl2 hnot hbE hms hk2 hg hnin hpl hNi hW6 hb6 h6h hbe hbe2 hwe hbel hvb
          go_wp2_with (go_at_call 32; refine HFF.out.mono ?_; rintro e w7 ⟨rfl, hb7⟩; rw [← HW6.out] at hb7; obtain ⟨s0, s1, s2⟩ := HSB.out w7 hb7; obtain ⟨s3, s4⟩ := HVB.out w7 hb7; have HB7 := Lib.hid hb7; clear hb7)
          rw [← HVBE.out]
          go_quiet (fail)
          go_wp2_with fail
          obtain ⟨W8, hW8⟩ : ∃ W8, W8 = w7.drewN nq := ⟨_, rfl⟩
          have hb68 : Below W6.heap.size W6 W8 := by rw [hW8]; exact HB7.out.trans ⟨rfl, rfl, rfl, Nat.le_refl _, fun _ _ => rfl⟩
          rw [← hW8]
          clear hW8 s0 s1 s2 s3 s4
          have hbr8 : Below wr.heap.size wr W8 := HB6.out.trans (hb68.mono HB6.out.size)
          obtain ⟨s0, s1, s2⟩ := HSB.out W8 hb68
          have HWF := Lib.hid (show (Lit.int .u64 (X i : Nat)).wf = true by
            have := hX i hi
            simp [Lit.wf, IntKind.min, IntKind.max, IntKind.bits, IntKind.signed]; omega)
          have HNE : Hid (some (mb + 1) ≠ some mb ∧ some vb ≠ some mb ∧ some be ≠ some mb) := Lib.hid (by
            have h1 := HMS.out
            have h2 := HVBE.out
            have h3 := HMB.out
            have h4 := HB4.out.size
            refine ⟨fun e => by injection e with e; omega, fun e => by injection e with e; omega, fun e => by have h5 := HBEW.out; injection e with e; omega⟩)
          obtain ⟨w9, hrun9, hown9, hgrow9⟩ := World.ownsMap.update (key := encStr s) (val := .int .u64 (X i : Nat)) (HOM.out W8.drew hbr8.drew) (Maps.string_keyed Tryz.underlying9) Tryz.underlying67 (by have := HSL.out; unfold maxLen; omega) (Go.WideMaps.keyOf_string_mk Tryz.underlying9 HSL2.out) (plainElem_int Tryz.underlying22 HWF.out)
          have hS9 := (⟨hgrow9.cell (HSB.out _ hb68.drew).1 HNE.out.1, hgrow9.cell (HSB.out _ hb68.drew).2.1 HNE.out.2.1, hgrow9.cell (HSB.out _ hb68.drew).2.2 HNE.out.2.2⟩ : w9.cell? ⟨mb + 1, 0, none⟩ = some (.map (some mb)) ∧ w9.cell? ⟨vb, 0, none⟩ = some (encStr s) ∧ w9.cell? ⟨be, oe + i * 3 + 2, none⟩ = some (.int .u64 (X i : Nat)))
          have HG9 := Lib.hid hgrow9
          have HO9 := Lib.hid hown9
          have HB8 := Lib.hid hbr8
          clear hgrow9 hown9
          go_region_held3 (fun w' => w'.cell? ⟨mb + 1, 0, none⟩ = some (.map (some mb)) ∧ w'.cell? ⟨vb, 0, none⟩ = some (encStr s) ∧ w'.cell? ⟨be, oe + i * 3 + 2, none⟩ = some (.int .u64 (X i : Nat)))
            (first | exact hS9 | (refine HSB.out _ ?_; (repeat (first | assumption | exact Below.refl _ _ | refine Below.drew ?_)); done) | go_keep)
            (fail)
          have hnew : w9.ownsMap (H := Unit) Tryz.prog 9 (plainElem Tryz.prog 22) mb (k + 1) (valD (bndV N X n) (ss.take (k + 1))) := by
            have e : ss.take (k + 1) = ss.take k ++ [s] := by rw [List.take_add_one, HSD.out, List.getD_eq_getElem?_getD, List.getElem?_eq_getElem HLNS.out]; rfl
            rw [e, valD_snoc, show bndV N X n ⟨s.toArray⟩ = X i by unfold bndV; rw [HPL.out]]
            exact HO9.out
          have HN9 := Lib.hid hnew
          have hgd : ∀ x ∈ ss.take (k + 1), bndE N D n t x = 0 := fun x hx => by
            have e : ss.take (k + 1) = ss.take k ++ [s] := by rw [List.take_add_one, HSD.out, List.getD_eq_getElem?_getD, List.getElem?_eq_getElem HLNS.out]; rfl
            rw [e] at hx
            rcases List.mem_append.1 hx with h | h
            · exact HGD.out x h
            · rw [List.mem_singleton.1 h]; exact HBE0.out
          have HGD2 := Lib.hid hgd
          have hmapc : ∃ o : Obj, W8.drew.heap[mb]? = some o ∧ o.isCells = false := by
            obtain ⟨es, clock, hb', _⟩ := HOM.out W8.drew HB8.out.drew
            exact ⟨_, hb', rfl⟩
          have hsc9 : w9.heap[mb + 1]? = some (.cells #[.map (some mb), .slice pm mn mc] 69 (0, 0)) := by
            have h := HSC2.out W8.drew HB8.out.drew
            exact (grownBy_keeps_cells HG9.out (fun q e => by cases e; exact hmapc) h rfl).trans h
          have hb9 : Below w4.heap.size w4 w9 := by
            have h1 := HBR.out.size
            have h2 : Below w4.heap.size w4 W8.drew := HBR.out.trans (HB8.out.drew.mono h1)
            exact h2.grown HG9.out h2.size (fun r hr => by cases hr; have := HMB.out; omega)
          have HSC9 := Lib.hid hsc9
          have HB9 := Lib.hid hb9
          clear hnew hgd hmapc hsc9 hb9 hS9 hrun9
          go_wp2
          go_roundw
          case rel => have h400 := HSL.out; exact ⟨k + 1, by first | rfl | (rw [wrap64_small _ (by omega) (by omega)]; rfl), by omega, HGD2.out, HN9.out, HSC9.out, HB9.out⟩
          case measure => have := HSL.out; (try rw [wrap64_small _ (by omega) (by omega)]); simp only [intOf]; omega
        · have hne : (D i != wd) = true := by simp [hwe]
          have hbE : bndE N D n t s = 14 := by unfold bndE; rw [if_neg hnin, hpl, ← hwd, if_pos hwe]
          have HALLE : Hid (bndsE N D n t ss = 14) := Lib.hid (by rw [hsplit, bndsE_first hgood (by rw [hbE]; decide), hbE])
          clear hgood hown hsc hb hb0 hb2 hs hwd hsplit hmem hsl2 hnot hbE hms hk2 hg hnin hpl hNi hW6 hb6 h6h hbe hbe2 hwe hbel hvb
          go_wp2_with (go_at_call 32; refine HFF.out.mono ?_; rintro e w7 ⟨rfl, hb7⟩; rw [← HW6.out] at hb7; obtain ⟨s0, s1, s2⟩ := HSB.out w7 hb7; obtain ⟨s3, s4⟩ := HVB.out w7 hb7; have HB7 := Lib.hid hb7; clear hb7)
          rw [← HVBE.out]
          go_quiet (fail)
          go_wp2_with fail
          go_ret2
          refine ⟨HB0.out.trans ((HB6.out.trans ((HB7.out.trans (show Below W6.heap.size w7 (w7.drewN nq) from ⟨rfl, rfl, rfl, Nat.le_refl _, fun _ _ => rfl⟩)).mono HB6.out.size)).mono HB0.out.size), ss, HVN.out, .inr ?_⟩
          rw [HALLE.out]
          exact ⟨by decide, rfl⟩
    · obtain rfl : k = m := by omega
      rw [List.take_of_length_le (by have := HSS.out; omega)] at hgood hown
      have hb0s := hb0.size
      have hvf := vars_fit HVAL.out HALL.out HVN.out hgood
      have hat : ∀ u ∈ t.nodes, u.kind = 2 → (valD (H := Unit) (bndV N X n) ss).atKey (nameKey u.name) (.lit (.int .u64 0)) = .lit (.int .u64 (bndV N X n u.name)) := fun u hu hk2 => by
        have hw := HVAL.out.width hu hk2
        have hmm : u.name.data.toList ∈ ss := (HVN.out.2.2 _).2 (by simpa using hw.1)
        have h := valD_at (H := Unit) (bndV N X n) ss _ hmm
        have e : (⟨u.name.data.toList.toArray⟩ : ByteArray) = u.name := by simp
        rw [e] at h
        exact h
      have HF := Lib.hid (scene_any mb k (valD (bndV N X n) ss) pm mn mc A Bt (bndV N X n) L hmn hBt hL t.sz t (Nat.le_refl _) HVAL.out HFT.out hvf hat (.slice p nn cap) wr (HSV.out wr hb0) (HMV.out wr hb0) hown)
      have e0 := cell_of (i := 0) hsc rfl
      have e1 := cell_of (i := 1) hsc rfl
      have hTT : ∀ i v, (Tm.cells t (.slice p nn cap))[i]? = some v → wr.cell? ⟨w.heap.size, i, none⟩ = some v := fun i v h => by
        have h1 := HZ1.out
        have h12 := HQ2.out.trans ((HQ4.out.trans (hb.mono HQ4.out.size)).mono HQ2.out.size)
        rw [h12.cell (by rw [h1]; show w.heap.size < w.heap.size + 1; omega)]
        exact HT1.out i v h
      have T0 := hTT 0 _ rfl
      have T1 := hTT 1 _ rfl
      have T2 := hTT 2 _ rfl
      have T3 := hTT 3 _ rfl
      have T4 := hTT 4 _ rfl
      have T5 := hTT 5 _ rfl
      simp only [Tm.cells] at HF
      obtain ⟨rv, hrv⟩ : ∃ rv, rv = t.val (bndV N X n) L := ⟨_, rfl⟩
      rw [← hrv] at HF
      have HRV := Lib.hid hrv
      clear hrv
      have HALLE := Lib.hid (bndsE_all hgood)
      clear hgood hown hsc hb hb0 hvf hat hTT
      go_wp2_with (go_at_call 35; refine HF.out.mono ?_; rintro e w9 ⟨rfl, hb9⟩)
      go_ret2
      exact ⟨HB0.out.trans (hb9.mono HB0.out.size), ss, HVN.out, .inl ⟨HALLE.out, by rw [← HRV.out]; rfl⟩⟩
end Go.Proofs.YthogpmddijbigaaGreatDoor
