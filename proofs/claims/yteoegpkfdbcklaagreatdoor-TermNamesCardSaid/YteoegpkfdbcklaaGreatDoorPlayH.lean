/- Play: the operations: built values. -/
import Derived.Test.YteoegpkfdbcklaaGreatDoorPlayG
namespace Go.Play
set_option linter.unusedVariables false
set_option linter.unusedSimpArgs false
section
variable {P : Program} {G : Glob} {M : Nat → Prop} {ρ : Env} {h : H} {w : World}

theorem fold_over (off : Nat) : ∀ (vs : List Value) (k : Nat) (c : Array Value),
    ((vs.zipIdx k).foldl (fun (cs : Array Value) (p : Value × Nat) => cs.setIfInBounds (off + p.2) p.1) c).size = c.size ∧
    ∀ j : Nat, ((vs.zipIdx k).foldl (fun (cs : Array Value) (p : Value × Nat) => cs.setIfInBounds (off + p.2) p.1) c)[j]? = if off + k ≤ j ∧ j < off + k + vs.length ∧ j < c.size then vs[j - (off + k)]? else c[j]? := by
  intro vs
  induction vs with
  | nil => intro k c; exact ⟨rfl, fun j => by rw [if_neg (by simp only [List.length_nil]; omega)]; rfl⟩
  | cons v vs ih =>
    intro k c
    obtain ⟨h1, h2⟩ := ih (k + 1) (c.setIfInBounds (off + k) v)
    simp only [List.zipIdx_cons, List.foldl_cons]
    refine ⟨by rw [h1]; simp, fun j => ?_⟩
    rw [h2]
    simp only [List.length_cons, Array.size_setIfInBounds]
    by_cases hj : j = off + k
    · subst hj
      rw [if_neg (by omega)]
      by_cases hs : off + k < c.size
      · rw [if_pos (by omega)]; simp [hs]
      · rw [if_neg (by omega), Array.getElem?_eq_none (by simpa using hs), Array.getElem?_eq_none (by simpa using hs)]
    · by_cases h3 : off + (k + 1) ≤ j ∧ j < off + (k + 1) + vs.length ∧ j < c.size
      · rw [if_pos h3, if_pos (by omega)]
        obtain ⟨m, hm⟩ : ∃ m, j - (off + k) = m + 1 := ⟨j - (off + k) - 1, by omega⟩
        rw [hm, List.getElem?_cons_succ]; congr 1; omega
      · rw [if_neg h3, if_neg (by omega), Array.getElem?_setIfInBounds_ne (Ne.symm hj)]
theorem fill_ok {t : T SV} {ev : Operand → Value} (hev : ∀ x, VR ρ (Play.ev x t) (ev x)) {place : Nat → Option (Nat × Nat)} : ∀ (l : List (Nat × Operand)) {cells r : List SV} {zs : Array Value}, fill l t place cells = some r → VRL ρ cells zs.toList →
    ∃ ys : Array Value, Instr.fill place zs (l.map fun p => (p.1, ev p.2)) = some ys ∧ VRL ρ r ys.toList := by
  intro l
  induction l with
  | nil => intro cells r zs h k; cases h; exact ⟨zs, rfl, k⟩
  | cons p l ih =>
    intro cells r zs hf hz
    obtain ⟨i, x⟩ := p
    change fill1 (place i) (cellsOf (Play.ev x t)) cells (fill l t place) = some r at hf
    cases hp : place i with
    | none => rw [hp] at hf; cases hf
    | some q =>
      obtain ⟨off, size⟩ := q
      rw [hp] at hf
      change fill2 (Nat.beq (lenS (cellsOf (Play.ev x t))) size) off (cellsOf (Play.ev x t)) cells (fill l t place) = some r at hf
      cases hb : Nat.beq (lenS (cellsOf (Play.ev x t))) size with
      | false => rw [hb] at hf; cases hf
      | true =>
        rw [hb] at hf
        change fill3 (overAt off (cellsOf (Play.ev x t)) cells) (fill l t place) = some r at hf
        cases hov : overAt off (cellsOf (Play.ev x t)) cells with
        | none => rw [hov] at hf; cases hf
        | some cs =>
          rw [hov] at hf
          change fill l t place cs = some r at hf
          have hrel := cellsOf_rel (hev x)
          have hlen : (ev x).cells.size = size := by
            rw [← Array.length_toList, ← hrel.length, ← lenS_eq]; exact Nat.eq_of_beq_eq_true hb
          obtain ⟨h1, _⟩ := overAt_some off _ hov
          have hzl := hz.length
          rw [hrel.length, Array.length_toList, hlen, hzl, Array.length_toList] at h1
          obtain ⟨f1, f2⟩ := fold_over off (ev x).cells.toList 0 zs
          let zs' := ((ev x).cells.toList.zipIdx 0).foldl (fun (cs : Array Value) (p : Value × Nat) => cs.setIfInBounds (off + p.2) p.1) zs
          have hz' : VRL ρ cs zs'.toList := by
            refine VRL.of_get ?_ fun j v hj => ?_
            · rw [overAt_length hov, hzl, Array.length_toList, Array.length_toList]; exact f1.symm
            · have e : zs'.toList[j]? = zs'[j]? := by simp
              rw [e, f2 j]
              rw [overAt_get hov] at hj
              by_cases h2 : off ≤ j ∧ j < off + (cellsOf (Play.ev x t)).length
              · rw [if_pos h2] at hj
                have h2' := h2.2
                rw [hrel.length] at h2'
                rw [if_pos ⟨by omega, by omega, by rw [Array.length_toList, hlen] at h2'; omega⟩]
                exact hrel.get _ _ hj
              · rw [if_neg h2] at hj
                rw [if_neg (by rw [← hrel.length]; omega)]
                obtain ⟨y, hy, hv⟩ := hz.get _ _ hj
                exact ⟨y, by simpa using hy, hv⟩
          obtain ⟨ys, hy1, hy2⟩ := ih hf hz'
          refine ⟨ys, ?_, hy2⟩
          rw [← hy1]
          show Instr.fill place zs ((i, ev x) :: l.map fun p => (p.1, ev p.2)) = _
          rw [Instr.fill, hp]
          simp only [hlen]
          rw [if_neg (by simp; omega)]
          congr 1
          rw [← Array.foldl_toList, Array.toList_zipIdx]
theorem run_mapM {α β : Type} {f : α → Sem β} {g : α → β} : ∀ (l : List α), (∀ a ∈ l, (f a).run P w = .ok (g a) w) → (l.mapM f).run P w = .ok (l.map g) w := by
  intro l
  induction l with
  | nil => intro _; rfl
  | cons a l ih =>
    intro hl
    rw [List.mapM_cons]
    simp only [Sem.run_bind, hl a (by simp), Result.andThen_ok, ih (fun b hb => hl b (by simp [hb])), Sem.run_pure, List.map_cons]
theorem run_mapM_array {α β : Type} {f : α → Sem β} {g : α → β} (l : Array α) (hl : ∀ a ∈ l.toList, (f a).run P w = .ok (g a) w) : (l.mapM f).run P w = .ok (l.map g) w := by
  rw [Array.mapM_eq_mapM_toList]
  simp only [Sem.run_map, run_mapM l.toList hl, Result.andThen_ok]
  congr 1
  apply Array.ext'
  simp
theorem aggE_ok (s : Sim P G M ρ h w) {o : Option (List SV)} {r : Result Value} (hr : ∀ l, o = some l → ∃ ys : Array Value, r = .ok (.agg ys) w ∧ VRL ρ l ys.toList) : ValOK P G M ρ h w r (aggE o h) := by
  cases o with
  | none => exact .bad
  | some l =>
    obtain ⟨ys, h1, h2⟩ := hr l rfl
    exact .quiet s h1 (.agg h2)
theorem build_ok (s : Sim P G M ρ h w) (ty : TypeId) {t : T SV} {ev : Operand → Value} (hev : ∀ x, VR ρ (Play.ev x t) (ev x)) (p : Array (Nat × Operand)) :
    ValOK P G M ρ h w ((Instr.build ty (p.map fun (i, x) => (i, ev x))).run P w) (build1 (zeroO P ty) ty P t h p.toList) := by
  cases hz : zeroO P ty with
  | none => exact .bad
  | some z =>
    change ValOK P G M ρ h w _ (build2 (undO P ty) P t h p.toList (litCells z))
    have hrel : VRL ρ (litCells z) z.cells.toList := litCells_rel z
    have hpl : (p.map fun (i, x) => (i, ev x)).toList = p.toList.map fun q => (q.1, ev q.2) := by simp
    cases hu : undO P ty with
    | none => exact .bad
    | some d =>
      cases d with
      | struct fields =>
        refine ifB_ok (Q := ValOK P G M ρ h w _) (e := aggE (fill p.toList t (fun i => placeF (nthD i fields.toList) P) (litCells z)) h) .bad fun hk => ?_
        have hsz : ∀ f ∈ fields.toList, (sizeO P f.type).isSome = true := fun f hf => List.all_eq_true.1 (show (fields.toList.all fun f => (sizeO P f.type).isSome) = true from hk) f hf
        refine aggE_ok s fun l hl => ?_
        obtain ⟨ys, hy1, hy2⟩ := fill_ok hev p.toList hl hrel
        refine ⟨ys, ?_, hy2⟩
        have hm := run_mapM_array (P := P) (w := w) (f := fun f : Field => (do pure (f.offset, ← sizeOf f.type) : Sem (Nat × Nat))) (g := fun f => (f.offset, P.cellsOf f.type)) fields (fun f hf => by
          have := hsz f hf
          cases hn : sizeO P f.type with
          | none => rw [hn] at this; cases this
          | some n => simp only [Sem.run_bind, run_size hn, Result.andThen_ok, Sem.run_pure, sizeO_cellsOf hn])
        have hplace : (fun i => placeF (nthD i fields.toList) P) = fun i => (fields.map fun f => (f.offset, P.cellsOf f.type))[i]? := by
          funext i
          rw [nthD_eq]
          simp only [Array.getElem?_map, Array.getElem?_toList]
          cases hf : fields[i]? with
          | none => rfl
          | some f =>
            have := hsz f (List.mem_of_getElem? (by simpa using hf))
            show placeN (sizeO P f.type) f.offset = _
            cases hn : sizeO P f.type with
            | none => rw [hn] at this; cases this
            | some n => rw [← sizeO_cellsOf hn]; rfl
        rw [hplace] at hy1
        simp only [Instr.build, Sem.run_bind, run_zero hz, run_und hu, Result.andThen_ok, hm, hpl, hy1, Sem.run_pure]
      | array n el =>
        change ValOK P G M ρ h w _ (build3 (sizeO P el) t h p.toList (litCells z))
        cases hn : sizeO P el with
        | none => exact .bad
        | some size =>
          change ValOK P G M ρ h w _ (aggE (fill p.toList t (placeA size) (litCells z)) h)
          refine aggE_ok s fun l hl => ?_
          obtain ⟨ys, hy1, hy2⟩ := fill_ok hev p.toList hl hrel
          refine ⟨ys, ?_, hy2⟩
          have hplace : placeA size = fun i => some (i * size, size) := rfl
          rw [hplace] at hy1
          simp only [Instr.build, Sem.run_bind, run_zero hz, run_und hu, Result.andThen_ok, run_size hn, hpl, hy1, Sem.run_pure]
      | _ => exact .bad
theorem buildSlice_ok (s : Sim P G M ρ h w) (ty : TypeId) (n : Nat) {t : T SV} {ev : Operand → Value} (hev : ∀ x, VR ρ (Play.ev x t) (ev x)) (p : Array (Nat × Operand)) :
    ValOK P G M ρ h w ((Instr.buildSlice ty n (p.map fun (i, x) => (i, ev x))).run P w) (bslice1 (sliceElem (undO P ty)) n P t h p.toList) := by
  have hpl : (p.map fun (i, x) => (i, ev x)).toList = p.toList.map fun q => (q.1, ev q.2) := by simp
  cases he : sliceElem (undO P ty) with
  | none => exact .bad
  | some el =>
    have hu := sliceElem_some he
    unfold bslice1
    simp only []
    cases hz : zeroO P el with
    | none => exact .bad
    | some z =>
      cases hs : sizeO P el with
      | none => exact .bad
      | some size =>
        unfold bslice2
        simp only []
        refine ifB_ok (Q := ValOK P G M ρ h w _) .bad fun hk => ?_
        simp only [Bool.and_eq_true] at hk
        obtain ⟨k1, k2⟩ := hk
        have k1 : (litCells z).length = size := by rw [← lenS_eq]; exact Nat.eq_of_beq_eq_true k1
        have k2 : n * size ≤ 16777216 := Nat.le_of_ble_eq_true k2
        have hrel : VRL ρ (litCells z) z.cells.toList := litCells_rel z
        have hzs : z.cells.size = size := by rw [← Array.length_toList, ← hrel.length]; exact k1
        cases hf : fill p.toList t (placeA size) (repS n (litCells z)) with
        | none => exact .bad
        | some cs =>
          unfold bslice4
          simp only []
          rw [newE_eq]
          let zs : Array Value := if n * size = 0 then #[] else z.cells
          let xs : Array Value := (Array.range (n * size)).map (zs[· % zs.size]!)
          have hxl : xs.toList = (List.replicate n z.cells.toList).flatten := by
            show ((Array.range (n * size)).map _).toList = _
            by_cases h0 : n * size = 0
            · have e0 : ∀ f : Nat → Value, ((Array.range 0).map f).toList = [] := fun f => by simp
              rw [h0, e0]
              rcases Nat.mul_eq_zero.1 h0 with h5 | h5
              · rw [h5]; rfl
              · have : z.cells.toList = [] := List.eq_nil_of_length_eq_zero (by rw [Array.length_toList, hzs, h5])
                rw [this]; simp
            · have : zs = z.cells := if_neg h0
              rw [this]; exact zeros_eq z.cells n _ (by rw [hzs])
          have hxr : VRL ρ (repS n (litCells z)) xs.toList := by rw [repS_eq, hxl]; exact hrel.flatten_replicate n
          obtain ⟨ys, hy1, hy2⟩ := fill_ok hev p.toList hf hxr
          have hplace : placeA size = fun i => some (i * size, size) := rfl
          rw [hplace] at hy1
          refine .alloc (f := fun k => .slice (some ⟨k, 0, none⟩) n n) (xs := ys) s ?_ ?_ ?_ ?_
          · have hle : ¬ (n * size > 2 ^ 24) := by omega
            simp only [Instr.buildSlice, Sem.run_bind, run_und hu, Result.andThen_ok, run_size hs, hle, if_false]
            by_cases h0 : n * size = 0
            · have : zs = #[] := if_pos h0
              simp only [xs, this] at hy1
              simp only [h0, if_true, Sem.run_bind, Sem.run_pure, Result.andThen_ok, hpl] at hy1 ⊢
              simp only [hy1, Sem.run_bind, newRow, run_newObj, Result.andThen_ok, Sem.run_pure]
            · have : zs = z.cells := if_neg h0
              simp only [xs, this] at hy1
              simp only [h0, if_false, Sem.run_bind, run_zero hz, Sem.run_pure, Result.andThen_ok, hpl, hy1, newRow, run_newObj]
          · rw [hy2.length]; simp
          · intro j v hj
            obtain ⟨x, hx, hv⟩ := hy2.get j v hj
            exact ⟨x, by simpa using hx, hv⟩
          · intro ρ' _ hn
            have := VR.slc (ρ := ρ') 0 n n true n hn (Nat.le_refl _) (fun _ => rfl) (fun e => by cases e)
            simpa using this
end
end Go.Play
