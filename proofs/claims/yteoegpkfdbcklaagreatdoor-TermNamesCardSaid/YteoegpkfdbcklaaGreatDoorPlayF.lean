/- Play: the operations: fields, elements, slices. -/
import Derived.Test.YteoegpkfdbcklaaGreatDoorPlayE
namespace Go.Play
set_option linter.unusedVariables false
set_option linter.unusedSimpArgs false
section
variable {P : Program} {G : Glob} {M : Nat → Prop} {ρ : Env} {h : H} {w : World}

theorem fieldsD_some {d : Option TypeDesc} {f : Nat} {fd : Field} (h : nthD f (fieldsD d) = some fd) : ∃ fs, d = some (.struct fs) ∧ fs[f]? = some fd := by
  cases d with
  | none => rw [nthD_eq] at h; cases h
  | some t =>
    cases t with
    | struct fs => rw [nthD_eq] at h; exact ⟨fs, rfl, by simpa [fieldsD] using h⟩
    | _ => rw [nthD_eq] at h; cases h
theorem fieldAddr_ok (s : Sim P G M ρ h w) (ty : TypeId) {x : SV} {y : Value} (hx : VR ρ x y) (f : Nat) :
    ValOK P G M ρ h w ((Instr.fieldAt ty y f).run P w) (fieldAddr1 x P h ty f) := by
  cases x with
  | ptr o off =>
    cases hx with
    | @ptr _ b _ hb =>
      change ValOK P G M ρ h w _ (fieldA2 (nthD f (fieldsD (undO P ty))) P h o off)
      cases hf : nthD f (fieldsD (undO P ty)) with
      | none => exact .bad
      | some fd =>
        obtain ⟨fs, hu, hfs⟩ := fieldsD_some hf
        change ValOK P G M ρ h w _ (fieldA3 (sizeO P fd.type) h o (off + fd.offset))
        cases hn : sizeO P fd.type with
        | none => exact .bad
        | some n =>
          cases n with
          | zero => exact .bad
          | succ n =>
            refine .quiet s (x := .pointer (some ⟨b.block, b.off + (off + fd.offset), none⟩)) ?_ (.ptr _ hb)
            simp only [Instr.fieldAt, Sem.run_bind, run_und hu, Result.andThen_ok, hfs, Instr.sureAddr, Sem.run_pure, fieldPlace, run_size hn, Nat.succ_ne_zero, if_false, Nat.add_eq_zero_iff, Nat.one_ne_zero, and_false, add_at, Nat.add_assoc]
  | lit v => cases hx; exact .still s _
  | _ => exact .bad
theorem part_ok {t : TypeId} {cs : List SV} {off : Nat} {V : SV} {xs : Array Value} (hV : Play.part P t cs off = some V) (hx : VRL ρ cs xs.toList) :
    ∃ x, (Go.part t xs off).run P w = .ok x w ∧ VR ρ V x := by
  unfold Play.part at hV
  cases hb : aggT P t with
  | none => rw [hb] at hV; cases hV
  | some b =>
    rw [hb] at hV
    cases b with
    | false =>
      change headS (dropS off cs) = some V at hV
      rw [← nthS, nthS_eq] at hV
      obtain ⟨x, h1, h2⟩ := hx.get _ _ hV
      refine ⟨x, ?_, h2⟩
      have h1' : xs[off]? = some x := by simpa using h1
      simp only [Go.part, Sem.run_bind, run_agg hb, Result.andThen_ok, Bool.false_eq_true, if_false, h1', Sem.run_pure]
    | true =>
      cases hn : sizeO P t with
      | none => rw [hn] at hV; cases hV
      | some n =>
        rw [hn] at hV
        change aggS (takeS n (dropS off cs)) = some V at hV
        cases ht : takeS n (dropS off cs) with
        | none => rw [ht] at hV; cases hV
        | some l =>
          rw [ht] at hV; cases hV
          obtain ⟨h1, rfl⟩ := takeS_some n ht
          refine ⟨.agg (xs.extract off (off + n)), ?_, .agg ?_⟩
          · simp only [Go.part, Sem.run_bind, run_agg hb, Result.andThen_ok, if_true, run_size hn, Sem.run_pure]
          · rw [dropS_eq, Array.toList_extract]
            simp only [List.extract_eq_take_drop, Nat.add_sub_cancel_left]
            exact (hx.drop off).take n
theorem aggCells_ok {x : SV} {y : Value} {cs : List SV} (hx : VR ρ x y) (hc : aggCells x = some cs) : ∃ xs : Array Value, y = .agg xs ∧ VRL ρ cs xs.toList := by
  cases x with
  | agg l => cases hc; cases hx with | @agg _ xs h => exact ⟨xs, rfl, h⟩
  | lit v =>
    cases hx
    cases y with
    | agg xs => cases hc; exact ⟨xs, rfl, VRL.lits _⟩
    | _ => cases hc
  | _ => cases hc
theorem field_ok (s : Sim P G M ρ h w) (ty : TypeId) {x : SV} {y : Value} (hx : VR ρ x y) (f : Nat) :
    ValOK P G M ρ h w ((Instr.field ty y f).run P w) (field0 (aggCells x) P h ty f) := by
  cases hc : aggCells x with
  | none => exact .bad
  | some cs =>
    obtain ⟨xs, rfl, hrel⟩ := aggCells_ok hx hc
    change ValOK P G M ρ h w _ (field2 (nthD f (fieldsD (undO P ty))) P h cs)
    cases hf : nthD f (fieldsD (undO P ty)) with
    | none => exact .bad
    | some fd =>
      obtain ⟨fs, hu, hfs⟩ := fieldsD_some hf
      change ValOK P G M ρ h w _ (valO (Play.part P fd.type cs fd.offset) h)
      cases hV : Play.part P fd.type cs fd.offset with
      | none => exact .bad
      | some V =>
        obtain ⟨z, hz, hv⟩ := part_ok (w := w) hV hrel
        refine .quiet s (x := z) ?_ hv
        simp only [Instr.field, Sem.run_bind, run_und hu, Result.andThen_ok, hfs, asAgg, Sem.run_pure, hz]
theorem sliceElem_some {d : Option TypeDesc} {e : TypeId} (h : sliceElem d = some e) : d = some (.slice e) := by
  cases d with
  | none => cases h
  | some t => cases t <;> cases h; rfl
theorem arrD_some {d : Option TypeDesc} {p : Nat × TypeId} (h : arrD d = some p) : d = some (.array p.1 p.2) := by
  cases d with
  | none => cases h
  | some t => cases t <;> cases h; rfl
theorem indexAddr_ok (s : Sim P G M ρ h w) (ty : TypeId) {x i : SV} {y j : Value} (hx : VR ρ x y) (hi : VR ρ i j) :
    ValOK P G M ρ h w ((Instr.indexAt ty y j).run P w) (idx1 x P h ty i) := by
  cases x with
  | slc o off n cap ex =>
    cases hx with
    | @slc _ b _ _ _ _ cap' hb hc he hr =>
      change ValOK P G M ρ h w _ (idxN (asN i) fun i => idxS (sliceElem (undO P ty)) P h o off n i)
      cases hN : asN i with
      | none => exact .bad
      | some i' =>
        obtain ⟨k, rfl⟩ := asN_some hi hN
        change ValOK P G M ρ h w _ (idxS (sliceElem (undO P ty)) P h o off n i')
        cases he' : sliceElem (undO P ty) with
        | none => exact .bad
        | some el =>
          have hu := sliceElem_some he'
          change ValOK P G M ρ h w _ (idxE (Nat.ble (Nat.succ i') n) (sizeO P el) h o off i')
          cases hlt : Nat.ble (Nat.succ i') n with
          | false => exact .bad
          | true =>
            have hlt' : i' < n := Nat.le_of_ble_eq_true hlt
            change ValOK P G M ρ h w _ (idxF (sizeO P el) h o off i')
            cases hn : sizeO P el with
            | none => exact .bad
            | some z =>
              refine .quiet s (x := .pointer (some ⟨b.block, b.off + (off + i' * z), none⟩)) ?_ (.ptr _ hb)
              have h0 : (0 : Int) ≤ (i' : Int) ∧ (i' : Int) < (n : Int) := by omega
              simp only [Instr.indexAt, Sem.run_bind, asIntOf, run_und hu, Result.andThen_ok, Sem.run_pure, h0, and_self, if_true, run_size hn, add_at, Int.toNat_natCast, Nat.add_assoc]
  | ptr o off =>
    cases hx with
    | @ptr _ b _ hb =>
      change ValOK P G M ρ h w _ (idxN (asN i) fun i => idxA (arrD (undO P ty)) P h o off i)
      cases hN : asN i with
      | none => exact .bad
      | some i' =>
        obtain ⟨k, rfl⟩ := asN_some hi hN
        change ValOK P G M ρ h w _ (idxA (arrD (undO P ty)) P h o off i')
        cases he' : arrD (undO P ty) with
        | none => exact .bad
        | some p =>
          have hu := arrD_some he'
          obtain ⟨n, el⟩ := p
          change ValOK P G M ρ h w _ (idxE (Nat.ble (Nat.succ i') n) (sizeO P el) h o off i')
          cases hlt : Nat.ble (Nat.succ i') n with
          | false => exact .bad
          | true =>
            have hlt' : i' < n := Nat.le_of_ble_eq_true hlt
            change ValOK P G M ρ h w _ (idxF (sizeO P el) h o off i')
            cases hn : sizeO P el with
            | none => exact .bad
            | some z =>
              refine .quiet s (x := .pointer (some ⟨b.block, b.off + (off + i' * z), none⟩)) ?_ (.ptr _ hb)
              have h0 : (0 : Int) ≤ (i' : Int) ∧ (i' : Int) < (n : Int) := by omega
              simp only [Instr.indexAt, Instr.sureAddr, Sem.run_bind, asIntOf, run_und hu, Result.andThen_ok, Sem.run_pure, h0, and_self, if_true, run_size hn, add_at, Int.toNat_natCast, Nat.add_assoc]
  | lit v =>
    cases hx
    change ValOK P G M ρ h w _ (idxL (litO i) P h ty y)
    cases i with
    | lit u => cases hi; exact .still s _
    | _ => exact .bad
  | _ => exact .bad
theorem isStr_some {d : Option TypeDesc} (h : isStr d = true) : d = some .string := by
  cases d with
  | none => cases h
  | some t => cases t <;> cases h; rfl
theorem index_agg (s : Sim P G M ρ h w) (ty : TypeId) {cs : List SV} {xs : Array Value} (hx : VRL ρ cs xs.toList) (k : IntKind) (i : Nat) :
    ValOK P G M ρ h w ((Instr.index ty (.agg xs) (.int k i)).run P w) (index2 (arrD (undO P ty)) P h i cs) := by
  cases he' : arrD (undO P ty) with
  | none => exact .bad
  | some p =>
    have hu := arrD_some he'
    obtain ⟨n, el⟩ := p
    refine ifB_ok (Q := ValOK P G M ρ h w _) (e := index4 (sizeO P el) P h el i cs) .bad fun hlt => ?_
    have hlt' : i < n := Nat.le_of_ble_eq_true hlt
    cases hn : sizeO P el with
    | none => exact .bad
    | some z =>
      change ValOK P G M ρ h w _ (valO (Play.part P el cs (i * z)) h)
      cases hV : Play.part P el cs (i * z) with
      | none => exact .bad
      | some V =>
        obtain ⟨y, hy, hv⟩ := part_ok (w := w) hV hx
        refine .quiet s (x := y) ?_ hv
        have h0 : (0 : Int) ≤ (i : Int) ∧ (i : Int) < (n : Int) := by omega
        simp only [Instr.index, Sem.run_bind, asIntOf, run_und hu, Result.andThen_ok, Sem.run_pure, h0, and_self, if_true, run_size hn, Int.toNat_natCast, hy]
theorem index_ok (s : Sim P G M ρ h w) (ty : TypeId) {x i : SV} {y j : Value} (hx : VR ρ x y) (hi : VR ρ i j) :
    ValOK P G M ρ h w ((Instr.index ty y j).run P w) (index1 (asN i) x P h ty) := by
  cases hN : asN i with
  | none => exact .bad
  | some i' =>
    obtain ⟨k, rfl⟩ := asN_some hi hN
    change ValOK P G M ρ h w _ (indexV x P h ty i')
    cases x with
    | agg l => cases hx with | @agg _ xs hl => exact index_agg s ty hl k i'
    | lit v =>
      cases hx
      cases y with
      | agg xs => exact index_agg s ty (VRL.lits _) k i'
      | string str =>
        refine ifB_ok (Q := ValOK P G M ρ h w _) (e := byteO (nthB i' str.data.toList) h) .bad fun hs => ?_
        have hu := isStr_some hs
        cases hb : nthB i' str.data.toList with
        | none => exact .bad
        | some b =>
          rw [nthB_eq] at hb
          refine .quiet s (x := .int .u8 b.toNat) ?_ (.lit _)
          have hlt : i' < str.data.size := by
            rcases Nat.lt_or_ge i' str.data.size with h1 | h1
            · exact h1
            · rw [List.getElem?_eq_none (by simpa using h1)] at hb; cases hb
          have e : str[i']? = some b := by
            have hsz : i' < str.size := hlt
            rw [getElem?_pos str i' hsz]
            rw [List.getElem?_eq_getElem (by simpa using hlt)] at hb
            have e2 : str[i'] = str.data[i'] := by obtain ⟨d⟩ := str; rfl
            rw [e2]; simpa using hb
          have h0 : (0 : Int) ≤ (i' : Int) := by omega
          simp only [Instr.index, Sem.run_bind, asIntOf, run_und hu, Result.andThen_ok, Sem.run_pure, h0, if_true, Int.toNat_natCast, e]
      | _ => exact .bad
    | _ => exact .bad
theorem extract_ok (s : Sim P G M ρ h w) {x : SV} {y : Value} (hx : VR ρ x y) (i : Nat) : ValOK P G M ρ h w ((Instr.extract y i).run P w) (extract1 x h i) := by
  cases x with
  | tup l =>
    cases hx with
    | @tup _ xs hl =>
      change ValOK P G M ρ h w _ (valO (nthS i l) h)
      cases hn : nthS i l with
      | none => exact .bad
      | some V =>
        rw [nthS_eq] at hn
        obtain ⟨z, hz, hv⟩ := hl.get _ _ hn
        have hz' : xs[i]? = some z := by simpa using hz
        exact .quiet s (by simp only [Instr.extract, hz', Sem.run_pure]) hv
  | lit v =>
    cases hx
    cases y with
    | tuple xs =>
      change ValOK P G M ρ h w _ (litE (nthV i xs.toList) h)
      cases hn : nthV i xs.toList with
      | none => exact .bad
      | some z =>
        rw [nthV_eq] at hn
        have hz' : xs[i]? = some z := by simpa using hn
        exact .quiet s (by simp only [Instr.extract, hz', Sem.run_pure]) (.lit z)
    | _ => exact .bad
  | _ => exact .bad
end
end Go.Play
