/- Play: the operations: loads, stores, addresses, parts. -/
import Derived.Test.YteoegpkfdbcklaaGreatDoorPlayC
import GoSem.Dispatch
namespace Go.Play
set_option linter.unusedVariables false
set_option linter.unusedSimpArgs false
section
variable {P : Program} {G : Glob} {M : Nat → Prop} {ρ : Env} {h : H} {w : World}

theorem cut_cells {vs : List SV} {c : Array Value} {k off n : Nat} {l : List SV} (hv : ∀ (i : Nat) (v : SV), vs[i]? = some v → ∃ x : Value, c[k + i]? = some x ∧ VR ρ v x)
    (hl : takeS n (dropS off vs) = some l) : ∃ xs : List Value, xs.length = n ∧ VRL ρ l xs ∧ ∀ (j : Nat) (v : Value), xs[j]? = some v → c[k + (off + j)]? = some v := by
  obtain ⟨h1, rfl⟩ := takeS_some n hl
  rw [dropS_eq] at h1 ⊢
  simp only [List.length_drop] at h1
  have hlen : k + (off + n) ≤ c.size ∨ n = 0 := by
    rcases Nat.eq_zero_or_pos n with h0 | h0
    · exact .inr h0
    · left
      have hlt : off + (n - 1) < vs.length := by omega
      obtain ⟨x, hx, _⟩ := hv (off + (n - 1)) _ (List.getElem?_eq_getElem hlt)
      rcases Nat.lt_or_ge (k + (off + (n - 1))) c.size with h2 | h2
      · omega
      · rw [Array.getElem?_eq_none h2] at hx; cases hx
  have hxl : ((c.toList.drop (k + off)).take n).length = n := by
    simp only [List.length_take, List.length_drop, Array.length_toList]; omega
  refine ⟨(c.toList.drop (k + off)).take n, hxl, VRL.of_get ?_ ?_, ?_⟩
  · rw [hxl]; simp only [List.length_take, List.length_drop]; omega
  · intro i v hi
    have hin : i < n := by
      rcases Nat.lt_or_ge i n with h2 | h2
      · exact h2
      · rw [List.getElem?_eq_none (by simp; omega)] at hi; cases hi
    rw [List.getElem?_take, if_pos hin, List.getElem?_drop] at hi
    obtain ⟨x, hx, hr⟩ := hv _ _ hi
    refine ⟨x, ?_, hr⟩
    rw [List.getElem?_take, if_pos hin, List.getElem?_drop, Array.getElem?_toList, Nat.add_assoc]; exact hx
  · intro j v hj
    have hin : j < n := by
      rcases Nat.lt_or_ge j n with h2 | h2
      · exact h2
      · rw [List.getElem?_eq_none (by rw [hxl]; exact h2)] at hj; cases hj
    rw [List.getElem?_take, if_pos hin, List.getElem?_drop, Array.getElem?_toList, Nat.add_assoc] at hj
    exact hj
/-- Cells of an object. -/
theorem obj_cells (s : Sim P G M ρ h w) {o : Pa} {b : Loc} {off n : Nat} {l : List SV} (hb : ρ o = some b) (hl : cellsAt (hget h o) off n = some l) :
    ∃ xs : List Value, xs.length = n ∧ VRL ρ l xs ∧ ∀ (j : Nat) (v : Value), xs[j]? = some v → w.cell? ⟨b.block, b.off + off + j, none⟩ = some v := by
  have hlive := s.live o b hb
  cases ho : hget h o with
  | cells vs e own =>
    rw [ho] at hl hlive
    cases hk : w.heap[b.block]? with
    | none => rw [hk] at hlive; cases hlive
    | some ob =>
      rw [hk] at hlive
      cases hlive with
      | cells hs hm hf hr hlen hv =>
        obtain ⟨xs, h1, h2, h3⟩ := cut_cells hv (show takeS n (dropS off vs) = some l from hl)
        exact ⟨xs, h1, h2, fun j v hj => by rw [cell_at hk, Nat.add_assoc]; exact h3 j v hj⟩
  | _ => rw [ho] at hl; cases hl
theorem load_cells (s : Sim P G M ρ h w) {a : SV} {x : Value} {n : Nat} {l : List SV} (ha : VR ρ a x) (hl : loadC a G h n = some l) :
    ∃ bk o, x = .pointer (some ⟨bk, o, none⟩) ∧ ∃ xs : List Value, xs.length = n ∧ VRL ρ l xs ∧ ∀ (j : Nat) (v : Value), xs[j]? = some v → w.cell? ⟨bk, o + j, none⟩ = some v := by
  cases a with
  | ptr o off =>
    cases ha with
    | ptr _ hb =>
      rename_i b
      exact ⟨b.block, b.off + off, rfl, obj_cells s hb hl⟩
  | lit v =>
    cases ha
    cases x with
    | pointer p =>
      cases p with
      | none => cases hl
      | some p =>
        obtain ⟨g, off, spot⟩ := p
        cases spot with
        | some _ => cases hl
        | none =>
          refine ⟨g, off, rfl, ?_⟩
          change globAt (gfind G g) off n = some l at hl
          cases hg : gfind G g with
          | none => rw [hg] at hl; cases hl
          | some cs =>
            rw [hg] at hl
            obtain ⟨_, c, el, fr, hk, hv⟩ := s.globs g cs hg
            obtain ⟨xs, h1, h2, h3⟩ := cut_cells (k := 0) (fun i v hi => by simpa using hv i v hi) (show takeS n (dropS off cs) = some l from hl)
            exact ⟨xs, h1, h2, fun j v hj => by rw [cell_at hk]; simpa using h3 j v hj⟩
    | _ => cases hl
  | _ => cases hl
theorem mkVal_rel {b : Bool} {l : List SV} {V : SV} {xs : List Value} (hl : VRL ρ l xs) (hV : mkVal (some b) l = some V) :
    (b = true ∧ VR ρ V (.agg xs.toArray)) ∨ (b = false ∧ ∃ x, xs = [x] ∧ VR ρ V x) := by
  cases b with
  | true => cases hV; exact .inl ⟨rfl, .agg (by simpa using hl)⟩
  | false =>
    right
    change single l = some V at hV
    cases hl with
    | nil => cases hV
    | cons h t =>
      cases t with
      | nil => cases hV; exact ⟨rfl, _, rfl, h⟩
      | cons _ _ => cases hV
theorem run_loadAt {t : TypeId} {bk o : Nat} {xs : List Value} {b : Bool} (hb : aggT P t = some b) (hn : sizeO P t = some xs.length) (hx : ∀ (j : Nat) (v : Value), xs[j]? = some v → w.cell? ⟨bk, o + j, none⟩ = some v) :
    (b = true → (loadVar t ⟨bk, o, none⟩).run P w = .ok (.agg xs.toArray) w) ∧ (b = false → ∀ x, xs = [x] → (loadVar t ⟨bk, o, none⟩).run P w = .ok x w) := by
  constructor
  · rintro rfl
    have := run_loadCells_list (P := P) w ⟨bk, o, none⟩ xs (fun j v hj => by rw [add_at]; exact hx j v hj)
    simp only [loadVar, Sem.run_bind, run_agg hb, Result.andThen_ok, if_true, run_size hn, this, Sem.run_pure]
  · rintro rfl x rfl
    have h0 := hx 0 x rfl
    simp only [Nat.add_zero] at h0
    simp only [loadVar, Sem.run_bind, run_agg hb, Result.andThen_ok, Bool.false_eq_true, if_false, run_load, h0]
theorem load_ok (s : Sim P G M ρ h w) (ty : TypeId) {a : SV} {x : Value} (ha : VR ρ a x) :
    ValOK P G M ρ h w ((Instr.loadAt ty x).run P w) (loadE (loadN (sizeO P ty) a G h) (aggT P ty) h) := by
  cases hn : sizeO P ty with
  | none => exact .bad
  | some n =>
    change ValOK P G M ρ h w _ (loadE (loadC a G h n) (aggT P ty) h)
    cases hl : loadC a G h n with
    | none => exact .bad
    | some l =>
      obtain ⟨bk, o, rfl, xs, hlen, hrel, hx⟩ := load_cells s ha hl
      change ValOK P G M ρ h w _ (valO (mkVal (aggT P ty) l) h)
      cases hb : aggT P ty with
      | none => exact .bad
      | some b =>
        cases hV : mkVal (some b) l with
        | none => exact .bad
        | some V =>
          obtain ⟨r1, r2⟩ := run_loadAt (b := b) hb (by rw [hn, hlen]) hx
          have e1 : ∀ y, (loadVar ty ⟨bk, o, none⟩).run P w = .ok y w → (Instr.loadAt ty (.pointer (some ⟨bk, o, none⟩))).run P w = .ok y w := fun y hy => by
            simp only [Instr.loadAt, Instr.sureAddr, Sem.run_bind, Sem.run_pure, Result.andThen_ok, hy]
          rcases mkVal_rel hrel hV with ⟨hb', hv⟩ | ⟨hb', y, hy, hv⟩
          · exact .quiet s (e1 _ (r1 hb')) hv
          · exact .quiet s (e1 _ (r2 hb' y hy)) hv

-- stores
theorem store_obj (s : Sim P G M ρ h w) {o : Pa} {b : Loc} {off : Nat} {xs : List SV} {ys : List Value} (hb : ρ o = some b) (hy : VRL ρ xs ys) {K : H → Eff}
    {Q : Eff → Prop} (hbad : Q .bad)
    (hK : ∀ h' w', (storeCells ⟨b.block, b.off + off, none⟩ ys).run P w = .ok () w' → Sim P G M ρ h' w' → Grow M ρ h w ρ h' w' → nOf h' = nOf h → Q (K h')) : Q (storeE h o off xs K) := by
  unfold storeE
  have hlive := s.live o b hb
  cases ho : hget h o with
  | cells vs e own =>
    rw [ho] at hlive
    change Q (store2 (andB own (oneL xs)) vs e h o off xs K)
    rw [andB_eq]
    cases own with
    | false => exact hbad
    | true =>
      cases h1 : oneL xs with
      | false => exact hbad
      | true =>
        change Q (store3 (overAt off xs vs) h o e K)
        cases hv : overAt off xs vs with
        | none => exact hbad
        | some vs' =>
          change Q (putE h o (.cells vs' e true) K)
          rw [putE_eq]
          cases hk : w.heap[b.block]? with
          | none => rw [hk] at hlive; cases hlive
          | some ob =>
            rw [hk] at hlive
            cases hlive with
            | @cells _ _ _ _ c fr hs hm hf hr hlen hvs =>
              obtain rfl : fr = (0, 0) := hf rfl
              have hov := overAt_some off xs hv
              have hyl := hy.length
              obtain ⟨w', c', hrun, ht, hz, hc⟩ := run_storeCells (P := P) (o := b.off + off) ys 0 c w hk (by omega) (oneL_rel hy h1)
              have hput := s.put (w' := w') (ob := .cells vs' e true) hb (by rw [ho]; rfl) ht.os ht.tape ht.output ht.size ht.other (by
                rw [ht.here]
                refine .cells hs hm (fun _ => rfl) (by rw [hz]; exact hr) (by rw [overAt_length hv]; exact hlen) fun i v hi => ?_
                rw [hc]
                rw [overAt_get hv] at hi
                by_cases hin : off ≤ i ∧ i < off + xs.length
                · rw [if_pos hin] at hi
                  rw [if_pos (by omega)]
                  obtain ⟨x, hx, hr⟩ := hy.get _ _ hi
                  exact ⟨x, by rw [← hx]; congr 1; omega, hr⟩
                · rw [if_neg hin] at hi
                  rw [if_neg (by omega)]
                  exact hvs i v hi)
              exact hK _ _ hrun hput.1 hput.2 (nOf_put _ _ _)
  | _ => exact hbad
theorem store_ok (s : Sim P G M ρ h w) (ty : TypeId) {a x : SV} {p y : Value} (ha : VR ρ a p) (hx : VR ρ x y) :
    UnitOK P G M ρ h w ((Instr.storeAt ty p y).run P w) (storeS (sizeO P ty) a h (cellsOf x)) := by
  cases hn : sizeO P ty with
  | none => exact trivial
  | some n =>
    change UnitOK P G M ρ h w _ (storeB (Nat.beq (lenS (cellsOf x)) n) a h (cellsOf x))
    cases hb : Nat.beq (lenS (cellsOf x)) n with
    | false => exact trivial
    | true =>
      have hlen : (cellsOf x).length = n := by have := Nat.eq_of_beq_eq_true hb; rwa [lenS_eq] at this
      change UnitOK P G M ρ h w _ (storeTo a h (cellsOf x))
      cases a with
      | ptr o off =>
        cases ha with
        | ptr _ hb =>
          have hrel := cellsOf_rel hx
          have hsz : y.cells.size = n := by rw [← Array.length_toList, ← hrel.length, hlen]
          refine store_obj (Q := UnitOK P G M ρ h w _) s hb hrel trivial fun h' w' hr hs hg _ => ⟨ρ, w', ?_, rfl, hs, hg⟩
          simp only [Instr.storeAt, Instr.sureAddr, Sem.run_bind, Sem.run_pure, Result.andThen_ok, storeVar, run_size hn, hsz, ne_eq, not_true_eq_false, if_false, hr]
      | _ => exact trivial

-- making a variable
theorem alloc_ok (s : Sim P G M ρ h w) (el : TypeId) : ValOK P G M ρ h w ((Instr.alloc el true (.tuple #[])).run P w) (allocE (zeroO P el) el h) := by
  cases hz : zeroO P el with
  | none => exact .bad
  | some z =>
    change ValOK P G M ρ h w _ (newE h (.cells (litCells z) el true) fun i h => .val (.ptr i 0) h)
    rw [newE_eq]
    have hrel : VRL ρ (litCells z) z.cells.toList := litCells_rel z
    refine .alloc (f := fun k => .pointer (some ⟨k, 0, none⟩)) (xs := z.cells) s ?_ ?_ (fun i v hi => by simpa using hrel.get i v hi) fun ρ' _ hn => .ptr 0 hn
    · simp only [Instr.alloc, Sem.run_bind, run_zero hz, Result.andThen_ok, newVar, newRow, run_newObj, Sem.run_pure]
    · rw [hrel.length]; simp
theorem box_ok (s : Sim P G M ρ h w) (el : TypeId) {x : SV} {y : Value} (hx : VR ρ x y) :
    ValOK P G M ρ h w ((Instr.box el y).run P w) (newE h (.cells (cellsOf x) el true) fun i h => .val (.ptr i 0) h) := by
  rw [newE_eq]
  have hrel := cellsOf_rel hx
  refine .alloc (f := fun k => .pointer (some ⟨k, 0, none⟩)) (xs := y.cells) s ?_ ?_ (fun i v hi => by simpa using hrel.get i v hi) fun ρ' _ hn => .ptr 0 hn
  · simp only [Instr.box, Sem.run_bind, Result.andThen_ok, newVar, newRow, run_newObj, Sem.run_pure]
  · rw [hrel.length]; simp
end
end Go.Play
