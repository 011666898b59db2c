/- Play: what a run says of a call; what the listed package variables give it. -/
import Derived.Test.YteoegpkfdbcklaaGreatDoorPlayZ
import Derived.Below
import Derived.LaidSub
namespace Go.Play
open Go.RowKit
set_option linter.unusedVariables false
set_option linter.unusedSimpArgs false

/-- A run without arguments that ends in true. -/
theorem play_true {P : Program} {G : Glob} {n : Nat} {f : FuncId} (hr : isTrue (start P G n f [] (.mk .e .nil)) = true) (w : World)
    (hG : ∀ g cs, gfind G g = some cs → ∃ (c : Array Value) (el : TypeId) (fr : Nat × Nat), w.heap[g]? = some (.cells c el fr) ∧ ∀ (i : Nat) (v : SV), cs[i]? = some v → ∃ x : Value, c[i]? = some x ∧ VR (fun _ => none) v x) :
    Calls P f #[] w fun e w' => e = .returned (.bool true) ∧ Below w.heap.size w w' := by
  have s : Sim P G (fun k => w.heap.size ≤ k) (fun _ => none) (.mk .e .nil) w := by
    refine ⟨fun o b hb => (by cases hb), fun o b hb => (by cases hb), fun o b hb => (by cases hb), fun o o' b b' hb => (by cases hb), fun o b hb => (by cases hb), fun k hk => hk, fun g cs hg => ?_⟩
    obtain ⟨c, el, fr, h1, h2⟩ := hG g cs hg
    have := lt_of_at h1
    exact ⟨by omega, c, el, fr, h1, h2⟩
  intro cs
  unfold start at hr
  rcases enter_cases P f [] .normal with hb | ⟨f', hK, hfi, hfn, hfr⟩
  · rw [hb] at hr; cases hr
  · rw [hK] at hr
    have h1 := run_ok (G := G) n _ _ _ w f cs f' [] _ cs hfn s (.last (hfr _ #[] .nil) hfi)
    generalize runF P G n f' [] (.mk .e .nil) = r at hr h1
    cases r with
    | done v h' =>
      obtain ⟨ρ', w', fr, x, k1, k2, k3, k4, k5, k6⟩ := h1
      have hv : v = .lit (.bool true) := by
        unfold isTrue at hr
        split at hr
        · rename_i e; cases e; rfl
        · cases hr
      subst hv
      cases k4
      exact ⟨.returned (.bool true), w', fr, ⟨rfl, k6.os, k6.tape, k6.output, k6.size, fun k hk => k6.same k (by omega)⟩, k1, k2, k3⟩
    | _ => cases hr

-- listed package variables
def layFields (P : Program) (lay : TypeId → DataW Unit → Option (List SV)) : List Field → List (DataW Unit) → Nat → Option (List SV)
  | [], [], _ => some []
  | f :: fs, d :: ds, off => match f.offset == off, lay f.type d, layFields P lay fs ds (off + P.cellsOf f.type) with
    | true, some a, some b => match a.length == P.cellsOf f.type with
      | true => some (a ++ b)
      | false => none
    | _, _, _ => none
  | _, _, _ => none
def layElems (k : Nat) (lay : DataW Unit → Option (List SV)) : List (DataW Unit) → Option (List SV)
  | [] => some []
  | d :: ds => match lay d, layElems k lay ds with
    | some a, some b => match a.length == k with
      | true => some (a ++ b)
      | false => none
    | _, _ => none
/-- The cells of a plain datum of a type. -/
def layC (P : Program) : Nat → TypeId → DataW Unit → Option (List SV)
  | 0, _, _ => none
  | n + 1, t, d => match P.underlying t, d with
    | some .bool, .lit (.bool b) => some [.lit (.bool b)]
    | some (.int k), .lit (.int _ z) => some [.lit (.int k z)]
    | some .string, .lit (.string s) => some [.lit (.string ⟨s.toArray⟩)]
    | some (.struct fs), .agg ds => layFields P (layC P n) fs.toList ds 0
    | some (.array m e), .agg ds => layElems (P.cellsOf e) (layC P n e) ds
    | _, _ => none
section
variable {P : Program} {w : World} {ρ : Env}
theorem fields_rel {enc : TypeId × Value → Unit} {spare : Nat → Bool} {held : Bool} {fuel n : Nat} {cs : List Value} (ih : ∀ {t : TypeId} {d : DataW Unit} {cs : List Value} {p : List MemPlace} {vs : List SV}, layC P n t d = some vs → DataW.trod enc P w 0 spare held fuel t cs = some (d, p) → VRL ρ vs (cs.take vs.length)) :
    ∀ (fs : List Field) {xs : List (DataW Unit × List MemPlace)} {off : Nat} {vs : List SV}, (fs.mapM fun f => DataW.trod enc P w 0 spare held fuel f.type ((cs.drop f.offset).take (P.cellsOf f.type))) = some xs →
      layFields P (layC P n) fs (xs.map (·.1)) off = some vs → VRL ρ vs ((cs.drop off).take vs.length) := by
  intro fs
  induction fs with
  | nil => intro xs off vs hx hv; cases hx; cases hv; simpa using VRL.nil
  | cons f fs ihf =>
    intro xs off vs hx hv
    rw [List.mapM_cons] at hx
    cases h1 : DataW.trod enc P w 0 spare held fuel f.type ((cs.drop f.offset).take (P.cellsOf f.type)) with
    | none => rw [h1] at hx; cases hx
    | some x =>
      rw [h1] at hx
      cases h2 : (fs.mapM fun f => DataW.trod enc P w 0 spare held fuel f.type ((cs.drop f.offset).take (P.cellsOf f.type))) with
      | none => rw [h2] at hx; cases hx
      | some ys =>
        rw [h2] at hx
        cases hx
        obtain ⟨d, p⟩ := x
        unfold layFields at hv
        simp only [List.map_cons] at hv
        split at hv
        · rename_i a b ho ha hb
          split at hv
          · rename_i hl
            cases hv
            have ho : f.offset = off := by simpa using ho
            have hl : a.length = P.cellsOf f.type := by simpa using hl
            subst ho
            have r1 := ih ha h1
            have r2 := ihf h2 hb
            rw [List.length_append, List.take_add]
            rw [← hl, List.take_take, Nat.min_self] at r1
            refine r1.append ?_
            rw [List.drop_drop]
            rw [← hl] at r2
            exact r2
          · cases hv
        · cases hv
theorem elems_rel {enc : TypeId × Value → Unit} {spare : Nat → Bool} {held : Bool} {fuel n k : Nat} {e : TypeId} {cs : List Value} (ih : ∀ {t : TypeId} {d : DataW Unit} {cs : List Value} {p : List MemPlace} {vs : List SV}, layC P n t d = some vs → DataW.trod enc P w 0 spare held fuel t cs = some (d, p) → VRL ρ vs (cs.take vs.length)) :
    ∀ (m s : Nat) {xs : List (DataW Unit × List MemPlace)} {vs : List SV}, ((List.range' s m).mapM fun i => DataW.trod enc P w 0 spare held fuel e ((cs.drop (i * k)).take k)) = some xs →
      layElems k (layC P n e) (xs.map (·.1)) = some vs → VRL ρ vs ((cs.drop (s * k)).take vs.length) ∧ vs.length = m * k := by
  intro m
  induction m with
  | zero => intro s xs vs hx hv; cases hx; cases hv; exact ⟨by simpa using VRL.nil, by simp⟩
  | succ m ihm =>
    intro s xs vs hx hv
    rw [List.range'_succ, List.mapM_cons] at hx
    cases h1 : DataW.trod enc P w 0 spare held fuel e ((cs.drop (s * k)).take k) with
    | none => rw [h1] at hx; cases hx
    | some x =>
      rw [h1] at hx
      cases h2 : ((List.range' (s + 1) m).mapM fun i => DataW.trod enc P w 0 spare held fuel e ((cs.drop (i * k)).take k)) with
      | none => rw [h2] at hx; cases hx
      | some ys =>
        rw [h2] at hx
        cases hx
        obtain ⟨d, p⟩ := x
        unfold layElems at hv
        simp only [List.map_cons] at hv
        split at hv
        · rename_i a b ha hb
          split at hv
          · rename_i hl
            cases hv
            have hl : a.length = k := by simpa using hl
            have r1 := ih ha h1
            obtain ⟨r2, r3⟩ := ihm _ h2 hb
            refine ⟨?_, by rw [List.length_append, hl, r3, Nat.add_mul]; omega⟩
            rw [List.length_append, List.take_add]
            rw [← hl, List.take_take, Nat.min_self, hl] at r1
            refine VRL.append (by rw [hl]; exact r1) ?_
            rw [List.drop_drop, hl, show s * k + k = (s + 1) * k by rw [Nat.add_mul]; omega]
            exact r2
          · cases hv
        · cases hv
theorem lay_rel {enc : TypeId × Value → Unit} {spare : Nat → Bool} {held : Bool} : ∀ (n : Nat) {fuel : Nat} {t : TypeId} {d : DataW Unit} {cs : List Value} {p : List MemPlace} {vs : List SV}, layC P n t d = some vs → DataW.trod enc P w 0 spare held fuel t cs = some (d, p) → VRL ρ vs (cs.take vs.length) := by
  intro n
  induction n with
  | zero => intro fuel t d cs p vs h; cases h
  | succ n ih =>
    intro fuel t d cs p vs hv ht
    cases fuel with
    | zero => unfold DataW.trod at ht; cases ht
    | succ fuel =>
      unfold layC at hv
      unfold DataW.trod at ht
      split at hv
      · rename_i b hu
        rw [hu] at ht
        cases hv
        split at ht <;> first | (cases ht; done) | skip
        all_goals (first | (rename_i e; cases e; done) | skip)
        all_goals (first | (cases ht; exact .cons (.lit _) .nil) | (split at ht <;> cases ht) | skip)
      · rename_i k k' z hu
        rw [hu] at ht
        cases hv
        split at ht <;> first | (cases ht; done) | skip
        all_goals (first | (rename_i e; cases e; done) | skip)
        all_goals
          rename_i e
          cases e
          split at ht
          · rename_i e2
            obtain ⟨rfl, _⟩ := e2
            cases ht
            exact .cons (.lit _) .nil
          · cases ht
      · rename_i s hu
        rw [hu] at ht
        cases hv
        split at ht <;> first | (cases ht; done) | skip
        all_goals (first | (rename_i e; cases e; done) | skip)
        all_goals (first | (split at ht <;> first | (cases ht; done) | (cases ht; exact .cons (.lit _) .nil)) | skip)
      · rename_i fs ds hu
        rw [hu] at ht
        simp only [] at ht
        split at ht
        · rename_i hl
          cases hx : (fs.toList.mapM fun f => DataW.trod enc P w 0 spare held fuel f.type ((cs.drop f.offset).take (P.cellsOf f.type))) with
          | none => rw [hx] at ht; cases ht
          | some xs =>
            rw [hx] at ht
            cases ht
            have := fields_rel (ρ := ρ) (cs := cs) (fun h1 h2 => ih h1 h2) fs.toList hx hv
            rw [List.drop_zero] at this
            exact this
        · cases ht
      · rename_i m e ds hu
        rw [hu] at ht
        simp only [] at ht
        split at ht
        · rename_i hl
          rw [List.range_eq_range'] at ht
          cases hx : ((List.range' 0 m).mapM fun i => DataW.trod enc P w 0 spare held fuel e ((cs.drop (i * P.cellsOf e)).take (P.cellsOf e))) with
          | none => rw [hx] at ht; cases ht
          | some xs =>
            rw [hx] at ht
            cases ht
            obtain ⟨r1, r2⟩ := elems_rel (ρ := ρ) (cs := cs) (fun h1 h2 => ih h1 h2) m 0 hx hv
            rw [Nat.zero_mul, List.drop_zero] at r1
            exact r1
        · cases ht
      · cases hv
theorem laid_mem {l : List (String × DataW Unit)} : ∀ {ps : List MemPlace}, DataW.LaidVars P w l ps → ∀ {n : String} {d : DataW Unit}, (n, d) ∈ l → ∃ g t cs fuel p, P.globalNamed n = some g ∧ (P.globals[g]?).map (·.type) = some t ∧ w.var? P n = some cs ∧ DataW.trod (fun _ => ()) P w 0 (fun _ => true) false fuel t cs.toList = some (d, p) := by
  induction l with
  | nil => intro ps _ n d h; cases h
  | cons x l ih =>
    intro ps h n d hm
    obtain ⟨g, t, cs, fuel, p, q, h1, h2, h3, h4, h5, _⟩ := h
    cases hm with
    | head => exact ⟨g, t, cs, fuel, p, h1, h2, h3, h4⟩
    | tail _ hm => exact ih h5 hm
theorem var_cells {n : String} {g : Nat} {cs : Array Value} (hg : P.globalNamed n = some g) (hv : w.var? P n = some cs) : ∃ el fr, w.heap[g]? = some (.cells cs el fr) := by
  unfold World.var? at hv
  rw [hg] at hv
  simp only [Option.bind_some] at hv
  split at hv
  · rename_i e; cases hv; exact ⟨_, _, e⟩
  · cases hv
/-- A listed table. -/
theorem laid_table {l : List (String × DataW Unit)} (hm : laidMet P l w) {n : String} {d : DataW Unit} (hn : (n, d) ∈ l) {g : Nat} (hg : P.globalNamed n = some g) {t : TypeId} (ht : (P.globals[g]?).map (·.type) = some t) {k : Nat} {vs : List SV} (hl : layC P k t d = some vs) :
    ∃ (c : Array Value) (el : TypeId) (fr : Nat × Nat), w.heap[g]? = some (.cells c el fr) ∧ ∀ (i : Nat) (v : SV), vs[i]? = some v → ∃ x : Value, c[i]? = some x ∧ VR ρ v x := by
  obtain ⟨ps, hv, _⟩ := hm
  obtain ⟨g', t', cs, fuel, p, h1, h2, h3, h4⟩ := laid_mem hv hn
  rw [hg] at h1; cases h1
  rw [ht] at h2; cases h2
  obtain ⟨el, fr, hc⟩ := var_cells hg h3
  refine ⟨cs, el, fr, hc, fun i v hi => ?_⟩
  obtain ⟨x, hx, hvx⟩ := (lay_rel (ρ := ρ) k hl h4).get i v hi
  rw [List.getElem?_take] at hx
  split at hx
  · exact ⟨x, by simpa using hx, hvx⟩
  · cases hx
def isIface (d : Option TypeDesc) : Bool := match d with | some (.interface _) => true | _ => false
/-- A listed variable of an interface's type that holds something. -/
theorem laid_iface {l : List (String × DataW Unit)} (hm : laidMet P l w) {n : String} {s : String} {d : DataW Unit} (hn : (n, DataW.iface s d) ∈ l) {g : Nat} (hg : P.globalNamed n = some g) {t : TypeId} (ht : (P.globals[g]?).map (·.type) = some t) (hi : isIface (P.underlying t) = true) :
    ∃ (u : TypeId) (y : Value) (c : Array Value) (el : TypeId) (fr : Nat × Nat), w.heap[g]? = some (.cells c el fr) ∧ c[0]? = some (.iface u y) := by
  obtain ⟨ps, hv, _⟩ := hm
  obtain ⟨g', t', cs, fuel, p, h1, h2, h3, h4⟩ := laid_mem hv hn
  rw [hg] at h1; cases h1
  rw [ht] at h2; cases h2
  obtain ⟨el, fr, hc⟩ := var_cells hg h3
  obtain ⟨ms, hu⟩ : ∃ ms, P.underlying t = some (.interface ms) := by
    unfold isIface at hi
    split at hi
    · rename_i ms e; exact ⟨ms, e⟩
    · cases hi
  cases fuel with
  | zero => unfold DataW.trod at h4; cases h4
  | succ fuel =>
    unfold DataW.trod at h4
    rw [hu] at h4
    simp only [] at h4
    split at h4 <;> first | (cases h4; done) | (rename_i e; cases e; done) | skip
    all_goals (first | (rename_i e1 e2; cases e1; done) | skip)
    all_goals
      first
      | (rename_i u y hcs; exact ⟨u, y, cs, el, fr, hc, by rw [← Array.getElem?_toList, hcs]; rfl⟩)
      | (rename_i u y e hcs; exact ⟨u, y, cs, el, fr, hc, by rw [← Array.getElem?_toList, hcs]; rfl⟩)
end
end Go.Play
