/- Play: runs in pieces; between them what is not looked at again is forgotten. -/
import Derived.Test.YteoegpkfdbcklaaGreatDoorPlayEnd
namespace Go.Play
open Go.RowKit
set_option linter.unusedVariables false
set_option linter.unusedSimpArgs false

section
variable {P : Program} {G : Glob}
theorem runM_ok {big : RunF} (hb : RunOK P G big) : ∀ n, RunOK P G (runM P G big n) := by
  intro n
  induction n with
  | zero => intro M ρ h w f0 base f cs fr crs hf0 s hs; exact .here s hs
  | succ n ih =>
    intro M ρ h w f0 base f cs fr crs hf0 s hs
    have h1 := step_ok hf0 (draw_ok hb) s hs
    show ResOK P G M ρ h w f0 base _ (runR (step f big P G cs h) (runM P G big n))
    generalize step f big P G cs h = r at h1
    cases r with
    | next f' cs' h' =>
      obtain ⟨ρ', w', fr', crs', k1, k2, k3, k4⟩ := h1
      exact (ih M ρ' h' w' f0 base f' cs' fr' crs' hf0 k3 k2).after k1 k4
    | _ => exact h1
mutual
theorem fgV_rel {ρ : Env} : ∀ {v : SV} {x : Value}, VR ρ v x → VR ρ (fgV v) x
  | _, _, .lit v => .lit v
  | _, _, .ptr _ _ => .any rfl
  | _, _, .slc _ _ _ _ _ _ _ _ _ => .any rfl
  | _, _, .eslc _ _ => .any rfl
  | _, _, .mapv _ => .any rfl
  | _, _, .fn _ _ => .any rfl
  | _, _, .yld _ => .any rfl
  | _, _, .ifc _ _ => .any rfl
  | _, _, .agg h => .agg (fgL_rel h)
  | _, _, .tup h => .tup (fgL_rel h)
  | _, _, .any h => .any h
theorem fgL_rel {ρ : Env} : ∀ {l : List SV} {xs : List Value}, VRL ρ l xs → VRL ρ (fgL l) xs
  | _, _, .nil => .nil
  | _, _, .cons h t => .cons (fgV_rel h) (fgL_rel t)
end
theorem sget_map (p : Pa) : ∀ t : T SV, sget p (mapT t) = fgV (sget p t) := by
  induction p with
  | e => intro t; cases t <;> rfl
  | l p ih => intro t; cases t with
    | nil => show sget p .nil = fgV (sget p .nil); rw [sget_nil]; rfl
    | node v l r => show sget p (mapT l) = _; rw [ih]; rfl
  | r p ih => intro t; cases t with
    | nil => show sget p .nil = fgV (sget p .nil); rw [sget_nil]; rfl
    | node v l r => show sget p (mapT r) = _; rw [ih]; rfl
theorem putT1_eq (p : Pa) : ∀ (x : SV) (t : T SV), putT1 p x t = sset' p x t := by
  induction p with
  | e => intro x t; cases t <;> rfl
  | l p ih => intro x t; cases t <;> (simp only [putT1, sset', ih])
  | r p ih => intro x t; cases t <;> (simp only [putT1, sset', ih])
theorem putO1_eq (p : Pa) : ∀ (x : SO) (t : T SO), putO1 p x t = oset' p x t := by
  induction p with
  | e => intro x t; cases t <;> rfl
  | l p ih => intro x t; cases t <;> (simp only [putO1, oset', ih])
  | r p ih => intro x t; cases t <;> (simp only [putO1, oset', ih])
theorem ovrT_get (tm : T SV) (p : Pa) : ∀ l : List Pa, sget p (ovrT (mapT tm) (pickT tm l)) = sget p tm ∨ sget p (ovrT (mapT tm) (pickT tm l)) = fgV (sget p tm) := by
  intro l
  induction l with
  | nil => exact .inr (sget_map p tm)
  | cons q l ih =>
    show sget p (putT1 q (sget q tm) (ovrT (mapT tm) (pickT tm l))) = _ ∨ sget p (putT1 q (sget q tm) (ovrT (mapT tm) (pickT tm l))) = _
    rw [putT1_eq, sget_set]
    by_cases e : p = q
    · rw [if_pos e, e]; exact .inl rfl
    · rw [if_neg e]; exact ih
theorem mkHeap_get (h : H) (p : Pa) : ∀ l : List Pa, hget (mkHeap (nOf h) (pickH h l)) p = hget h p ∨ hget (mkHeap (nOf h) (pickH h l)) p = .none := by
  intro l
  show oget p ((pickH h l).foldr (fun p t => putO1 p.1 p.2 t) .nil) = _ ∨ oget p ((pickH h l).foldr (fun p t => putO1 p.1 p.2 t) .nil) = _
  induction l with
  | nil => exact .inr (oget_nil p)
  | cons q l ih =>
    show oget p (putO1 q (hget h q) _) = _ ∨ oget p (putO1 q (hget h q) _) = _
    rw [putO1_eq, oget_set]
    by_cases e : p = q
    · rw [if_pos e, e]; exact .inl rfl
    · rw [if_neg e]; exact ih
theorem Sim.drop {M : Nat → Prop} {ρ : Env} {h h' : H} {w : World} (s : Sim P G M ρ h w) (hn : nOf h' = nOf h) (hh : ∀ o, hget h' o = hget h o ∨ hget h' o = .none) : Sim P G M ρ h' w ∧ Grow M ρ h w ρ h' w := by
  have hne : ∀ o, hget h' o ≠ .none → hget h' o = hget h o := fun o k => (hh o).resolve_right k
  refine ⟨⟨fun o b hb => ?_, s.size, fun o b hb => by rw [hn]; exact s.dom o b hb, fun o o' b b' h1 h2 n1 n2 e => s.apart o o' b b' h1 h2 (by rw [← hne o n1]; exact n1) (by rw [← hne o' n2]; exact n2) e, fun o b hb hm => ?_, s.fresh, s.globs⟩, ⟨rfl, rfl, rfl, Nat.le_refl _, fun _ _ => rfl, Nat.le_of_eq (by rw [hn]), .refl _, fun o h0 h1 => absurd h0 h1, fun o b hb k => .inr ⟨hb, by rw [← hne o k]; exact k⟩⟩⟩
  · rcases hh o with e | e
    · rw [e]; exact s.live o b hb
    · rw [e]; exact .none _ _
  · have : hget h' o ≠ .none := fun e => by rw [e] at hm; cases hm
    rw [hne o this] at hm
    exact s.mine o b hb hm
theorem cutF_rel {ρ : Env} {k : List Pa} {f : SF} {fr : Frame} (h : SFR ρ f fr) : SFR ρ (cutF k f) fr ∧ fiOf (cutF k f) = fiOf f := by
  obtain ⟨fi, tm, todo, de, mode⟩ := f
  refine ⟨⟨h.fi, fun i => ?_, h.todo, h.defers, h.mode⟩, rfl⟩
  rcases ovrT_get tm (pa i) k with e | e
  · show VR ρ (sget (pa i) (ovrT (mapT tm) (pickT tm k))) _; rw [e]; exact h.tmps i
  · show VR ρ (sget (pa i) (ovrT (mapT tm) (pickT tm k))) _; rw [e]; exact fgV_rel (h.tmps i)
theorem cut_rel {ρ : Env} {f0 : FuncId} {base : List Frame} : ∀ {f : SF} {cs : List SF} {fr : Frame} {crs : List Frame}, SR ρ f0 base f cs fr crs → ∀ (k : List Pa) (ks : List (List Pa)), SR ρ f0 base (cutF k f) (cutFs ks cs) fr crs := by
  intro f cs fr crs h
  induction h with
  | last h hf => intro k ks; cases ks <;> exact .last (cutF_rel h).1 ((cutF_rel h).2.trans hf)
  | @cons f g cs fr gr crs h t ih =>
    intro k ks
    cases ks with
    | nil => exact .cons (cutF_rel h).1 t
    | cons k2 ks => exact .cons (cutF_rel h).1 (ih k2 ks)
/-- From here the run ends in true. -/
def Good (P : Program) (G : Glob) (f : SF) (cs : List SF) (h : H) : Prop :=
  ∀ (M : Nat → Prop) (ρ : Env) (w : World) (f0 : FuncId) (base : List Frame) (fr : Frame) (crs : List Frame), (∃ fn, P.funcs[f0]? = some fn) → Sim P G M ρ h w → SR ρ f0 base f cs fr crs →
    ∃ ρ' h' w' fr', Steps P (lone fr crs w) (lone fr' base w') ∧ fr'.fn = f0 ∧ fr'.leaving P w' (.returned (.bool true)) ∧ Grow M ρ h w ρ' h' w'
theorem isTrue_done {r : Res} (h : isTrue r = true) : ∃ h', r = .done (.lit (.bool true)) h' := by
  unfold isTrue at h
  split at h
  · exact ⟨_, rfl⟩
  · cases h
theorem good_last {big n : Nat} {f : SF} {cs : List SF} {h : H} (hr : isTrue (runM P G (runF P G big) n f cs h) = true) : Good P G f cs h := by
  intro M ρ w f0 base fr crs hf0 s hs
  have h1 := runM_ok (run_ok (G := G) big) n M ρ h w f0 base f cs fr crs hf0 s hs
  obtain ⟨h', e⟩ := isTrue_done hr
  rw [e] at h1
  obtain ⟨ρ', w', fr', x, k1, k2, k3, k4, k5, k6⟩ := h1
  cases k4
  exact ⟨ρ', h', w', fr', k1, k2, k3, k6⟩
theorem cutR_next {keep : List Pa} {keeps : List (List Pa)} {objs : List Pa} {r : Res} {f : SF} {cs : List SF} {h : H} (hr : cutR keep keeps objs r = .next f cs h) : ∃ f1 cs1 h1, r = .next f1 cs1 h1 ∧ f = cutF keep f1 ∧ cs = cutFs keeps cs1 ∧ h = mkHeap (nOf h1) (pickH h1 objs) := by
  unfold cutR at hr
  split at hr
  · cases hr; exact ⟨_, _, _, rfl, rfl, rfl, rfl⟩
  · cases hr
theorem good_piece {M : Nat → Prop} {ρ : Env} {h : H} {w : World} {f0 : FuncId} {base : List Frame} {m : Machine} {r : Res} {keep : List Pa} {keeps : List (List Pa)} {objs : List Pa} {f' : SF} {cs' : List SF} {h' : H} (hf0 : ∃ fn, P.funcs[f0]? = some fn)
    (h1 : ResOK P G M ρ h w f0 base m r) (hr : cutR keep keeps objs r = .next f' cs' h') (hg : Good P G f' cs' h') :
    ∃ ρ' h' w' fr', Steps P m (lone fr' base w') ∧ fr'.fn = f0 ∧ fr'.leaving P w' (.returned (.bool true)) ∧ Grow M ρ h w ρ' h' w' := by
  obtain ⟨f1, cs1, h2, rfl, rfl, rfl, rfl⟩ := cutR_next hr
  obtain ⟨ρ', w', fr', crs', k1, k2, k3, k4⟩ := h1
  obtain ⟨s2, g2⟩ := k3.drop (h' := mkHeap (nOf h2) (pickH h2 objs)) rfl fun o => mkHeap_get h2 o objs
  obtain ⟨ρ3, h3, w3, fr3, q1, q2, q3, q4⟩ := hg M ρ' w' f0 base fr' crs' hf0 s2 (cut_rel k2 keep keeps)
  exact ⟨ρ3, h3, w3, fr3, k1.trans q1, q2, q3, (k4.trans g2).trans q4⟩
theorem good_cut {big n : Nat} {f : SF} {cs : List SF} {h : H} {keep : List Pa} {keeps : List (List Pa)} {objs : List Pa} {f' : SF} {cs' : List SF} {h' : H} (hr : cutR keep keeps objs (runM P G (runF P G big) n f cs h) = .next f' cs' h') (hg : Good P G f' cs' h') : Good P G f cs h := by
  intro M ρ w f0 base fr crs hf0 s hs
  exact good_piece hf0 (runM_ok (run_ok (G := G) big) n M ρ h w f0 base f cs fr crs hf0 s hs) hr hg
/-- A call without arguments, in pieces. -/
theorem play_pieces {big n : Nat} {f : FuncId} {keep : List Pa} {keeps : List (List Pa)} {objs : List Pa} {f' : SF} {cs' : List SF} {h' : H} (hr : cutR keep keeps objs (startM P G big n f [] (.mk .e .nil)) = .next f' cs' h') (hgood : Good P G f' cs' h') (w : World)
    (hG : ∀ g cs, gfind G g = some cs → ∃ (c : Array Value) (el : TypeId) (fr : Nat × Nat), w.heap[g]? = some (.cells c el fr) ∧ ∀ (i : Nat) (v : SV), cs[i]? = some v → ∃ x : Value, c[i]? = some x ∧ VR (fun _ => none) v x) :
    Calls P f #[] w fun e w' => e = .returned (.bool true) ∧ Below w.heap.size w w' := by
  have s : Sim P G (fun k => w.heap.size ≤ k) (fun _ => none) (.mk .e .nil) w := by
    refine ⟨fun o b hb => (by cases hb), fun o b hb => (by cases hb), fun o b hb => (by cases hb), fun o o' b b' hb => (by cases hb), fun o b hb => (by cases hb), fun k hk => hk, fun g cs hg => ?_⟩
    obtain ⟨c, el, fr, h1, h2⟩ := hG g cs hg
    have := lt_of_at h1
    exact ⟨by omega, c, el, fr, h1, h2⟩
  intro cs
  unfold startM at hr
  rcases enter_cases P f [] .normal with hb | ⟨f2, hK, hfi, hfn, hfr⟩
  · rw [hb] at hr; cases hr
  · rw [hK] at hr
    have h1 := runM_ok (run_ok (G := G) big) n _ _ _ w f cs f2 [] _ cs hfn s (.last (hfr _ #[] .nil) hfi)
    obtain ⟨ρ', h2, w', fr, k1, k2, k3, k6⟩ := good_piece hfn h1 hr hgood
    exact ⟨.returned (.bool true), w', fr, ⟨rfl, k6.os, k6.tape, k6.output, k6.size, fun k hk => k6.same k (by omega)⟩, k1, k2, k3⟩
end
end Go.Play
