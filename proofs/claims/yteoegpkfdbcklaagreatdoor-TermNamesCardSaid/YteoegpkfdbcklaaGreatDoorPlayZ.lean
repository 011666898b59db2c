/- Play: regions that draw their order are sound; a run is sound. -/
import Derived.Test.YteoegpkfdbcklaaGreatDoorPlayY
namespace Go.Play
set_option linter.unusedVariables false
set_option linter.unusedSimpArgs false

theorem heavy_sym {P : Program} {G : Glob} {ops : Array Oper} {p : PI} (hp : p.heavy = true) (b : Bd) (tm : T SV) (h : H) (fl : Fl) (K : DrawK) :
    drawI p ops P G b tm h fl K = match wantG p.o.guard ops tm with
      | false => K (putS p.o.dst undefS tm) h fl
      | true => dimK fl p.mask h [] fun hd u => heavyE (sop p.o.op p.o.type P G tm hd) P b hd u fun v h' => K (putS p.o.dst v tm) h' fl := by
  obtain ⟨i, ⟨dst, op, ty, pos, after, guard⟩, heavy, mask⟩ := p
  obtain rfl : heavy = true := hp
  show drawW (wantG guard ops tm) true i mask op ty P G b tm h fl (fun v h fl => setO dst v tm fun tm => K tm h fl) = _
  have hK : (fun v h fl => setO dst v tm fun tm => K tm h fl) = fun v h fl => K (putS dst v tm) h fl := by
    funext v h fl; rw [setO_putS]
  rw [hK]
  simp only [PI.o, PI.mask]
  cases wantG guard ops tm with
  | false => rfl
  | true => rfl
section
variable {P : Program} {G : Glob} {ops : Array Oper} {tm0 : T SV} {h0 : H} {M : Nat → Prop} {ρ0 ρ ρ' : Env} {w0 w w' : World} {pl : List PI} {l : List Nat} {tm : T SV} {h : H} {fl : Fl} {i : Nat} {o : Oper} {f0 : FuncId} {base : List Frame}
  {fi : FI} {de : List SDef} {cs : List SF} {k : List SI} {kt : List Item} {crs : List Frame}

theorem finish_put {fr : Frame} (hft : fr.todo = .inRegion ops (i :: l) :: kt) (ho : ops[i]? = some o) (x : Value) : fr.finish x = { fr with tmps := putT o.dst x fr.tmps, todo := .inRegion ops l :: kt } := by
  simp only [Frame.finish, hft, ho, Option.bind_some]
  cases o.dst <;> rfl
/-- A frame in a region, what of it stays. -/
def InReg (ρ : Env) (f0 : FuncId) (base : List Frame) (fi : FI) (de : List SDef) (cs : List SF) (k : List SI) (ops : Array Oper) (kt : List Item) (crs : List Frame) (l : List Nat) (fr : Frame) : Prop :=
  fr.todo = .inRegion ops l :: kt ∧ ∃ tmx lops, SR ρ f0 base (.mk fi tmx (.inReg ops lops :: k) de .run) cs fr crs
theorem InReg.opers {fr : Frame} (h : InReg ρ f0 base fi de cs k ops kt crs l fr) : ∃ tmx lops, SR ρ f0 base (.mk fi tmx (.inReg ops lops :: k) de .run) cs fr crs ∧ l.map (ops[·]?) = lops.map some := by
  obtain ⟨hft, tmx, lops, hs⟩ := h
  obtain ⟨it, kt', e, hi, hk⟩ := todo_cons hs.top.todo
  rw [hft] at e
  cases e
  cases hi with
  | inReg he _ => exact ⟨tmx, lops, hs, he⟩
theorem InReg.mode {fr : Frame} (h : InReg ρ f0 base fi de cs k ops kt crs l fr) : fr.mode = .run := by
  obtain ⟨_, tmx, lops, hs⟩ := h; exact hs.mode
theorem InReg.done {fr : Frame} (hr : InReg ρ f0 base fi de cs k ops kt crs (i :: l) fr) (ho : ops[i]? = some o) (hle : Env.le ρ ρ') (x : Value) : InReg ρ' f0 base fi de cs k ops kt crs l (fr.finish x) := by
  obtain ⟨tmx, lops, hs, he⟩ := hr.opers
  cases lops with
  | nil => cases he
  | cons o' rest =>
    obtain ⟨tm', _, hs'⟩ := finish_reg hs hle (.lit x) (fun _ => .bad)
    exact ⟨by rw [finish_put hr.1 ho], tm', rest, hs'⟩
theorem InReg.raised {fr : Frame} (hr : InReg ρ f0 base fi de cs k ops kt crs l fr) (hle : Env.le ρ ρ') {c : List (SV × Bool)} {es : List PanicEntry} (hc : CR ρ' c es) : ∃ tmx todo, SR ρ' f0 base (.mk fi tmx todo de (.pan c)) cs (fr.raise es) crs := by
  obtain ⟨_, tmx, lops, hs⟩ := hr
  have h1 := raise_ok (SFR.mono hle hs.top) hc
  exact ⟨tmx, _, hs.re hle h1.1 rfl⟩
theorem step_panic {fr : Frame} (hm : fr.mode = .run) (hft : fr.todo = .inRegion ops (i :: l) :: kt) (ho : ops[i]? = some o) (hw : Region.wanted o (yielded ops fr.tmps) = true) (hd : fr.roundOf = none ∨ ∀ c, o.op ≠ .defer c) {x : Value} (hr : (execOp fr.eval o).run P w = .halt (.panic x) w) :
    Go.step P (lone fr crs w) = .next (lone (fr.raise [{ v := x, recovered := false }]) crs w) :=
  step_lone_go (by rw [stepG_oper hm hft ho hw hd]; simp only [stepG.apply, Sem.runT_eq, hr, GStep.bare_after, if_true]; rfl)
theorem step_value {fr : Frame} (hm : fr.mode = .run) (hft : fr.todo = .inRegion ops (i :: l) :: kt) (ho : ops[i]? = some o) (hw : Region.wanted o (yielded ops fr.tmps) = true) (hd : fr.roundOf = none ∨ ∀ c, o.op ≠ .defer c) {x : Value}
    (hr : (execOp fr.eval o).run P w = .ok (.value x) w' ∨ (execOp fr.eval o).run P w = .ok .skip w' ∧ x = undef) : Go.step P (lone fr crs w) = .next (lone (fr.finish x) crs w') := by
  rcases hr with hr | ⟨hr, rfl⟩
  · exact step_lone_go (by rw [stepG_oper hm hft ho hw hd]; simp only [stepG.apply, Sem.runT_eq, hr, GStep.bare_after, if_true]; rfl)
  · exact step_lone_go (by rw [stepG_oper hm hft ho hw hd]; simp only [stepG.apply, Sem.runT_eq, hr, GStep.bare_after, if_true]; rfl)
theorem not_defer {op : Op} {ty : TypeId} {tm : T SV} {h : H} (hb : sop op ty P G tm h ≠ .bad) (hd : ∀ d, sop op ty P G tm h ≠ .defer d) : ∀ c, op ≠ .defer c := by
  intro c e
  rcases sop_defer (P := P) (G := G) e ty tm h with k | ⟨d, k⟩
  · exact hb k
  · exact hd d k
/-- The run does a late operation; the plan has done it. -/
theorem late_step (hP : SlotP ops (masks ops.toList []) (writers ops.toList 0)) {fr : Frame} (hd : ∀ (i : Nat) (o : Oper) (d : Tmp), ops[i]? = some o → o.dst = some d → d < fr.tmps.size) (hi : i ∉ plI pl) (D : DInv P G ops tm0 h0 M ρ0 w0 pl (i :: l) tm h fl fr.tmps ρ w)
    (s0 : ∀ k, w0.heap.size ≤ k → M k) (hr : InReg ρ f0 base fi de cs k ops kt crs (i :: l) fr) :
    ∃ ρ' w' fr', Go.step P (lone fr crs w) = .next (lone fr' crs w') ∧ DInv P G ops tm0 h0 M ρ0 w0 pl l tm h fl fr'.tmps ρ' w' ∧ InReg ρ' f0 base fi de cs k ops kt crs l fr' ∧ fr'.tmps.size = fr.tmps.size := by
  obtain ⟨o, tmj, ho, ha, hm, hc⟩ := D.late i (by simp) hi
  have hsl := D.late_slots hP ho ha
  have hwant := want_ok hsl
  have hdo : ∀ d, o.dst = some d → d < fr.tmps.size := fun d e => hd i o d ho e
  have htm : ∀ x, (fr.finish x).tmps = putT o.dst x fr.tmps := fun x => by rw [finish_put hr.1 ho]
  rcases hc with ⟨hw, hu⟩ | ⟨hw, hj, v, hs, b1, b2, b3, b4, b5, b6, b7⟩
  · refine ⟨ρ, w, fr.finish undef, step_unwanted hr.mode hr.1 ho (by rw [hwant, hw]), ?_, hr.done ho (.refl _) undef, by rw [htm, putT_size]⟩
    rw [htm]
    exact D.ran hP ho hi hdo D.sim D.grow (.refl _) (fun d e => by rw [hu d e]; exact .lit _) fun _ _ _ _ hn => hn
  · have hnd : ∀ c, o.op ≠ .defer c := not_defer (P := P) (G := G) (ty := o.type) (tm := tmj) (h := smallH (readsO o.op tmj) hj) (by rw [b1]; simp) (by rw [b1]; simp)
    obtain ⟨x, w', hrun, a1, a2, a3, a4, a5, hcase⟩ := light_run D.sim (hj := hj) (ts := fr.tmps) (fun t ht => hsl t (needs_tmps ht)) b3 b4 (fun q hq => ⟨(b6 q hq).1, (b6 q hq).2.1⟩) b1 (by rcases b7 with c | ⟨c, _⟩; exact .inl c; exact .inr c)
    rw [← eval_eq] at hrun
    have hst := step_value (crs := crs) hr.mode hr.1 ho (by rw [hwant, hw]) (.inr hnd) hrun
    have far : ∀ k, ¬ M k → k < w.heap.size := fun k hk => by
      rcases Nat.lt_or_ge k w.heap.size with h1 | h1
      · exact h1
      · exact absurd (s0 k (Nat.le_trans D.grow.size h1)) hk
    rcases hcase with hv | ⟨hs2, b, hv, hbz, hob, hbb⟩
    · have hg : Grow M ρ h w ρ h w' := ⟨a1, a2, a3, a4, fun k hk => a5 k (far k hk), Nat.le_refl _, .refl _, fun o h1 h2 => absurd h1 h2, fun o b hb hne => .inr ⟨hb, hne⟩⟩
      refine ⟨ρ, w', fr.finish x, hst, ?_, hr.done ho (.refl _) x, by rw [htm, putT_size]⟩
      rw [htm]
      exact D.ran hP ho hi hdo (D.sim.more a4 a5) (D.grow.trans hg) (.refl _) (fun d e => by rw [b2 d e]; exact hv) fun _ _ _ _ hn => hn
    · obtain ⟨c2, c3, c4⟩ : ρ (nOf hj) = none ∧ hget h (nOf hj) = hget hs (nOf hj) ∧ (i, nOf hj, true) ∈ fl := by
        rcases b7 with c | ⟨_, c⟩
        · rw [c] at hs2; exact absurd hs2.symm (Pa.succ_ne _)
        · exact c
      have hlt := D.flb _ c4
      simp only at hlt
      have s2 := D.sim.light (o := nOf hj) (b := b) (N := (nOf hj).num) c2 hlt a1 a2 a3 a4 hbz a5 (by rw [c3]; exact hob) (by rw [c3]; exact hbb)
      have hle : Env.le ρ (ρ.put (nOf hj) b) := Env.put_le b c2
      have hlev : Env.le ((ρ.below (nOf hj).num).put (nOf hj) b) (ρ.put (nOf hj) b) := by
        intro o' b' hb'
        unfold Env.put at hb' ⊢
        split at hb'
        · rename_i e; rw [if_pos e]; exact hb'
        · rename_i e; rw [if_neg e]; exact (below_dom hb').2
      have hgrow : Grow M ρ0 h0 w0 (ρ.put (nOf hj) b) h w' := by
        refine ⟨a1.trans D.grow.os, a2.trans D.grow.tape, a3.trans D.grow.output, Nat.le_trans D.grow.size a4, fun k hk => (a5 k (far k hk)).trans (D.grow.same k hk), D.grow.nx, D.grow.keep.trans hle, fun o' h1 h2 => ?_, fun o' b' hb' hne => ?_⟩
        · unfold Env.put at h2
          split at h2
          · rename_i e; rw [e]; exact b5
          · exact D.grow.new o' h1 h2
        · unfold Env.put at hb'
          split at hb'
          · rename_i e
            cases hb'
            rw [e, c3] at hne
            exact .inl (s0 _ (Nat.le_trans D.grow.size (hbb hne)))
          · exact D.grow.track o' b' hb' hne
      refine ⟨ρ.put (nOf hj) b, w', fr.finish x, hst, ?_, hr.done ho hle x, by rw [htm, putT_size]⟩
      rw [htm]
      refine D.ran hP ho hi hdo s2 hgrow hle (fun d e => by rw [b2 d e]; exact hv.mono hlev) fun j hj' q hq hn => ?_
      unfold Env.put
      rw [if_neg fun e => ?_]
      · exact hn
      · have := D.fln _ hq _ c4 rfl rfl e
        simp only at this
        exact (List.nodup_cons.1 D.nodup).1 (this ▸ hj')

/-- A phantom's heavy operation. -/
theorem Phantom.dims {n : Nat} (hp : Phantom P G tm h n) {mask : Nat} {hd : H} {u : List (Pa × SO)} (hn : nOf hd = nOf h) (h1 : ∀ o, Named fl mask o → Dimmed (hget hd o) (hget h o)) (h2 : ∀ o, ¬ Named fl mask o → hget hd o = hget h o)
    (hb : ∀ e ∈ fl, e.2.1.num < (nOf h).num) (u1 : ∀ h' o, Named fl mask o → hget (undim u h') o = hget h o) (u2 : ∀ p ∈ u, Named fl mask p.1) {dst : Option Tmp} (hdst : ∀ d, dst = some d → d < n) :
    ∃ (M : Nat → Prop) (ρ : Env) (w : World) (ts : Array Value), Sim P G M ρ hd w ∧ TR ρ tm ts ∧ ∀ (ρ' : Env) (w' : World) (h' : H) (v : SV) (x : Value), Sim P G M ρ' h' w' → Grow M ρ hd w ρ' h' w' → VR ρ' v x → Phantom P G (putS dst v tm) (undim u h') n := by
  obtain ⟨Mp, ρp, wp, tsp, s, ht, hz⟩ := hp
  have hnb : ∀ o, Named fl mask o → o.num < (nOf h).num := fun o ⟨e, he, _, ho⟩ => by rw [← ho]; exact hb e he
  refine ⟨_, ρp, wp, tsp, s.dim hn h1 h2, ht, fun ρ' w' h' v x s' g' hv => ?_⟩
  obtain ⟨s2, g2⟩ := s.undim hn h1 h2 hnb (nOf_undim u h') (u1 h') (fun o ho => hget_undim_other u h' o fun p hp e => ho (e ▸ u2 p hp)) s' g'
  exact ⟨Mp, ρ', w', putT dst x tsp, s2, (ht.mono g'.keep).put (fun t e => by rw [hz]; exact hdst t e) hv, by rw [putT_size, hz]⟩

/-- The plan and the run do a heavy operation. -/
theorem heavy_step {R : RunF} (hR : RunOK P G R) (hf0 : ∃ fn, P.funcs[f0]? = some fn) (hP : SlotP ops (masks ops.toList []) (writers ops.toList 0)) {fr : Frame} (hd : ∀ (i : Nat) (o : Oper) (d : Tmp), ops[i]? = some o → o.dst = some d → d < fr.tmps.size) {p : PI} (hp : p.heavy = true) (hpi : p.i = i)
    (D : DInv P G ops tm0 h0 M ρ0 w0 (p :: pl) (i :: l) tm h fl fr.tmps ρ w) (hr : InReg ρ f0 base fi de cs k ops kt crs (i :: l) fr) (K : DrawK)
    (hK : ∀ {ρ' : Env} {w' : World} {fr' : Frame} {tm' : T SV} {h' : H}, DInv P G ops tm0 h0 M ρ0 w0 pl l tm' h' fl fr'.tmps ρ' w' → InReg ρ' f0 base fi de cs k ops kt crs l fr' → fr'.tmps.size = fr.tmps.size → ResOK P G M ρ0 h0 w0 f0 base (lone fr' crs w') (K tm' h' fl)) :
    ResOK P G M ρ0 h0 w0 f0 base (lone fr crs w) (drawI p ops P G (.mk fi de cs R) tm h fl K) := by
  obtain ⟨ho, hpm⟩ := D.mem p (by simp)
  rw [hpi] at ho
  generalize hpo : p.o = o at ho
  have hsl := D.heavy_slots hP ho (by rw [plI_cons, hpi]; simp)
  have hwant := want_ok hsl
  have hdo : ∀ d, o.dst = some d → d < fr.tmps.size := fun d e => hd i o d ho e
  have htm : ∀ x, (fr.finish x).tmps = putT o.dst x fr.tmps := fun x => by rw [finish_put hr.1 ho]
  rw [heavy_sym hp, hpo]
  cases hw : wantG o.guard ops tm with
  | false =>
    simp only []
    have hst := step_unwanted (P := P) (w := w) (crs := crs) hr.mode hr.1 ho (by rw [hwant, hw])
    refine ResOK.after (.one hst) .refl (hK ?_ (hr.done ho (.refl _) undef) (by rw [htm, putT_size]))
    obtain ⟨Mp, ρp, wp, tsp, ps, pt, pz⟩ := D.phantom
    rw [htm]
    exact D.heavy hP hpi ho hdo D.sim .refl (.lit _) ⟨Mp, ρp, wp, putT o.dst undef tsp, ps, pt.put (fun t e => by rw [pz]; exact hdo t e) (.lit _), by rw [putT_size, pz]⟩ fun _ _ => rfl
  | true =>
    simp only []
    obtain ⟨hdm, u, e, d1, d2, d3, d4, d5⟩ := dimK_ok p.mask fl h h [] (fun hd u => heavyE (sop o.op o.type P G tm hd) P (.mk fi de cs R) hd u fun v h' => K (putS o.dst v tm) h' fl) (fun _ => False) rfl (fun _ k => k.elim) (fun _ _ => rfl) (fun _ _ k => k.elim) (fun q hq => by cases hq)
    rw [e]
    clear e
    have d2 : ∀ o, Named fl p.mask o → Dimmed (hget hdm o) (hget h o) := fun o ho => d2 o (.inr ho)
    have d3 : ∀ o, ¬ Named fl p.mask o → hget hdm o = hget h o := fun o ho => d3 o fun k => ho (k.resolve_left id)
    have d4 : ∀ h' o, Named fl p.mask o → hget (undim u h') o = hget h o := fun h' o ho => d4 h' o (.inr ho)
    have d5 : ∀ q ∈ u, Named fl p.mask q.1 := fun q hq => (d5 q hq).resolve_left id
    have hnb : ∀ o, Named fl p.mask o → o.num < (nOf h).num := fun o ⟨e, he, _, ho⟩ => by rw [← ho]; exact D.flb e he
    have sd := D.sim.dim d1 d2 d3
    have back := fun {ρ' : Env} {w' : World} {h' : H} (s' : Sim P G (Mdim M ρ h (Named fl p.mask)) ρ' h' w') (g' : Grow (Mdim M ρ h (Named fl p.mask)) ρ hdm w ρ' h' w') =>
      D.sim.undim d1 d2 d3 hnb (nOf_undim u h') (d4 h') (fun o ho => hget_undim_other u h' o fun q hq e => ho (e ▸ d5 q hq)) s' g'
    obtain ⟨tm', htr, hag⟩ := slots_some fr.tmps (tmpsOf o.op) (ρ := ρ) (tm := tm) fun t ht => hsl t (needs_tmps ht)
    have hok := sop_ok sd o (f := fr.eval) (by rw [eval_eq]; exact evalT_rel htr)
    rw [sop_congr (tm' := tm) fun t ht => hag t ht] at hok
    -- the phantom's part
    obtain ⟨Mp, ρp, wp, tsp, ps, pt, pback⟩ := D.phantom.dims d1 d2 d3 D.flb d4 d5 hdo
    have pok := sop_ok ps o (evalT_rel pt)
    -- what a value gives
    have value : ∀ {ρ' : Env} {w' : World} {h' : H} {v : SV} {x : Value}, Sim P G (Mdim M ρ h (Named fl p.mask)) ρ' h' w' → Grow (Mdim M ρ h (Named fl p.mask)) ρ hdm w ρ' h' w' → VR ρ' v x → Phantom P G (putS o.dst v tm) (undim u h') fr.tmps.size →
        Steps P (lone fr crs w) (lone (fr.finish x) crs w') → ResOK P G M ρ0 h0 w0 f0 base (lone fr crs w) (undimK u h' fun h' => K (putS o.dst v tm) h' fl) := by
      intro ρ' w' h' v x s' g' hv hph hst
      obtain ⟨s2, g2⟩ := back s' g'
      rw [undimK_eq]
      refine ResOK.after hst .refl (hK ?_ (hr.done ho g2.keep x) (by rw [htm, putT_size]))
      rw [htm]
      exact D.heavy hP hpi ho hdo s2 g2 hv hph fun q hq => d4 h' q hq
    -- what a panic gives
    have panics : ∀ {ρ' : Env} {w' : World} {h' : H} {c : List (SV × Bool)} {es : List PanicEntry}, Sim P G (Mdim M ρ h (Named fl p.mask)) ρ' h' w' → Grow (Mdim M ρ h (Named fl p.mask)) ρ hdm w ρ' h' w' → CR ρ' c es →
        Steps P (lone fr crs w) (lone (fr.raise es) crs w') → ResOK P G M ρ0 h0 w0 f0 base (lone fr crs w) (undimK u h' fun h => panB (isNil (deB (.mk fi de cs R))) (.mk fi de cs R) c h) := by
      intro ρ' w' h' c es s' g' hc hst
      obtain ⟨s2, g2⟩ := back s' g'
      rw [undimK_eq]
      show ResOK P G M ρ0 h0 w0 f0 base _ (panB (isNil de) (.mk fi de cs R) c (undim u h'))
      cases hde : isNil de with
      | false => exact .bad
      | true =>
        have hde : de = [] := by cases de with
          | nil => rfl
          | cons d ds => cases hde
        subst hde
        obtain ⟨tmx, todo, hs⟩ := hr.raised g2.keep hc
        exact (unwindP_ok s2 hf0 hs).after hst (D.grow.trans g2)
    cases he : sop o.op o.type P G tm hdm with
    | val v h' =>
      rw [he] at hok pok
      obtain ⟨ρ', w', s', g', hrun⟩ := hok
      obtain ⟨ρq, wq, sq, gq, hrunq⟩ := pok
      have hnd : ∀ c, o.op ≠ .defer c := not_defer (P := P) (G := G) (ty := o.type) (tm := tm) (h := hdm) (by rw [he]; simp) (by rw [he]; simp)
      have hph : Phantom P G (putS o.dst v tm) (undim u h') fr.tmps.size := by
        rcases hrunq with ⟨x, _, hv⟩ | ⟨_, rfl⟩
        · exact pback _ _ _ _ _ sq gq hv
        · exact pback _ _ _ _ undef sq gq (.lit _)
      rcases hrun with ⟨x, hrun, hv⟩ | ⟨hrun, rfl⟩
      · exact value s' g' hv hph (.one (step_value hr.mode hr.1 ho (by rw [hwant, hw]) (.inr hnd) (.inl hrun)))
      · exact value s' g' (.lit undef) hph (.one (step_value hr.mode hr.1 ho (by rw [hwant, hw]) (.inr hnd) (.inr ⟨hrun, rfl⟩)))
    | enter f args =>
      rw [he] at hok pok
      obtain ⟨xs, hrun, hl⟩ := hok
      obtain ⟨ys, _, hly⟩ := pok
      have hnd : ∀ c, o.op ≠ .defer c := not_defer (P := P) (G := G) (ty := o.type) (tm := tm) (h := hdm) (by rw [he]; simp) (by rw [he]; simp)
      change ResOK P G M ρ0 h0 w0 f0 base _ (enterK P f args .normal fun f' => subR (R f' [] hdm) (.mk fi de cs R) u fun v h' => K (putS o.dst v tm) h' fl)
      rcases enter_cases P f args .normal with hb | ⟨f', hK', hfi, hfn, hfr⟩
      · rw [hb]; exact .bad
      · rw [hK']
        have hst : Go.step P (lone fr crs w) = .next (lone (Frame.enter P f xs .normal) (fr :: crs) w) := by
          obtain ⟨tmx, lops, hs⟩ := hr.2
          exact step_lone_go (by rw [stepG_oper hs.mode hr.1 ho (by rw [hwant, hw]) (.inr hnd)]; exact apply_enter hs.top.todo hrun)
        have hsub := hR _ ρ hdm w f (fr :: crs) f' [] _ (fr :: crs) hfn sd (.last (hfr ρ xs hl) hfi)
        have hsubp := hR _ ρp hdm wp f [] f' [] _ [] hfn ps (.last (hfr ρp ys hly) hfi)
        cases hres : R f' [] hdm with
        | done v h' =>
          rw [hres] at hsub hsubp
          obtain ⟨ρ', w', fr', x, k1, k2, k3, k4, k5, k6⟩ := hsub
          obtain ⟨ρq, wq, _, y, _, _, _, q4, q5, q6⟩ := hsubp
          exact value k5 k6 k4 (pback _ _ _ _ _ q5 q6 q4) (.head hst (k1.trans (.one (step_leave_returned k3))))
        | pan c h' =>
          rw [hres] at hsub
          obtain ⟨ρ', w', fr', es, k1, k2, k3, k4, k5, k6⟩ := hsub
          exact panics k5 k6 k4 (.head hst (k1.trans (.one (step_leave_panicked k3))))
        | next _ _ _ => exact .bad
        | bad => exact .bad
    | panic v =>
      rw [he] at hok
      obtain ⟨x, hrun, hv⟩ := hok
      have hnd : ∀ c, o.op ≠ .defer c := not_defer (P := P) (G := G) (ty := o.type) (tm := tm) (h := hdm) (by rw [he]; simp) (by rw [he]; simp)
      exact panics sd .refl (.cons hv .nil) (.one (step_panic hr.mode hr.1 ho (by rw [hwant, hw]) (.inr hnd) hrun))
    | _ => exact .bad

/-- A region between its plan and any order. -/
theorem draw_run {R : RunF} (hR : RunOK P G R) (hf0 : ∃ fn, P.funcs[f0]? = some fn) (hP : SlotP ops (masks ops.toList []) (writers ops.toList 0)) (s0 : ∀ k, w0.heap.size ≤ k → M k) (n : Nat) (hd : ∀ (i : Nat) (o : Oper) (d : Tmp), ops[i]? = some o → o.dst = some d → d < n) :
    ∀ (m : Nat) {l : List Nat} {pl : List PI} {tm : T SV} {h : H} {fl : Fl} {ρ : Env} {w : World} {fr : Frame}, l.length + pl.length ≤ m → fr.tmps.size = n → DInv P G ops tm0 h0 M ρ0 w0 pl l tm h fl fr.tmps ρ w → InReg ρ f0 base fi de cs k ops kt crs l fr →
      ResOK P G M ρ0 h0 w0 f0 base (lone fr crs w) (drawL pl ops P G (.mk fi de cs R) tm k h fl) := by
  intro m
  induction m with
  | zero =>
    intro l pl tm h fl ρ w fr hlen hz D hr
    have hl : l = [] := List.length_eq_zero_iff.1 (by omega)
    have hpl : pl = [] := List.length_eq_zero_iff.1 (by omega)
    subst hl hpl
    obtain ⟨tmx, lops, hs⟩ := hr.2
    have ht : TR ρ tm fr.tmps := fun t => by
      have := D.slots t
      unfold slotV at this
      cases hw : findW t (writers ops.toList 0) with
      | none => rw [hw] at this; exact this
      | some i => rw [hw] at this; simpa using this
    obtain ⟨it, kt', e, hi, hk⟩ := todo_cons hs.top.todo
    rw [hr.1] at e
    cases e
    have hs2 : SR ρ f0 base (.mk fi tm k de .run) cs { fr with todo := kt } crs := hs.re (.refl _) (f' := .mk fi tm k de .run) ⟨fi_todo hs.top.fi kt, ht, hk, hs.top.defers, hs.top.mode⟩ rfl
    have hst : Go.step P (lone fr crs w) = .next (lone { fr with todo := kt } crs w) := step_lone_go (by simp [stepG, hs.mode, stepG.exec, hr.1])
    exact (nextB_ok D.sim R hs2).after (.one hst) D.grow
  | succ m ih =>
    intro l pl tm h fl ρ w fr hlen hz D hr
    have hd' : ∀ (i : Nat) (o : Oper) (d : Tmp), ops[i]? = some o → o.dst = some d → d < fr.tmps.size := by rw [hz]; exact hd
    have late : ∀ i l', l = i :: l' → i ∉ plI pl → ResOK P G M ρ0 h0 w0 f0 base (lone fr crs w) (drawL pl ops P G (.mk fi de cs R) tm k h fl) := by
      intro i l' e hi
      subst e
      obtain ⟨ρ', w', fr', h1, h2, h3, h4⟩ := late_step hP hd' hi D s0 hr
      exact ResOK.after (.one h1) .refl (ih (by simp at hlen; omega) (h4.trans hz) h2 h3)
    cases pl with
    | nil =>
      cases l with
      | nil => exact ih (by simp) hz D hr
      | cons i l' => exact late i l' rfl (by simp [plI])
    | cons p pl =>
      change ResOK P G M ρ0 h0 w0 f0 base _ (drawI p ops P G (.mk fi de cs R) tm h fl fun tm h fl => drawL pl ops P G (.mk fi de cs R) tm k h fl)
      cases hh : p.heavy with
      | false =>
        rcases light_late hP hh hd' D (.mk fi de cs R) (fun tm h fl => drawL pl ops P G (.mk fi de cs R) tm k h fl) with e | ⟨tm', h', fl', e, D'⟩
        · rw [e]; exact .bad
        · rw [e]
          exact ih (by simp at hlen; omega) hz D' hr
      | true =>
        cases l with
        | nil => have := D.sub p.i (by rw [plI_cons]; simp); cases this
        | cons i l' =>
          by_cases hi : i ∈ plI (p :: pl)
          · have hpi : p.i = i := by
              rw [plI_cons] at hi
              cases hi with
              | head => rfl
              | tail _ hm =>
                exfalso
                obtain ⟨q, hq, e⟩ := List.mem_map.1 hm
                have h1 := D.plan.2.2.1 hh q hq
                rw [← (D.mem q (by simp [hq])).2, e] at h1
                exact D.head i l' rfl p.i h1 (D.sub p.i (by rw [plI_cons]; simp))
            exact heavy_step hR hf0 hP hd' hh hpi D hr (fun tm h fl => drawL pl ops P G (.mk fi de cs R) tm k h fl) fun D' hr' hz' => ih (by simp at hlen; omega) (hz'.trans hz) D' hr'
          · exact late i l' rfl hi
theorem okOps_mem {l : List Oper} {n : Nat} : okOps l n = true ↔ ∀ o ∈ l, ∀ d, o.dst = some d → d < n := by
  induction l with
  | nil => exact ⟨fun _ o ho => (by cases ho), fun _ => rfl⟩
  | cons o l ih =>
    show andB (okDst (dstOf o) n) (okOps l n) = true ↔ _
    rw [andB_eq, Bool.and_eq_true, ih, dstOf_eq]
    constructor
    · rintro ⟨h1, h2⟩ o' ho'
      cases ho' with
      | head => exact fun d hd => by rw [hd] at h1; exact Nat.le_of_ble_eq_true h1
      | tail _ hm => exact h2 o' hm
    · intro h
      refine ⟨?_, fun o' ho' => h o' (by simp [ho'])⟩
      cases hd : o.dst with
      | none => rfl
      | some d => exact Nat.ble_eq_true_of_le (h o (by simp) d hd)
/-- Regions that draw their order are sound. -/
theorem draw_ok {R : RunF} (hR : RunOK P G R) : DrawOK P G R := by
  intro M ρ h w f0 base fi tm id ops k de cs fr crs hf0 s hs
  cases hpl : plan ops with
  | none => exact .bad
  | some pl =>
    have pp := plan_some hpl
    change ResOK P G M ρ h w f0 base _ (drawL pl ops P G (.mk fi de cs R) tm k h [])
    obtain ⟨it, kt, hft, hi, hk⟩ := todo_cons hs.top.todo
    cases hi with
    | code hc =>
      have hc : okOps ops.toList fr.tmps.size = true := hc
      rw [okOps_mem] at hc
      let t := w.tape w.drawn (.order fr.fn id)
      let w1 : World := { w with drawn := w.drawn + 1 }
      have hst : Go.step P (lone fr crs w) = .next (lone { fr with todo := .inRegion ops (Region.schedule (P.follows .mixedOrders) ops t) :: kt } crs w1) :=
        step_lone_go (by simp [stepG, stepG.exec, hs.mode, hft, choose, Sem.run, Question.forced, Question.cut, t, w1])
      have ord := pp.order (P.follows .mixedOrders) t
      generalize Region.schedule (P.follows .mixedOrders) ops t = l at hst ord
      have s1 : Sim P G M ρ h w1 := s.drew rfl
      have g1 : Grow M ρ h w ρ h w1 := .drew rfl rfl rfl rfl
      have hlops : ∃ lops : List Oper, l.map (ops[·]?) = lops.map some ∧ okOps lops fr.tmps.size = true := by
        have key : ∀ l : List Nat, (∀ i ∈ l, i < ops.size) → ∃ lops : List Oper, l.map (ops[·]?) = lops.map some ∧ ∀ o ∈ lops, o ∈ ops.toList := by
          intro l
          induction l with
          | nil => intro _; exact ⟨[], rfl, fun o ho => by cases ho⟩
          | cons i l ih =>
            intro hl
            obtain ⟨lo, h1, h2⟩ := ih fun j hj => hl j (by simp [hj])
            have hi := hl i (by simp)
            refine ⟨ops[i] :: lo, by simp [h1, hi], fun o ho => ?_⟩
            cases ho with
            | head => simp
            | tail _ hm => exact h2 o hm
        obtain ⟨lo, h1, h2⟩ := key l fun i hi => (ord.all i).1 hi
        exact ⟨lo, h1, okOps_mem.2 fun o ho => hc o (h2 o ho)⟩
      obtain ⟨lops, hlo1, hlo2⟩ := hlops
      have hs1 : SR ρ f0 base (.mk fi tm (.inReg ops lops :: k) de .run) cs { fr with todo := .inRegion ops l :: kt } crs := hs.to (.cons (.inReg hlo1 hlo2) hk)
      have ahead : ∀ a i b, l = a ++ i :: b → ∀ j, Nat.testBit (mkO ops i) j = true → j ∈ a := fun a i b e j hj => mask_ahead ord.resp i a b e ((ord.all i).1 (by rw [e]; simp)) j hj
      have D : DInv P G ops tm h M ρ w1 pl l tm h [] fr.tmps ρ w1 := by
        refine ⟨s1, .refl, fun t => ?_, fun _ _ => rfl, fun i hi hn => absurd (pp.all i ((ord.all i).1 hi)) hn, ⟨M, ρ, w1, fr.tmps, s1, hs.top.tmps, rfl⟩, fun e he => (by cases he), fun e he => (by cases he), pp.plan, fun p hp => pp.mem p hp, fun i hi hn => absurd (pp.all i hi) hn, fun i hi => ?_, ord.nodup, fun i hi => (ord.all i).1 hi, fun i hi hn => absurd ((ord.all i).2 hi) hn, fun i b e j hj => ?_, fun a i b e j hj _ => ahead a i b e j hj⟩
        · unfold slotV
          cases findW t (writers ops.toList 0) with
          | none => exact hs.top.tmps t
          | some i => simp only [ite_self]; exact hs.top.tmps t
        · obtain ⟨p, hp, e⟩ := List.mem_map.1 hi
          have := (pp.mem p hp).1
          rw [e] at this
          refine (ord.all i).2 ?_
          rcases Nat.lt_or_ge i ops.size with h1 | h1
          · exact h1
          · rw [Array.getElem?_eq_none h1] at this; cases this
        · have := ahead [] i b e j hj
          cases this
      have hrun := draw_run (fr := { fr with todo := .inRegion ops l :: kt }) (k := k) (kt := kt) hR hf0 pp.slots s1.fresh fr.tmps.size (fun i o d ho hd => hc o (by
        have := Array.mem_of_getElem? ho; simpa using this) d hd) (l.length + pl.length) (Nat.le_refl _) rfl D ⟨rfl, tm, lops, hs1⟩
      exact hrun.after (.one hst) g1
/-- A run is sound. -/
theorem run_ok (n : Nat) : RunOK P G (runF P G n) := runF_ok (fun _ h => draw_ok h) n
end
end Go.Play
