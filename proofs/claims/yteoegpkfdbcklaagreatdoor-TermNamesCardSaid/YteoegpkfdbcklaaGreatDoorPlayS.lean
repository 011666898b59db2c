/- Play: the operations of a region in their order; code; a step. -/
import Derived.Test.YteoegpkfdbcklaaGreatDoorPlayR
namespace Go.Play
set_option linter.unusedVariables false
set_option linter.unusedSimpArgs false

/-- What a run says, wherever it begins. -/
def RunOK (P : Program) (G : Glob) (R : RunF) : Prop :=
  ∀ (M : Nat → Prop) (ρ : Env) (h : H) (w : World) (f0 : FuncId) (base : List Frame) (f : SF) (cs : List SF) (fr : Frame) (crs : List Frame), (∃ fn, P.funcs[f0]? = some fn) → Sim P G M ρ h w → SR ρ f0 base f cs fr crs → ResOK P G M ρ h w f0 base (lone fr crs w) (R f cs h)
/-- What a region says that draws its order. -/
def DrawOK (P : Program) (G : Glob) (R : RunF) : Prop :=
  ∀ (M : Nat → Prop) (ρ : Env) (h : H) (w : World) (f0 : FuncId) (base : List Frame) (fi : FI) (tm : T SV) (id : Nat) (ops : Array Oper) (k : List SI) (de : List SDef) (cs : List SF) (fr : Frame) (crs : List Frame), (∃ fn, P.funcs[f0]? = some fn) → Sim P G M ρ h w →
    SR ρ f0 base (.mk fi tm (.code (.region id ops true) :: k) de .run) cs fr crs → ResOK P G M ρ h w f0 base (lone fr crs w) (drawR (plan ops) ops P G (.mk fi de cs R) tm k h)

section
variable {P : Program} {G : Glob} {M : Nat → Prop} {ρ ρ1 : Env} {h h1 : H} {w w1 : World} {f0 : FuncId} {base : List Frame}

theorem todo_cons {n : Nat} {i : SI} {l : List SI} {ft : List Item} (h : IL ρ n (i :: l) ft) : ∃ x k, ft = x :: k ∧ IR ρ n i x ∧ IL ρ n l k := by
  cases h with | cons h t => exact ⟨_, _, rfl, h, t⟩
theorem fi_todo {fi : FI} {fr : Frame} (h : FIR ρ fi fr) (k : List Item) : FIR ρ fi { fr with todo := k } := by cases fi; exact h
/-- Another list of what is to do. -/
theorem SR.to {fi : FI} {tm : T SV} {todo todo' : List SI} {de : List SDef} {cs : List SF} {fr : Frame} {crs : List Frame} (hs : SR ρ f0 base (.mk fi tm todo de .run) cs fr crs) {k : List Item} (hk : IL ρ fr.tmps.size todo' k) :
    SR ρ f0 base (.mk fi tm todo' de .run) cs { fr with todo := k } crs :=
  hs.re (.refl _) (f' := .mk fi tm todo' de .run) ⟨fi_todo hs.top.fi k, hs.top.tmps, hk, hs.top.defers, hs.top.mode⟩ rfl
theorem SR.mode {fi : FI} {tm : T SV} {todo : List SI} {de : List SDef} {cs : List SF} {fr : Frame} {crs : List Frame} (hs : SR ρ f0 base (.mk fi tm todo de .run) cs fr crs) : fr.mode = .run := mode_run hs.top.mode
theorem nextB_ok (s : Sim P G M ρ h w) {fi : FI} {tm : T SV} {todo : List SI} {de : List SDef} {cs : List SF} {fr : Frame} {crs : List Frame} (R : RunF) (hs : SR ρ f0 base (.mk fi tm todo de .run) cs fr crs) :
    ResOK P G M ρ h w f0 base (lone fr crs w) (nextB (.mk fi de cs R) tm todo h) := .here s hs

-- operations
theorem runCO_comp2 (d : Option Tmp) (op : Op) (ty : TypeId) (P : Program) (G : Glob) (o : Oper) (rest : List Oper) (c : Cx) (tm : T SV) (h : H) (K : T SV → H → Res) :
    runCO (comp2 d op ty P G) o rest P c tm h K = runEff (sop op ty P G tm h) (sop op ty P G tm h) d o rest P c tm h K := by
  cases d with
  | none => rfl
  | some d => cases op <;> rfl
theorem runCO_comp (o : Oper) (P : Program) (G : Glob) (rest : List Oper) (c : Cx) (tm : T SV) (h : H) (K : T SV → H → Res) :
    runCO (comp o P G) o rest P c tm h K = match o.guard with
      | none => runEff (sop o.op o.type P G tm h) (sop o.op o.type P G tm h) o.dst o rest P c tm h K
      | some (j, want) => match guardB (syielded (opsOf c) tm j) want with
        | true => runEff (sop o.op o.type P G tm h) (sop o.op o.type P G tm h) o.dst o rest P c tm h K
        | false => setO o.dst undefS tm fun tm => K tm h := by
  obtain ⟨dst, op, ty, pos, after, guard⟩ := o
  cases guard with
  | none => exact runCO_comp2 dst op ty P G _ rest c tm h K
  | some g =>
    obtain ⟨j, want⟩ := g
    show runGrd (guardB (syielded (opsOf c) tm j) want) dst (sop op ty P G) _ rest P c tm h K = _
    simp only []
    generalize guardB (syielded (opsOf c) tm j) want = b
    cases b <;> rfl
theorem guardB_eq (y : Option Bool) (want : Bool) : guardB y want = (y == some want) := by
  cases y with
  | none => rfl
  | some b => cases b <;> cases want <;> rfl
theorem stepG_oper {fr : Frame} {crs : List Frame} (hm : fr.mode = .run) {ops : Array Oper} {i : Nat} {is : List Nat} {k : List Item} (ht : fr.todo = .inRegion ops (i :: is) :: k) {o : Oper} (ho : ops[i]? = some o)
    (hw : Region.wanted o (yielded ops fr.tmps) = true) (hd : fr.roundOf = none ∨ ∀ c, o.op ≠ .defer c) :
    stepG P true { frame := fr, callers := crs, status := .running, dying := none } w = stepG.apply P true fr crs none (execOp fr.eval o) w := by
  simp only [stepG, hm, stepG.exec, ht, ho, Option.map_some, hw, Option.getD_some, if_true, stepG.oper, Frame.oper?]
  rcases hd with hd | hd
  · rw [hd]
  · cases hr : fr.roundOf with
    | none => rfl
    | some l =>
      obtain ⟨dst, op, ty, pos, after, guard⟩ := o
      cases op <;> first | rfl | exact absurd rfl (hd _)
theorem step_unwanted {fr : Frame} {crs : List Frame} (hm : fr.mode = .run) {ops : Array Oper} {i : Nat} {is : List Nat} {k : List Item} (ht : fr.todo = .inRegion ops (i :: is) :: k) {o : Oper} (ho : ops[i]? = some o)
    (hw : Region.wanted o (yielded ops fr.tmps) = false) : Go.step P (lone fr crs w) = .next (lone (fr.finish undef) crs w) :=
  step_lone_go (by simp [stepG, hm, stepG.exec, ht, ho, hw])
theorem eval_rel {tm : T SV} {fr : Frame} (ht : TR ρ tm fr.tmps) (x : Operand) : VR ρ (ev x tm) (fr.eval x) :=
  ev_rel ht (fun _ => rfl) (fun _ => rfl) (fun _ => rfl) (fun _ => rfl) x
/-- The head operation is done: its value lies in its slot. -/
theorem finish_reg {fi : FI} {tm : T SV} {ops : Array Oper} {o : Oper} {rest : List Oper} {k : List SI} {de : List SDef} {cs : List SF} {fr : Frame} {crs : List Frame}
    (hs : SR ρ f0 base (.mk fi tm (.inReg ops (o :: rest) :: k) de .run) cs fr crs) (hle : Env.le ρ ρ1) {v : SV} {x : Value} (hv : VR ρ1 v x) (K : T SV → Res) :
    ∃ tm', setO o.dst v tm K = K tm' ∧ SR ρ1 f0 base (.mk fi tm' (.inReg ops rest :: k) de .run) cs (fr.finish x) crs := by
  obtain ⟨it, kt, hft, hi, hk⟩ := todo_cons hs.top.todo
  cases hi with
  | @inReg _ _ is he ho =>
    cases is with
    | nil => cases he
    | cons j js =>
      simp only [List.map_cons, List.cons.injEq] at he
      obtain ⟨hd, ho'⟩ := okOps_cons ho
      obtain ⟨tm', e, ht⟩ := setO_ok (hs.top.tmps.mono hle) hd hv K
      rw [dstOf_eq] at e
      refine ⟨tm', e, ?_⟩
      have hfin : fr.finish x = { fr with tmps := (match o.dst with | some d => fr.tmps.setIfInBounds d x | none => fr.tmps), todo := .inRegion ops js :: kt } := by
        simp only [Frame.finish, hft, he.1, Option.bind_some]
        cases o.dst <;> rfl
      rw [hfin]
      have hz := size_set o fr.tmps x
      refine hs.re hle (f' := .mk fi tm' (.inReg ops rest :: k) de .run) ⟨?_, ht, ?_, hs.top.defers.mono hle, hs.top.mode.mono hle⟩ rfl
      · have := hs.top.fi.mono hle; cases fi; exact this
      · have hil : IL ρ1 fr.tmps.size (.inReg ops rest :: k) (.inRegion ops js :: kt) := .cons (.inReg he.2 ho') (hk.mono hle (Nat.le_refl _))
        rw [← hz] at hil; exact hil
theorem sop_defer {op : Op} {c : Call} (h : op = .defer c) (ty : TypeId) (tm : T SV) (h0 : H) : sop op ty P G tm h0 = .bad ∨ ∃ d, sop op ty P G tm h0 = .defer d := by
  subst h
  change opDefer c.callee tm c.args.toList = .bad ∨ ∃ d, opDefer c.callee tm c.args.toList = .defer d
  cases c.callee with
  | value f =>
    change deferV (ev f tm) (evL c.args.toList tm) = .bad ∨ ∃ d, deferV (ev f tm) (evL c.args.toList tm) = .defer d
    cases ev f tm <;> first | exact .inl rfl | exact .inr ⟨_, rfl⟩
  | _ => exact .inl rfl
theorem runOps_ok (R : RunF) {fi : FI} {de : List SDef} {cs : List SF} {ops : Array Oper} {k : List SI} : ∀ (l : List Oper) {ρ : Env} {tm : T SV} {h : H} {w : World} {fr : Frame} {crs : List Frame}, Sim P G M ρ h w →
    SR ρ f0 base (.mk fi tm (.inReg ops l :: k) de .run) cs fr crs → ResOK P G M ρ h w f0 base (lone fr crs w) (runOps l P G (.mk ops (.mk fi de cs R) k) tm h) := by
  intro l
  induction l with
  | nil =>
    intro ρ tm h w fr crs s hs
    obtain ⟨it, kt, hft, hi, hk⟩ := todo_cons hs.top.todo
    cases hi with
    | @inReg _ _ is he ho =>
      cases is with
      | cons j js => cases he
      | nil =>
        have hst : Go.step P (lone fr crs w) = .next (lone { fr with todo := kt } crs w) := step_lone_go (by simp [stepG, hs.mode, stepG.exec, hft])
        exact ResOK.steps (.one hst) (nextB_ok s R (hs.to hk))
  | cons o rest ih =>
    intro ρ tm h w fr crs s hs
    obtain ⟨it, kt, hft, hi, hk⟩ := todo_cons hs.top.todo
    cases hi with
    | @inReg _ _ is he ho =>
      cases is with
      | nil => cases he
      | cons j js =>
        simp only [List.map_cons, List.cons.injEq] at he
        have hoj := he.1
        change ResOK P G M ρ h w f0 base _ (runCO (comp o P G) o rest P (.mk ops (.mk fi de cs R) k) tm h (runOps rest P G (.mk ops (.mk fi de cs R) k)))
        rw [runCO_comp]
        have done : Region.wanted o (yielded ops fr.tmps) = true → ResOK P G M ρ h w f0 base (lone fr crs w) (runEff (sop o.op o.type P G tm h) (sop o.op o.type P G tm h) o.dst o rest P (.mk ops (.mk fi de cs R) k) tm h (runOps rest P G (.mk ops (.mk fi de cs R) k))) := by
          intro hw
          have he := sop_ok s o (eval_rel hs.top.tmps)
          have hcase : (fr.roundOf = none ∨ ∀ c, o.op ≠ .defer c) ∨ (∃ l, fr.roundOf = some l) ∧ ∃ c, o.op = .defer c := by
            cases hr : fr.roundOf with
            | none => exact .inl (.inl rfl)
            | some l =>
              by_cases hc : ∃ c, o.op = .defer c
              · exact .inr ⟨⟨l, rfl⟩, hc⟩
              · exact .inl (.inr fun c e => hc ⟨c, e⟩)
          rcases hcase with hcase | ⟨⟨l, hl⟩, c, hc⟩
          · have hgo := stepG_oper (P := P) (w := w) (crs := crs) hs.mode hft hoj hw hcase
            have hap := apply_ok s hs he (fr0 := fr) (w0 := w) (by rw [hgo])
            generalize sop o.op o.type P G tm h = e at he hap
            cases e with
            | val v h' =>
              obtain ⟨ρ', w', s', g', hr⟩ := he
              change ResOK P G M ρ h w f0 base _ (setO o.dst v tm fun tm => runOps rest P G (.mk ops (.mk fi de cs R) k) tm h')
              have key : ∀ x, VR ρ' v x → Go.step P (lone fr crs w) = .next (lone (fr.finish x) crs w') → ResOK P G M ρ h w f0 base (lone fr crs w) (setO o.dst v tm fun tm => runOps rest P G (.mk ops (.mk fi de cs R) k) tm h') := by
                intro x hv hst
                obtain ⟨tm', e, hs'⟩ := finish_reg hs g'.keep hv (fun tm => runOps rest P G (.mk ops (.mk fi de cs R) k) tm h')
                rw [e]
                exact (ih s' hs').after (.one hst) g'
              rcases hr with ⟨x, hr, hv⟩ | ⟨hr, rfl⟩
              · exact key x hv (step_lone_go (by rw [hgo]; simp only [stepG.apply, Sem.runT_eq, hr, GStep.bare_after, if_true]; rfl))
              · exact key undef (.lit _) (step_lone_go (by rw [hgo]; simp only [stepG.apply, Sem.runT_eq, hr, GStep.bare_after, if_true]; rfl))
            | bad => exact .bad
            | _ => exact hap
          · have hfi : ∃ q, roOf fi = some q := by
              obtain ⟨fn, kind, ro⟩ := fi
              have := hs.top.fi.2.2
              cases ro with
              | none => rw [show fr.roundOf = none from this] at hl; cases hl
              | some q => exact ⟨q, rfl⟩
            obtain ⟨q, hq⟩ := hfi
            rcases sop_defer (P := P) (G := G) hc o.type tm h with e | ⟨d, e⟩
            · rw [e]; exact .bad
            · rw [e]
              change ResOK P G M ρ h w f0 base _ (deferE (roOf fi) (.mk fi tm (.inReg ops (o :: rest) :: k) de .run) cs h d)
              rw [hq]; exact .bad
        cases hg : o.guard with
        | none => exact done (by unfold Region.wanted; rw [hg])
        | some g =>
          obtain ⟨j', want⟩ := g
          have hwd : Region.wanted o (yielded ops fr.tmps) = guardB (syielded ops tm j') want := by
            unfold Region.wanted
            rw [hg, yielded_ok hs.top.tmps, guardB_eq]
          simp only [opsOf]
          cases hb : guardB (syielded ops tm j') want with
          | true => exact done (by rw [hwd, hb])
          | false =>
            simp only []
            have hst := step_unwanted (P := P) (w := w) (crs := crs) hs.mode hft hoj (by rw [hwd, hb])
            obtain ⟨tm', e, hs'⟩ := finish_reg hs (.refl _) (.lit undef) (fun tm => runOps rest P G (.mk ops (.mk fi de cs R) k) tm h)
            refine ResOK.steps (.one hst) ?_
            show ResOK P G M ρ h w f0 base _ (setO o.dst undefS tm _)
            rw [show undefS = SV.lit undef from rfl, e]
            exact ih s hs'

-- range over functions
theorem enterRF_ok (R : RunF) (s : Sim P G M ρ h w) {fi : FI} {tm : T SV} {g : Operand} {ps : Array Tmp} {as bd : Code} {k : List SI} {de : List SDef} {cs : List SF} {fr : Frame} {crs : List Frame}
    (hs : SR ρ f0 base (.mk fi tm (.code (.rangeFunc g ps as bd) :: k) de .run) cs fr crs) : ResOK P G M ρ h w f0 base (lone fr crs w) (enterRF1 fi P (.mk fi de cs R) tm k h g ps as bd) := by
  obtain ⟨it, kt, hft, hi, hk⟩ := todo_cons hs.top.todo
  cases hi with
  | code hc =>
    rw [okCode_rf, Bool.and_eq_true, Bool.and_eq_true] at hc
    obtain ⟨c1, c2, c3⟩ := hc
    -- what follows once the loop's block is laid
    have key : ∀ {ρ1 : Env} {h1 : H} {w1 : World} {lp : Pa} {b : Loc} {mark : List SDef} {mark' : List Deferred}, Sim P G M ρ1 h1 w1 → Grow M ρ h w ρ1 h1 w1 → ρ1 lp = some b → DRL ρ1 mark mark' →
        (Instr.enterLoop fr.fn fr.tmps ps as bd fr.roundOf).run P w = .ok (b.block, mark') w1 → ResOK P G M ρ h w f0 base (lone fr crs w) (enterRF2 P (.mk fi de cs R) tm k h1 lp mark (ev g tm)) := by
      intro ρ1 h1 w1 lp b mark mark' s1 g1 hlp hmark hrun
      have hv : VR ρ1 (ev g tm) (fr.eval g) := eval_rel (hs.top.tmps.mono g1.keep) g
      have hy : VRL ρ1 [.yld lp] (#[Value.func (.yield b.block) #[] #[]] : Array Value).toList := .cons (.yld hlp) .nil
      have hcall := callV_ok s1 hv hy
      unfold enterRF2
      cases hiv : isVal (callV (ev g tm) P h1 [.yld lp]) with
      | true => exact .bad
      | false =>
        simp only []
        change ResOK P G M ρ h w f0 base _ (effE (callV (ev g tm) P h1 [.yld lp]) P fi tm (.inRF lp :: k) (appD mark de) cs h1)
        rw [appD_eq]
        have hs1 : SR ρ1 f0 base (.mk fi tm (.inRF lp :: k) (mark ++ de) .run) cs { fr with todo := .inRangeFunc b.block :: kt, defers := mark' ++ fr.defers } crs :=
          hs.re g1.keep (f' := .mk fi tm (.inRF lp :: k) (mark ++ de) .run) ⟨by have := hs.top.fi.mono g1.keep; cases fi; exact this, hs.top.tmps.mono g1.keep, .cons (.inRF hlp) (hk.mono g1.keep (Nat.le_refl _)), hmark.append (hs.top.defers.mono g1.keep), hs.top.mode.mono g1.keep⟩ rfl
        refine (apply_ok s1 hs1 hcall (fr0 := fr) (w0 := w) ?_).after (.refl _ _) g1
        have hm := hs.mode
        clear hs1 hs hcall s1 g1 hv hk s
        obtain ⟨fn', tmps', todo', defers', mode', kind', ro'⟩ := fr
        simp only at hm hft hrun
        subst hm hft
        have hq : ∀ v : Value, resolve (Frame.eval { fn := fn', tmps := tmps', todo := .inRangeFunc b.block :: kt, defers := mark' ++ defers', mode := .run, kind := kind', roundOf := ro' }) { callee := .value g, args := #[.const v], argTypes := #[] } 0 =
            Deferred.ofValue (Frame.eval { fn := fn', tmps := tmps', todo := .code (.rangeFunc g ps as bd) :: kt, defers := defers', mode := .run, kind := kind', roundOf := ro' } g) #[v] := by
          intro v; cases g <;> simp [resolve, Frame.eval]
        simp only [stepG, stepG.exec, Sem.runT_eq, hrun, GStep.bare_after, hq]
    obtain ⟨fn, kind, ro⟩ := fi
    obtain ⟨hfn, hkd, hro⟩ := hs.top.fi
    have hor : ∀ {ρ' : Env} {bd' b : Loc} {d : Pa}, Env.le ρ ρ' → ρ' d = some bd' → OR P ρ' (.loop .ready none fn tm ps as bd d) b (some (.loop { state := .ready, pending := none, fn := fr.fn, tmps := fr.tmps, params := ps, assign := as, body := bd, defers := bd'.block })) := by
      intro ρ' bd' b d hle hd
      rw [hfn]
      exact .loop (hs.top.tmps.mono hle) c1 c2 c3 (fun c e => by cases e) hd
    cases ro with
    | some l =>
      obtain ⟨bl, hbl, hrl⟩ := hro
      unfold enterRF1
      simp only []
      cases ho : hget h l with
      | loop st pend fn' tms ps' as' bd' d =>
        simp only []
        rw [newR_eq]
        obtain ⟨ts, bdl, hkl, _, _, _, _, _, hd⟩ := obj_loop s hbl ho
        let b : Loc := ⟨w.heap.size, 0, 0, 0⟩
        have hle : Env.le ρ (ρ.put (nOf h) b) := Env.put_le b s.none_at
        obtain ⟨s1, g1⟩ := s.alloc (b := b) (ob := .loop .ready none fn tm ps as bd d) rfl (hor hle (hle _ _ hd))
        refine key (b := b) (mark' := []) s1 g1 (Env.put_self _ _ _) .nil ?_
        have hget := run_getIter (P := P) hkl (by intros; simp)
        simp only [Instr.enterLoop, hrl, Instr.getLoop, Sem.run_bind, hget, Result.andThen_ok, Sem.run_pure, run_newObj]
        rfl
      | _ => exact .bad
    | none =>
      have hro : fr.roundOf = none := hro
      show ResOK P G M ρ h w f0 base _ (newR h (.deferred (some [])) fun d h => newR h (.loop .ready none fn tm ps as bd d) fun l h => enterRF2 P (.mk (.mk fn kind none) de cs R) tm k h l [.collected d] (ev g tm))
      rw [newR_eq, newR_eq]
      let b0 : Loc := ⟨w.heap.size, 0, 0, 0⟩
      have hle0 : Env.le ρ (ρ.put (nOf h) b0) := Env.put_le b0 s.none_at
      obtain ⟨s0, g0⟩ := s.alloc (b := b0) (ob := .deferred (some [])) (obj := .deferred (some [])) rfl (.defS .nil)
      let w1 : World := { w with heap := w.heap.push (.deferred (some [])) }
      let b : Loc := ⟨w1.heap.size, 0, 0, 0⟩
      have hle : Env.le (ρ.put (nOf h) b0) ((ρ.put (nOf h) b0).put (nOf (hpush h (.deferred (some [])))) b) := Env.put_le b s0.none_at
      obtain ⟨s1, g1⟩ := s0.alloc (b := b) (ob := .loop .ready none fn tm ps as bd (nOf h)) rfl (hor (bd' := b0) (hle0.trans hle) (hle _ _ (Env.put_self _ _ _)))
      refine key (b := b) (mark' := [{ target := .collected b0.block, args := #[] }]) s1 (g0.trans g1) (Env.put_self _ _ _) (.cons (.collected (hle _ _ (Env.put_self _ _ _))) .nil) ?_
      simp only [Instr.enterLoop, hro, Sem.run_bind, Result.andThen_ok, Sem.run_pure, run_newObj]
      rfl
end
end Go.Play
