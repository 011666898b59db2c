/- Play: code; a step; a run. -/
import Derived.Test.YteoegpkfdbcklaaGreatDoorPlayS
namespace Go.Play
set_option linter.unusedVariables false
set_option linter.unusedSimpArgs false

section
variable {P : Program} {G : Glob} {M : Nat → Prop} {ρ ρ1 : Env} {h h1 : H} {w w1 : World} {f0 : FuncId} {base : List Frame}

/-- One real step to another list of what is to do. -/
theorem to_ok {fi : FI} {tm : T SV} {todo todo' : List SI} {de : List SDef} {cs : List SF} {fr : Frame} {crs : List Frame} (hs : SR ρ f0 base (.mk fi tm todo de .run) cs fr crs) {k : List Item} (hk : IL ρ fr.tmps.size todo' k)
    (hst : fr.mode = .run → Go.step P (lone fr crs w) = .next (lone { fr with todo := k } crs w)) {r : Res}
    (hr : SR ρ f0 base (.mk fi tm todo' de .run) cs { fr with todo := k } crs → ResOK P G M ρ h w f0 base (lone { fr with todo := k } crs w) r) : ResOK P G M ρ h w f0 base (lone fr crs w) r :=
  ResOK.steps (.one (hst hs.mode)) (hr (hs.to hk))
theorem exitR_ok (s : Sim P G M ρ h w) (R : RunF) {fi : FI} {tm : T SV} {c : Code} {k : List SI} {de : List SDef} {cs : List SF} {fr : Frame} {crs : List Frame} {kt : List Item}
    (hs : SR ρ f0 base (.mk fi tm (.code c :: k) de .run) cs fr crs) (hft : fr.todo = .code c :: kt) (hj : ∀ n, okCode c n = true) {o : Option (List SI)} {o' : Option (List Item)}
    (ho : match o with | none => o' = none | some l' => ∃ k', o' = some k' ∧ IL ρ fr.tmps.size l' k')
    (hgo : ∀ k', o' = some k' → Go.step P (lone fr crs w) = .next (lone { fr with todo := k' } crs w))
    (hne : isRet (some c) = false)
    (hrd : o' = none → ∀ l v w', fr.roundOf = some l → (Instr.endRound l (some c)).run P w = .ok v w' → (stepG P true { frame := fr, callers := crs, status := .running, dying := none } w).bare = (doReturn P true fr crs none v w').bare) :
    ResOK P G M ρ h w f0 base (lone fr crs w) (exitR o P G (.mk fi de cs R) tm (.code c :: k) h c) := by
  cases o with
  | none =>
    change ResOK P G M ρ h w f0 base _ (leave fi P G tm (.code c :: k) de cs h (some c))
    exact leave_ok s hs (some c) (fun c' e => by cases e; exact hj) (fun e => by rw [hne] at e; cases e) (hrd ho)
  | some l' =>
    obtain ⟨k', hk', hl⟩ := ho
    exact to_ok hs hl (fun _ => hgo k' hk') fun hs' => nextB_ok s R hs'
theorem stepCode_ok {R : RunF} (hf0 : ∃ fn, P.funcs[f0]? = some fn) (hR : DrawOK P G R) {fi : FI} {de : List SDef} {cs : List SF} : ∀ (c : Code) {ρ : Env} {tm : T SV} {h : H} {w : World} {k : List SI} {fr : Frame} {crs : List Frame}, Sim P G M ρ h w →
    SR ρ f0 base (.mk fi tm (.code c :: k) de .run) cs fr crs → ResOK P G M ρ h w f0 base (lone fr crs w) (stepCode c P G (.mk fi de cs R) tm k h) := by
  intro c
  induction c with
  | skip =>
    intro ρ tm h w k fr crs s hs
    obtain ⟨it, kt, hft, hi, hk⟩ := todo_cons hs.top.todo
    cases hi with
    | code hc => exact to_ok hs hk (fun hm => step_lone_go (by simp [stepG, hm, stepG.exec, hft])) fun hs' => nextB_ok s R hs'
  | region id ops draw =>
    intro ρ tm h w k fr crs s hs
    cases draw with
    | true => exact hR M ρ h w f0 base fi tm id ops k de cs fr crs hf0 s hs
    | false =>
      obtain ⟨it, kt, hft, hi, hk⟩ := todo_cons hs.top.todo
      cases hi with
      | code hc =>
        have hl : (List.range ops.size).map (ops[·]?) = ops.toList.map some := by
          apply List.ext_getElem?
          intro i
          by_cases hi : i < ops.size
          · simp [hi]
          · simp [hi, Nat.not_lt.1 hi]
        exact to_ok hs (todo' := .inReg ops ops.toList :: k) (.cons (.inReg hl hc) hk) (fun hm => step_lone_go (by simp [stepG, hm, stepG.exec, hft])) fun hs' => runOps_ok R ops.toList s hs'
  | seq a b iha ihb =>
    intro ρ tm h w k fr crs s hs
    obtain ⟨it, kt, hft, hi, hk⟩ := todo_cons hs.top.todo
    cases hi with
    | code hc =>
      rw [okCode_seq, Bool.and_eq_true] at hc
      exact to_ok hs (todo' := .code a :: .code b :: k) (.cons (.code hc.1) (.cons (.code hc.2) hk)) (fun hm => step_lone_go (by simp [stepG, hm, stepG.exec, hft])) fun hs' => iha s hs'
  | cond x a b iha ihb =>
    intro ρ tm h w k fr crs s hs
    obtain ⟨it, kt, hft, hi, hk⟩ := todo_cons hs.top.todo
    cases hi with
    | code hc =>
      rw [okCode_cond, Bool.and_eq_true] at hc
      change ResOK P G M ρ h w f0 base _ (condV (ev x tm) fun t => condB t (stepCode a) (stepCode b) P G (.mk fi de cs R) tm k h)
      have hv := eval_rel hs.top.tmps x
      generalize hev : ev x tm = v at hv
      cases v with
      | lit y =>
        generalize hfe : fr.eval x = y' at hv
        cases hv
        cases y with
        | bool t =>
          cases t with
          | true => exact to_ok hs (todo' := .code a :: k) (.cons (.code hc.1) hk) (fun hm => step_lone_go (by simp [stepG, hm, stepG.exec, hft, hfe])) fun hs' => iha s hs'
          | false => exact to_ok hs (todo' := .code b :: k) (.cons (.code hc.2) hk) (fun hm => step_lone_go (by simp [stepG, hm, stepG.exec, hft, hfe])) fun hs' => ihb s hs'
        | _ => exact .bad
      | _ => exact .bad
  | block id a ih =>
    intro ρ tm h w k fr crs s hs
    obtain ⟨it, kt, hft, hi, hk⟩ := todo_cons hs.top.todo
    cases hi with
    | code hc => exact to_ok hs (todo' := .code a :: .inBlock id :: k) (.cons (.code hc) (.cons (.inBlock id) hk)) (fun hm => step_lone_go (by simp [stepG, hm, stepG.exec, hft])) fun hs' => ih s hs'
  | loop a ih =>
    intro ρ tm h w k fr crs s hs
    obtain ⟨it, kt, hft, hi, hk⟩ := todo_cons hs.top.todo
    cases hi with
    | code hc => exact to_ok hs (todo' := .code a :: .inLoop a :: k) (.cons (.code hc) (.cons (.inLoop hc) hk)) (fun hm => step_lone_go (by simp [stepG, hm, stepG.exec, hft])) fun hs' => ih s hs'
  | rangeFunc g ps a b iha ihb =>
    intro ρ tm h w k fr crs s hs
    exact enterRF_ok R s hs
  | exit id =>
    intro ρ tm h w k fr crs s hs
    obtain ⟨it, kt, hft, hi, hk⟩ := todo_cons hs.top.todo
    cases hi with
    | code hc =>
      have hm := hs.mode
      exact exitR_ok s R hs hft (fun _ => rfl) (exit_ok hk) (fun k' e => step_lone_go (by simp [stepG, hm, stepG.exec, hft, e])) rfl
        (fun e l v w' hr hrun => by simp only [stepG, hm, stepG.exec, hft, e, Option.elim, hr, Sem.runT_eq, hrun, GStep.bare_after])
  | scope a ih =>
    intro ρ tm h w k fr crs s hs
    obtain ⟨it, kt, hft, hi, hk⟩ := todo_cons hs.top.todo
    cases hi with
    | code hc => exact to_ok hs (todo' := .code a :: .inScope a :: k) (.cons (.code hc) (.cons (.inScope hc) hk)) (fun hm => step_lone_go (by simp [stepG, hm, stepG.exec, hft])) fun hs' => ih s hs'
  | label l =>
    intro ρ tm h w k fr crs s hs
    obtain ⟨it, kt, hft, hi, hk⟩ := todo_cons hs.top.todo
    cases hi with
    | code hc => exact to_ok hs hk (fun hm => step_lone_go (by simp [stepG, hm, stepG.exec, hft])) fun hs' => nextB_ok s R hs'
  | goto l =>
    intro ρ tm h w k fr crs s hs
    obtain ⟨it, kt, hft, hi, hk⟩ := todo_cons hs.top.todo
    cases hi with
    | code hc =>
      have hm := hs.mode
      exact exitR_ok s R hs hft (fun _ => rfl) (goto_ok hk) (fun k' e => step_lone_go (by simp [stepG, hm, stepG.exec, hft, e])) rfl
        (fun e l v w' hr hrun => by simp only [stepG, hm, stepG.exec, hft, e, Option.elim, hr, Sem.runT_eq, hrun, GStep.bare_after])
  | ret =>
    intro ρ tm h w k fr crs s hs
    obtain ⟨it, kt, hft, hi, hk⟩ := todo_cons hs.top.todo
    cases hi with
    | code hc =>
      have hm := hs.mode
      change ResOK P G M ρ h w f0 base _ (leave fi P G tm (.code .ret :: k) de cs h (some .ret))
      exact leave_ok s hs (some .ret) (fun c e => by cases e; exact fun _ => rfl) (fun _ hr => step_lone_go (by simp [stepG, hm, stepG.exec, hft, hr]))
        (fun l v w' hr hrun => by simp only [stepG, hm, stepG.exec, hft, hr, Sem.runT_eq, hrun, GStep.bare_after])
  | refuse why => intro ρ tm h w k fr crs s hs; exact .bad

theorem endRF_ok (s : Sim P G M ρ h w) (R : RunF) {fi : FI} {tm : T SV} {l : Pa} {k : List SI} {de : List SDef} {cs : List SF} {fr : Frame} {crs : List Frame}
    (hs : SR ρ f0 base (.mk fi tm (.endRF l :: k) de .run) cs fr crs) : ResOK P G M ρ h w f0 base (lone fr crs w) (endRF (hget h l) l (.mk fi de cs R) tm k h) := by
  obtain ⟨it, kt, hft, hi, hk⟩ := todo_cons hs.top.todo
  cases hi with
  | @endRF _ b hb =>
    have hm := hs.mode
    cases ho : hget h l with
    | loop st pend fn tms ps as bd d =>
      obtain ⟨ts, bd', hk', q1, q2, q3, q4, q5, q6⟩ := obj_loop s hb ho
      have key : st ≠ .busy → ResOK P G M ρ h w f0 base (lone fr crs w) (putR h l (.loop .exhausted pend fn tms ps as bd d) fun h => nextB (.mk fi de cs R) tm (pendK pend k) h) := by
        intro hst
        rw [putR_eq]
        let nb : Obj := .loop { state := .exhausted, pending := pend, fn := fn, tmps := ts, params := ps, assign := as, body := bd, defers := bd'.block }
        have ht := turn_setMap (nb := nb) hk'
        obtain ⟨s2, g2⟩ := s.put (ob := .loop .exhausted pend fn tms ps as bd d) hb (by rw [ho]; rfl) ht.os ht.tape ht.output ht.size ht.other (by rw [ht.here]; exact .loop q1 q2 q3 q4 q5 q6)
        have hrun : (Instr.endLoop b.block).run P w = .ok pend { w with heap := w.heap.setIfInBounds b.block nb } := by
          have hget := run_getIter (P := P) hk' (by intros; simp)
          have hset := run_setIter (P := P) (nb := nb) hk' (by intros; simp)
          have hb : (st == LoopState.busy) = false := by cases st <;> first | rfl | exact absurd rfl hst
          simp only [Instr.endLoop, Instr.getLoop, Sem.run_bind, hget, Result.andThen_ok, Sem.run_pure, hb, Bool.false_eq_true, if_false]
          show Result.andThen ((setObj b.block nb).run P w) _ = _
          rw [hset]; rfl
        have hpk : IL ρ fr.tmps.size (pendK pend k) ((pend.map Item.code).toList ++ kt) := by
          cases pend with
          | none => exact hk
          | some c => exact .cons (.code (q5 c rfl _)) hk
        have hst : Go.step P (lone fr crs w) = .next (lone { fr with todo := (pend.map Item.code).toList ++ kt } crs { w with heap := w.heap.setIfInBounds b.block nb }) :=
          step_lone_go (by simp only [stepG, hm, stepG.exec, hft, Sem.runT_eq, hrun, GStep.bare_after]; rfl)
        exact (nextB_ok s2 R (hs.to hpk)).after (.one hst) g2
      cases st with
      | busy => exact .bad
      | _ => exact key (by simp)
    | _ => exact .bad
theorem beginR_ok (s : Sim P G M ρ h w) (R : RunF) {fi : FI} {tm : T SV} {k : List SI} {de : List SDef} {cs : List SF} {fr : Frame} {crs : List Frame}
    (hs : SR ρ f0 base (.mk fi tm (.beginRound :: k) de .run) cs fr crs) : ResOK P G M ρ h w f0 base (lone fr crs w) (beginR (roOf fi) (.mk fi de cs R) tm k h) := by
  obtain ⟨it, kt, hft, hi, hk⟩ := todo_cons hs.top.todo
  have hm := hs.mode
  cases hi with
  | beginRound =>
    have hro : RoR ρ (roOf fi) fr.roundOf := by have := hs.top.fi; cases fi; exact this.2.2
    cases hq : roOf fi with
    | none => exact .bad
    | some l =>
      rw [hq] at hro
      obtain ⟨b, hb, hrl⟩ := hro
      show ResOK P G M ρ h w f0 base _ (beginR2 (hget h l) l (.mk fi de cs R) tm k h)
      cases ho : hget h l with
      | loop st pend fn tms ps as bd d =>
        cases st with
        | ready =>
          obtain ⟨ts, bd', hk', q1, q2, q3, q4, q5, q6⟩ := obj_loop s hb ho
          change ResOK P G M ρ h w f0 base _ (putR h l (.loop .busy pend fn tms ps as bd d) fun h => nextB (.mk fi de cs R) tm k h)
          rw [putR_eq]
          let nb : Obj := .loop { state := .busy, pending := pend, fn := fn, tmps := ts, params := ps, assign := as, body := bd, defers := bd'.block }
          have ht := turn_setMap (nb := nb) hk'
          obtain ⟨s2, g2⟩ := s.put (ob := .loop .busy pend fn tms ps as bd d) hb (by rw [ho]; rfl) ht.os ht.tape ht.output ht.size ht.other (by rw [ht.here]; exact .loop q1 q2 q3 q4 q5 q6)
          have hrun : (Instr.beginRound b.block).run P w = .ok () { w with heap := w.heap.setIfInBounds b.block nb } := by
            have hget := run_getIter (P := P) hk' (by intros; simp)
            have hset := run_setIter (P := P) (nb := nb) hk' (by intros; simp)
            simp only [Instr.beginRound, Instr.getLoop, Sem.run_bind, hget, Result.andThen_ok, Sem.run_pure]
            show Result.andThen ((setObj b.block nb).run P w) _ = _
            rw [hset]; rfl
          have hrun2 : ((do fr.roundOf.elim (stuck "beginRound: no round") Instr.beginRound; pure Next.skip : Sem Next)).run P w = .ok .skip { w with heap := w.heap.setIfInBounds b.block nb } := by
            rw [hrl]
            simp only [Option.elim, Sem.run_bind, hrun, Result.andThen_ok, Sem.run_pure]
          have hst : Go.step P (lone fr crs w) = .next (lone { fr with todo := kt } crs { w with heap := w.heap.setIfInBounds b.block nb }) := by
            refine step_lone_go ?_
            have hfin : fr.finish undef = { fr with todo := kt } := by simp only [Frame.finish, hft]
            simp only [stepG, hm, stepG.exec, hft, stepG.apply, Sem.runT_eq, hrun2, GStep.bare_after, if_true]
            rw [hfin]; simp only [hm]; rfl
          exact (nextB_ok s2 R (hs.to hk)).after (.one hst) g2
        | _ => exact .bad
      | _ => exact .bad
theorem stepItem_ok {R : RunF} (hf0 : ∃ fn, P.funcs[f0]? = some fn) (hR : DrawOK P G R) (s : Sim P G M ρ h w) {fi : FI} {tm : T SV} {i : SI} {k : List SI} {de : List SDef} {cs : List SF} {fr : Frame} {crs : List Frame}
    (hs : SR ρ f0 base (.mk fi tm (i :: k) de .run) cs fr crs) : ResOK P G M ρ h w f0 base (lone fr crs w) (stepItem i P G (.mk fi de cs R) tm k h) := by
  obtain ⟨it, kt, hft, hi, hk⟩ := todo_cons hs.top.todo
  cases i with
  | code c => exact stepCode_ok hf0 hR c s hs
  | inReg ops l => exact runOps_ok R l s hs
  | inBlock id => cases hi; exact to_ok hs hk (fun hm => step_lone_go (by simp [stepG, hm, stepG.exec, hft])) fun hs' => nextB_ok s R hs'
  | inScope c => cases hi; exact to_ok hs hk (fun hm => step_lone_go (by simp [stepG, hm, stepG.exec, hft])) fun hs' => nextB_ok s R hs'
  | inLoop c =>
    cases hi with
    | inLoop hc => exact to_ok hs (todo' := .code c :: .inLoop c :: k) (.cons (.code hc) (.cons (.inLoop hc) hk)) (fun hm => step_lone_go (by simp [stepG, hm, stepG.exec, hft])) fun hs' => stepCode_ok hf0 hR c s hs'
  | inRF l => exact .bad
  | endRF l => exact endRF_ok s R hs
  | beginRound => exact beginR_ok s R hs
theorem step_ok {R : RunF} (hf0 : ∃ fn, P.funcs[f0]? = some fn) (hR : DrawOK P G R) (s : Sim P G M ρ h w) {f : SF} {cs : List SF} {fr : Frame} {crs : List Frame} (hs : SR ρ f0 base f cs fr crs) :
    ResOK P G M ρ h w f0 base (lone fr crs w) (step f R P G cs h) := by
  obtain ⟨fi, tm, todo, de, mode⟩ := f
  cases mode with
  | run =>
    show ResOK P G M ρ h w f0 base _ (stepRun todo P G (.mk fi de cs R) tm h)
    cases todo with
    | nil =>
      change ResOK P G M ρ h w f0 base _ (leave fi P G tm [] de cs h none)
      have hm := hs.mode
      have hft : fr.todo = [] := by have := hs.top.todo; generalize fr.todo = ft at this; cases this; rfl
      exact leave_ok s hs none (fun c e => by cases e) (fun _ hr => step_lone_go (by simp [stepG, hm, stepG.exec, hft, hr]))
        (fun l v w' hr hrun => by simp only [stepG, hm, stepG.exec, hft, hr, Sem.runT_eq, hrun, GStep.bare_after])
    | cons i k => exact stepItem_ok hf0 hR s hs
  | ret => exact unwindS_ok s hf0 (by simp) hs
  | pan chain => exact unwindS_ok s hf0 (by simp) hs
/-- A run, whose regions that draw their order are sound. -/
theorem runF_ok (hD : ∀ R, RunOK P G R → DrawOK P G R) : ∀ n, RunOK P G (runF P G n) := by
  intro n
  induction n with
  | zero => intro M ρ h w f0 base f cs fr crs hf0 s hs; exact .here s hs
  | succ n ih =>
    intro M ρ h w f0 base f cs fr crs hf0 s hs
    have h1 := step_ok hf0 (hD _ ih) s hs
    show ResOK P G M ρ h w f0 base _ (runR (step f (runF P G n) P G cs h) (runF P G n))
    generalize step f (runF P G n) P G cs h = r at h1
    cases r with
    | next f' cs' h' =>
      obtain ⟨ρ', w', fr', crs', k1, k2, k3, k4⟩ := h1
      exact (ih M ρ' h' w' f0 base f' cs' fr' crs' hf0 k3 k2).after k1 k4
    | _ => exact h1
end
end Go.Play
