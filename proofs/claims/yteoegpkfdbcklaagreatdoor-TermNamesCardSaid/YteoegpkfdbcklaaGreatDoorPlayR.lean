/- Play: returns, deferred calls, panics; the operations of a region in their order. -/
import Derived.Test.YteoegpkfdbcklaaGreatDoorPlayQ
namespace Go.Play
set_option linter.unusedVariables false
set_option linter.unusedSimpArgs false

section
variable {P : Program} {G : Glob} {M : Nat → Prop} {ρ ρ1 : Env} {h h1 : H} {w w1 : World} {f0 : FuncId} {base : List Frame}

-- results
theorem resultV_ok (s : Sim P G M ρ h w) {tm : T SV} {ts : Array Value} (ht : TR ρ tm ts) {r : ResultVar} {v : SV} (hr : resultV r P G h tm = some v) :
    ∃ x, ((match r with | .tmp t => pure (ts.getD t undef) | .cell a t => do loadVar t (← asAddr (ts.getD a undef))) : Sem Value).run P w = .ok x w ∧ VR ρ v x := by
  cases r with
  | tmp t => cases hr; exact ⟨_, rfl, ht t⟩
  | cell a t =>
    change resultC (loadN (sizeO P t) (sget (pa a) tm) G h) (aggT P t) = some v at hr
    cases hn : sizeO P t with
    | none => rw [hn] at hr; cases hr
    | some n =>
      rw [hn] at hr
      change resultC (loadC (sget (pa a) tm) G h n) (aggT P t) = some v at hr
      cases hl : loadC (sget (pa a) tm) G h n with
      | none => rw [hl] at hr; cases hr
      | some l =>
        rw [hl] at hr
        change mkVal (aggT P t) l = some v at hr
        obtain ⟨bk, o, hx0, xs, hlen, hrel, hx⟩ := load_cells s (ht a) hl
        cases hb : aggT P t with
        | none => rw [hb] at hr; cases hr
        | some b =>
          rw [hb] at hr
          have hrun := run_loadAt (P := P) (w := w) (bk := bk) (o := o) (xs := xs) hb (by rw [hlen]; exact hn) hx
          have hadr : ∀ {α : Type} (k : Addr → Sem α), ((asAddr (ts.getD a undef)) >>= k).run P w = (k ⟨bk, o, none⟩).run P w := by
            intro α k
            rw [hx0]; rfl
          rcases mkVal_rel hrel hr with ⟨rfl, hv⟩ | ⟨rfl, x, rfl, hv⟩
          · exact ⟨_, by simp only []; rw [hadr]; exact hrun.1 rfl, hv⟩
          · exact ⟨_, by simp only []; rw [hadr]; exact hrun.2 rfl x rfl, hv⟩
theorem resultsL_ok (s : Sim P G M ρ h w) {tm : T SV} {ts : Array Value} (ht : TR ρ tm ts) : ∀ (l : List ResultVar) {vs : List SV}, resultsL l P G h tm = some vs →
    ∃ xs : List Value, (l.mapM (fun r => (match r with | .tmp t => pure (ts.getD t undef) | .cell a t => do loadVar t (← asAddr (ts.getD a undef)) : Sem Value))).run P w = .ok xs w ∧ VRL ρ vs xs := by
  intro l
  induction l with
  | nil => intro vs hv; cases hv; exact ⟨[], rfl, .nil⟩
  | cons r l ih =>
    intro vs hv
    change consO2 (resultV r P G h tm) (resultsL l P G h tm) = some vs at hv
    cases h1 : resultV r P G h tm with
    | none => rw [h1] at hv; cases hv
    | some v =>
      rw [h1] at hv
      change consS (resultsL l P G h tm) v = some vs at hv
      cases h2 : resultsL l P G h tm with
      | none => rw [h2] at hv; cases hv
      | some us =>
        rw [h2] at hv
        cases hv
        obtain ⟨x, hx, hvx⟩ := resultV_ok s ht h1
        obtain ⟨xs, hxs, hrel⟩ := ih h2
        refine ⟨x :: xs, ?_, .cons hvx hrel⟩
        rw [List.mapM_cons]
        simp only [Sem.run_bind, hx, Result.andThen_ok, hxs, Sem.run_pure]
theorem results_ok (s : Sim P G M ρ h w) {tm : T SV} {ts : Array Value} (ht : TR ρ tm ts) {fn : FuncId} {v : SV} (hv : results1 (funcO P fn) P G h tm = some v) :
    ∃ f x, P.funcs[fn]? = some f ∧ (results f ts).run P w = .ok x w ∧ VR ρ v x := by
  cases hf : funcO P fn with
  | none => rw [hf] at hv; cases hv
  | some f =>
    rw [hf] at hv
    change tupO (resultsL f.results.toList P G h tm) = some v at hv
    cases hl : resultsL f.results.toList P G h tm with
    | none => rw [hl] at hv; cases hv
    | some vs =>
      rw [hl] at hv
      cases hv
      obtain ⟨xs, hxs, hrel⟩ := resultsL_ok s ht _ hl
      rw [funcO_eq] at hf
      have hm : (f.results.mapM (fun r => (match r with | .tmp t => pure (ts.getD t undef) | .cell a t => do loadVar t (← asAddr (ts.getD a undef)) : Sem Value))).run P w = .ok xs.toArray w := by
        rw [Array.mapM_eq_mapM_toList]
        simp only [Sem.run_map, hxs, Result.andThen_ok]
      refine ⟨f, if hz : xs.toArray.size = 1 then xs.toArray[0] else .tuple xs.toArray, hf, ?_, ?_⟩
      · unfold results
        simp only [Sem.run_bind]
        refine (congrArg (fun r => Result.andThen r _) hm).trans ?_
        rfl
      · cases hrel with
        | nil => exact .tup .nil
        | cons h1 t =>
          cases t with
          | nil => exact h1
          | cons h2 t => rw [dif_neg (by simp)]; exact .tup (.cons h1 (.cons h2 t))

-- returns
theorem SR.inv {f : SF} {cs : List SF} {fr : Frame} {crs : List Frame} (hs : SR ρ f0 base f cs fr crs) :
    (cs = [] ∧ crs = base ∧ fiOf f = .mk f0 .normal none) ∨ ∃ g cs' gr crs', cs = g :: cs' ∧ crs = gr :: crs' ∧ SR ρ f0 base g cs' gr crs' := by
  cases hs with
  | last _ hf => exact .inl ⟨rfl, rfl, hf⟩
  | cons _ t => exact .inr ⟨_, _, _, _, rfl, rfl, t⟩
theorem bare_doReturn {fr cr : Frame} {crs : List Frame} {x : Value} : (doReturn P true fr (cr :: crs) none x w).bare = doReturn P true fr (cr :: crs) none x w := by
  unfold doReturn
  cases fr.kind <;> rfl
theorem doReturn_ok (s : Sim P G M ρ h w) {kind : CallKind} {fr : Frame} (hk : fr.kind = kind) {c : SF} {rest : List SF} {cr : Frame} {crs : List Frame} (t : SR ρ f0 base c rest cr crs) {v : SV} {x : Value} (hv : VR ρ v x)
    {fr0 : Frame} {w0 : World} (hgo : (stepG P true { frame := fr0, callers := cr :: crs, status := .running, dying := none } w0).bare = (doReturn P true fr (cr :: crs) none x w).bare) :
    ResOK P G M ρ h w f0 base (lone fr0 (cr :: crs) w0) (doReturn2 kind c rest v h) := by
  cases kind with
  | normal =>
    refine finish_ok t.top hv .bad fun f' hf' hfi => ?_
    refine ⟨ρ, w, _, _, .one (step_lone_go ?_), t.re (.refl _) hf' hfi, s, .refl⟩
    rw [hgo, bare_doReturn]; simp only [doReturn, hk]
  | deferred =>
    change ResOK P G M ρ h w f0 base _ (retDeferred c rest h)
    obtain ⟨fi, tm, todo, de, mode⟩ := c
    have hc := t.top
    have hm := hc.mode
    generalize hmm : cr.mode = cm at hm
    have hfi : ∀ m, FIR ρ fi { cr with mode := m } := by have := hc.fi; cases fi; exact fun _ => this
    cases hm with
    | run => exact .bad
    | ret =>
      change ResOK P G M ρ h w f0 base _ (.next (.mk fi tm todo de .ret) rest h)
      refine ⟨ρ, w, cr, crs, .one (step_lone_go ?_), t, s, .refl⟩
      rw [hgo, bare_doReturn]; simp only [doReturn, hk, hmm]
    | pan hcr =>
      cases hcr with
      | nil =>
        change ResOK P G M ρ h w f0 base _ (.next (.mk fi tm todo de (.pan [])) rest h)
        refine ⟨ρ, w, cr, crs, .one (step_lone_go ?_), t, s, .refl⟩
        rw [hgo, bare_doReturn]; simp only [doReturn, hk, hmm]
      | @cons u y r l es hu ht =>
        cases r with
        | false =>
          change ResOK P G M ρ h w f0 base _ (.next (.mk fi tm todo de (.pan ((u, false) :: l))) rest h)
          refine ⟨ρ, w, cr, crs, .one (step_lone_go ?_), t, s, .refl⟩
          rw [hgo, bare_doReturn]; simp only [doReturn, hk, hmm]
        | true =>
          change ResOK P G M ρ h w f0 base _ (.next (.mk fi tm todo de .ret) rest h)
          have hdrop : es.dropWhile (fun e => !e.goexit) = [] := by
            have hq := ht.quiet
            clear ht hmm hgo
            induction es with
            | nil => rfl
            | cons e es ih =>
              rw [List.dropWhile_cons, hq e (by simp)]
              simpa using ih fun e' he' => hq e' (by simp [he'])
          refine ⟨ρ, w, { cr with mode := .returning }, crs, .one (step_lone_go ?_), t.re (.refl _) ⟨hfi _, hc.tmps, hc.todo, hc.defers, .ret⟩ rfl, s, .refl⟩
          rw [hgo, bare_doReturn]; simp only [doReturn, hk, hmm, hdrop]
  | _ => exact .bad
theorem stepG_return {fr : Frame} {crs : List Frame} (hm : fr.mode = .returning) (hd : fr.defers = []) {fn : Func} (hf : P.funcs[fr.fn]? = some fn) {x : Value} (hr : (results fn fr.tmps).run P w = .ok x w) :
    (stepG P true { frame := fr, callers := crs, status := .running, dying := none } w).bare = (doReturn P true fr crs none x w).bare := by
  simp [stepG, unwind, hm, hd, hf, hr]
/-- A frame that has no deferred call left returns. -/
theorem ret_ok (s : Sim P G M ρ h w) {fn : FuncId} {kind : CallKind} {tm : T SV} {todo : List SI} {cs : List SF} {fr : Frame} {crs : List Frame} (hs : SR ρ f0 base (.mk (.mk fn kind none) tm todo [] .ret) cs fr crs) :
    ResOK P G M ρ h w f0 base (lone fr crs w) (retO (results1 (funcO P fn) P G h tm) cs kind h) := by
  cases hv : results1 (funcO P fn) P G h tm with
  | none => exact .bad
  | some v =>
    have hf := hs.top
    obtain ⟨hfn, hk, _⟩ := hf.fi
    obtain ⟨f, x, h1, h2, h3⟩ := results_ok s hf.tmps hv
    rw [← hfn] at h1
    have hm : fr.mode = .returning := by have := hf.mode; generalize fr.mode = m at this; cases this; rfl
    have hd : fr.defers = [] := by have := hf.defers; generalize fr.defers = d at this; cases this; rfl
    have hgo := stepG_return (crs := crs) hm hd h1 h2
    change ResOK P G M ρ h w f0 base _ (doReturnS cs kind v h)
    rcases hs.inv with ⟨rfl, rfl, hfi⟩ | ⟨g, cs', gr, crs', rfl, rfl, t⟩
    · have hfi : FI.mk fn kind none = .mk f0 .normal none := hfi
      injection hfi with e1 e2
      subst e1 e2
      exact ⟨ρ, w, fr, x, .refl _ _, hfn, ⟨hm, hd, hk, f, h1, h2⟩, h3, s, .refl⟩
    · exact doReturn_ok s hk t h3 hgo
/-- A panic leaves a frame that has no deferred call left. -/
theorem unwindP_ok (s : Sim P G M ρ h w) (hf0 : ∃ fn, P.funcs[f0]? = some fn) {fi : FI} {tm : T SV} {todo : List SI} {chain : List (SV × Bool)} {cs : List SF} {fr : Frame} {crs : List Frame} (hs : SR ρ f0 base (.mk fi tm todo [] (.pan chain)) cs fr crs) :
    ResOK P G M ρ h w f0 base (lone fr crs w) (unwindP cs chain h) := by
  have hf := hs.top
  obtain ⟨es, hm, hc⟩ : ∃ es, fr.mode = .panicking es ∧ CR ρ chain es := by have := hf.mode; generalize fr.mode = m at this; cases this with | pan hc => exact ⟨_, rfl, hc⟩
  have hd : fr.defers = [] := by have := hf.defers; generalize fr.defers = d at this; cases this; rfl
  have hcat : fr.catches P = false := by
    have := hf.todo
    unfold Frame.catches
    generalize fr.todo = ft at this
    cases P.funcs[fr.fn]? with
    | some _ => rfl
    | none => cases this with
      | nil => rfl
      | cons hi _ => cases hi <;> rfl
  rcases hs.inv with ⟨rfl, rfl, hfi⟩ | ⟨g, cs', gr, crs', rfl, rfl, t⟩
  · have hfi : fi = .mk f0 .normal none := hfi
    subst hfi
    obtain ⟨hfn, hk, _⟩ := hf.fi
    exact ⟨ρ, w, fr, es, .refl _ _, hfn, ⟨hm, hd, by rw [hfn]; exact hf0⟩, hc, s, .refl⟩
  · obtain ⟨r1, r2⟩ := raise_ok t.top hc
    refine ⟨ρ, w, gr.raise es, crs', .one (step_lone_go ?_), t.re (.refl _) r1 r2, s, .refl⟩
    simp [stepG, unwind, hm, hd, hcat]

-- deferred calls
theorem obj_deferred (s : Sim P G M ρ h w) {o : Pa} {b : Loc} {l : List SDef} (hb : ρ o = some b) (ho : hget h o = .deferred (some l)) : ∃ m, w.heap[b.block]? = some (.deferred (some m)) ∧ DRL ρ l m := by
  have hlive := s.live o b hb
  rw [ho] at hlive
  cases hk : w.heap[b.block]? with
  | none => rw [hk] at hlive; cases hlive
  | some ob => rw [hk] at hlive; cases hlive with | defS h => exact ⟨_, rfl, h⟩
theorem unwindS_ok (s : Sim P G M ρ h w) (hf0 : ∃ fn, P.funcs[f0]? = some fn) {fi : FI} {tm : T SV} {todo : List SI} {de : List SDef} {mode : SMode} (hne : mode ≠ .run) {cs : List SF} {fr : Frame} {crs : List Frame} (hs : SR ρ f0 base (.mk fi tm todo de mode) cs fr crs) :
    ResOK P G M ρ h w f0 base (lone fr crs w) (unwindS de P G fi tm todo mode cs h) := by
  have hf := hs.top
  cases de with
  | nil =>
    change ResOK P G M ρ h w f0 base _ (unwind1 mode P G fi tm cs h)
    cases mode with
    | run => exact absurd rfl hne
    | ret =>
      change ResOK P G M ρ h w f0 base _ (unwind2 fi P G tm cs h)
      obtain ⟨fn, kind, ro⟩ := fi
      cases ro with
      | some l => exact .bad
      | none => exact ret_ok s hs
    | pan chain => exact unwindP_ok s hf0 hs
  | cons d ds =>
    change ResOK P G M ρ h w f0 base _ (unwindD d P fi tm todo ds mode cs h)
    have hfi : ∀ l, FIR ρ fi { fr with defers := l } := by have := hf.fi; cases fi; exact fun _ => this
    have hstep : ∃ d' ds', fr.defers = d' :: ds' ∧ DR ρ d d' ∧ DRL ρ ds ds' := by
      have := hf.defers
      generalize fr.defers = fd at this
      cases this with | cons h t => exact ⟨_, _, rfl, h, t⟩
    obtain ⟨d', ds', hfd, hd, hds⟩ := hstep
    have hun : stepG P true { frame := fr, callers := crs, status := .running, dying := none } w = unwind P true fr crs none w := by
      have hm := hf.mode
      generalize hmm : fr.mode = fm at hm
      cases hm with
      | run => exact absurd rfl hne
      | ret => simp only [stepG, hmm]
      | pan _ => simp only [stepG, hmm]
    cases d with
    | call f args =>
      change ResOK P G M ρ h w f0 base _ (ifR (plainF (funcO P f)) (enterK P f args .deferred fun f => .next f (.mk fi tm todo ds mode :: cs) h))
      cases hpl : plainF (funcO P f) with
      | false => exact .bad
      | true =>
        cases hd with
        | @call _ _ args' cap hl =>
          change ResOK P G M ρ h w f0 base _ (enterK P f args .deferred fun f => .next f (.mk fi tm todo ds mode :: cs) h)
          refine enter_ok hl .bad fun f' hf' hfi' hfn => ?_
          obtain ⟨fn, hfn, hbody⟩ := hfn
          have hname : (fn.name == "runtime.NumGoroutine") = false := by
            rw [funcO_eq, hfn] at hpl
            change notB (fn.name == "runtime.NumGoroutine") = true at hpl
            rw [notB_eq] at hpl
            simpa using hpl
          have hbody : fn.body.isNone = false := by cases hb : fn.body with
            | none => rw [hb] at hbody; cases hbody
            | some c => rfl
          have hinv : (invoke (.fn (.func f) cap) args').run P w = .ok (.enter f (args' ++ cap)) w := by
            simp only [invoke, callFunc, Sem.run_bind, run_program, Result.andThen_ok, hfn, hname, hbody, Bool.false_eq_true, if_false, Sem.run_pure]
          refine ⟨ρ, w, _, { fr with defers := ds' } :: crs, .one (step_lone_go ?_), .cons hf' (hs.re (.refl _) (f' := .mk fi tm todo ds mode) ⟨hfi _, hf.tmps, hf.todo, hds, hf.mode⟩ rfl), s, .refl⟩
          rw [hun]
          simp only [unwind, hfd]
          have hmm : fr.mode ≠ .run := by
            have hm := hf.mode
            intro e; rw [e] at hm; cases hm; exact hne rfl
          simp [callDeferred, Sem.runT_eq, hinv]
    | collected o =>
      change ResOK P G M ρ h w f0 base _ (collectE (hget h o) o fi tm todo ds mode cs h)
      cases ho : hget h o with
      | deferred l =>
        cases l with
        | none => exact .bad
        | some cl =>
          cases hd with
          | @collected _ b hb =>
            obtain ⟨m, hk, hm⟩ := obj_deferred s hb ho
            change ResOK P G M ρ h w f0 base _ (putR h o (.deferred none) fun h => .next (.mk fi tm todo (appD cl ds) mode) cs h)
            rw [putR_eq, appD_eq]
            have ht := turn_setMap (nb := .deferred none) hk
            obtain ⟨s2, g2⟩ := s.put (ob := .deferred none) hb (by rw [ho]; rfl) ht.os ht.tape ht.output ht.size ht.other (by rw [ht.here]; exact .defN)
            have hrun : (Instr.takeDeferred b.block).run P w = .ok m { w with heap := w.heap.setIfInBounds b.block (.deferred none) } := by
              have hget := run_getIter (P := P) hk (by intros; simp)
              have hset := run_setIter (P := P) (nb := .deferred none) hk (by intros; simp)
              simp only [Instr.takeDeferred, Sem.run_bind, hget, Result.andThen_ok, hset, Sem.run_pure]
            refine ⟨ρ, _, { fr with defers := m ++ ds' }, crs, .one (step_lone_go ?_), hs.re (.refl _) (f' := .mk fi tm todo (cl ++ ds) mode) ⟨hfi _, hf.tmps, hf.todo, hm.append hds, hf.mode⟩ rfl, s2, g2⟩
            rw [hun]
            simp only [unwind, hfd, Sem.runT_eq, hrun, GStep.bare_after]
            rfl
      | _ => exact .bad

-- leaving a frame
theorem leave_ok (s : Sim P G M ρ h w) {fi : FI} {tm : T SV} {todo : List SI} {de : List SDef} {cs : List SF} {fr : Frame} {crs : List Frame} (hs : SR ρ f0 base (.mk fi tm todo de .run) cs fr crs)
    (jump : Option Code) (hj : ∀ c, jump = some c → ∀ n, okCode c n = true)
    (hst : isRet jump = true → fr.roundOf = none → Go.step P (lone fr crs w) = .next (lone { fr with mode := .returning } crs w))
    (hrd : ∀ l v w', fr.roundOf = some l → (Instr.endRound l jump).run P w = .ok v w' → (stepG P true { frame := fr, callers := crs, status := .running, dying := none } w).bare = (doReturn P true fr crs none v w').bare) :
    ResOK P G M ρ h w f0 base (lone fr crs w) (leave fi P G tm todo de cs h jump) := by
  have hf := hs.top
  obtain ⟨fn, kind, ro⟩ := fi
  obtain ⟨hfn, hk, hro⟩ := hf.fi
  cases ro with
  | none =>
    change ResOK P G M ρ h w f0 base _ (leave3 (isRet jump) de P G fn kind tm todo cs h)
    cases hr : isRet jump with
    | false => exact .bad
    | true =>
      have hst := hst hr hro
      have hs' : SR ρ f0 base (.mk (.mk fn kind none) tm todo de .ret) cs { fr with mode := .returning } crs := hs.re (.refl _) (f' := .mk (.mk fn kind none) tm todo de .ret) ⟨hf.fi, hf.tmps, hf.todo, hf.defers, .ret⟩ rfl
      refine ResOK.steps (.one hst) ?_
      cases de with
      | nil => exact ret_ok s hs'
      | cons d ds => exact .here s hs'
  | some l =>
    obtain ⟨b, hb, hrl⟩ := hro
    change ResOK P G M ρ h w f0 base _ (leave4 (isNil de) kind cs h l jump)
    cases isNil de with
    | false => exact .bad
    | true =>
      change ResOK P G M ρ h w f0 base _ (endRoundS (hget h l) kind cs h l jump)
      cases ho : hget h l with
      | loop st pend fn' tms ps as bd d =>
        change ResOK P G M ρ h w f0 base _ (putR h l (.loop (jumpState jump) jump fn' tms ps as bd d) fun h => roundRet cs kind (.lit (.bool (isNone' jump))) h)
        rw [putR_eq]
        obtain ⟨ts, bd', hk', q1, q2, q3, q4, q5, q6⟩ := obj_loop s hb ho
        let nb : Obj := .loop { state := if jump.isNone then .ready else .done, pending := jump, fn := fn', tmps := ts, params := ps, assign := as, body := bd, defers := bd'.block }
        have ht := turn_setMap (nb := nb) hk'
        have hjs : (if jump.isNone then LoopState.ready else .done) = jumpState jump := by cases jump <;> rfl
        obtain ⟨s2, g2⟩ := s.put (ob := .loop (jumpState jump) jump fn' tms ps as bd d) hb (by rw [ho]; rfl) ht.os ht.tape ht.output ht.size ht.other (by
          rw [ht.here]; simp only [nb, hjs]; exact .loop q1 q2 q3 q4 hj q6)
        have hrun : (Instr.endRound b.block jump).run P w = .ok (.bool jump.isNone) { w with heap := w.heap.setIfInBounds b.block nb } := by
          have hget := run_getIter (P := P) hk' (by intros; simp)
          have hset := run_setIter (P := P) (nb := nb) hk' (by intros; simp)
          simp only [Instr.endRound, Instr.getLoop, Sem.run_bind, hget, Result.andThen_ok, Sem.run_pure]
          show Result.andThen ((setObj b.block nb).run P w) _ = _
          rw [hset]; rfl
        have hgo := hrd b.block _ _ hrl hrun
        rcases hs.inv with ⟨rfl, rfl, hfi⟩ | ⟨g, cs', gr, crs', rfl, rfl, t⟩
        · have hfi : FI.mk fn kind (some l) = .mk f0 .normal none := hfi
          injection hfi with _ _ e; cases e
        · have he : isNone' jump = jump.isNone := by cases jump <;> rfl
          have := doReturn_ok (v := .lit (.bool (isNone' jump))) (x := .bool jump.isNone) s2 hk (t.mono g2.keep) (by rw [he]; exact .lit _) hgo
          exact this.after (.refl _ _) g2
      | _ => exact .bad
end
end Go.Play
