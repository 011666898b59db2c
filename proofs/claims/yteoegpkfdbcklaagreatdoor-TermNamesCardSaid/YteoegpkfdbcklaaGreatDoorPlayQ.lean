/- Play: what a result says of a machine; what an effect does to it. -/
import Derived.Test.YteoegpkfdbcklaaGreatDoorPlayP
namespace Go.Play
set_option linter.unusedVariables false
set_option linter.unusedSimpArgs false

/-- What a result says of a machine, whose world, names and heap are told. -/
def ResOK (P : Program) (G : Glob) (M : Nat → Prop) (ρ : Env) (h : H) (w : World) (f0 : FuncId) (base : List Frame) (m : Machine) : Res → Prop
  | .next f cs h' => ∃ ρ' w' fr crs, Steps P m (lone fr crs w') ∧ SR ρ' f0 base f cs fr crs ∧ Sim P G M ρ' h' w' ∧ Grow M ρ h w ρ' h' w'
  | .done v h' => ∃ ρ' w' fr x, Steps P m (lone fr base w') ∧ fr.fn = f0 ∧ fr.leaving P w' (.returned x) ∧ VR ρ' v x ∧ Sim P G M ρ' h' w' ∧ Grow M ρ h w ρ' h' w'
  | .pan c h' => ∃ ρ' w' fr es, Steps P m (lone fr base w') ∧ fr.fn = f0 ∧ fr.leaving P w' (.panicked es) ∧ CR ρ' c es ∧ Sim P G M ρ' h' w' ∧ Grow M ρ h w ρ' h' w'
  | .bad => True

section
variable {P : Program} {G : Glob} {M : Nat → Prop} {ρ ρ1 : Env} {h h1 : H} {w w1 : World} {f0 : FuncId} {base : List Frame}
theorem ResOK.bad {m : Machine} : ResOK P G M ρ h w f0 base m .bad := trivial
theorem ResOK.after {m m1 : Machine} {r : Res} (hst : Steps P m m1) (hg : Grow M ρ h w ρ1 h1 w1) (k : ResOK P G M ρ1 h1 w1 f0 base m1 r) : ResOK P G M ρ h w f0 base m r := by
  cases r with
  | next f cs h' => obtain ⟨ρ', w', fr, crs, k1, k2, k3, k4⟩ := k; exact ⟨ρ', w', fr, crs, hst.trans k1, k2, k3, hg.trans k4⟩
  | done v h' => obtain ⟨ρ', w', fr, x, k1, k2, k3, k4, k5, k6⟩ := k; exact ⟨ρ', w', fr, x, hst.trans k1, k2, k3, k4, k5, hg.trans k6⟩
  | pan v h' => obtain ⟨ρ', w', fr, x, k1, k2, k3, k4, k5, k6⟩ := k; exact ⟨ρ', w', fr, x, hst.trans k1, k2, k3, k4, k5, hg.trans k6⟩
  | bad => trivial
theorem ResOK.steps {m m1 : Machine} {r : Res} (hst : Steps P m m1) (k : ResOK P G M ρ h w f0 base m1 r) : ResOK P G M ρ h w f0 base m r := k.after hst .refl
theorem ResOK.here (s : Sim P G M ρ h w) {f : SF} {cs : List SF} {fr : Frame} {crs : List Frame} (hs : SR ρ f0 base f cs fr crs) : ResOK P G M ρ h w f0 base (lone fr crs w) (.next f cs h) :=
  ⟨ρ, w, fr, crs, .refl _ _, hs, s, .refl⟩

-- calls
theorem argsK_ok : ∀ (args : List SV) (t : T SV) (i : Pa) (K : T SV → Res), ∃ t', argsK args t i K = K t' ∧ ∀ p : Pa, sget p t' = if i.num ≤ p.num ∧ p.num < i.num + args.length then args.getD (p.num - i.num) undefS else sget p t := by
  intro args
  induction args with
  | nil => intro t i K; exact ⟨t, rfl, fun p => by rw [if_neg (by simp only [List.length_nil]; omega)]⟩
  | cons v l ih =>
    intro t i K
    obtain ⟨t', e, hg⟩ := ih (sset' i v t) (Pa.succ i) K
    refine ⟨t', ?_, fun p => ?_⟩
    · show sset i v t (fun t => argsK l t (Pa.succ i) K) = _
      rw [sset_eq]; exact e
    · rw [hg p, Pa.num_succ, sget_set]
      simp only [List.length_cons]
      by_cases h1 : p = i
      · subst h1
        rw [if_neg (by omega), if_pos rfl, if_pos (by omega)]
        simp
      · have hne : p.num ≠ i.num := fun e => h1 (Pa.num_inj e)
        rw [if_neg h1]
        by_cases h2 : i.num + 1 ≤ p.num ∧ p.num < i.num + 1 + l.length
        · rw [if_pos h2, if_pos (by omega)]
          obtain ⟨k, hk⟩ : ∃ k, p.num - i.num = k + 1 := ⟨p.num - i.num - 1, by omega⟩
          rw [hk, show p.num - (i.num + 1) = k by omega]; simp
        · rw [if_neg h2, if_neg (by omega)]
theorem enter_ok {f : FuncId} {args : List SV} {xs : Array Value} {kind : CallKind} (hl : VRL ρ args xs.toList) {K : SF → Res} {Q : Res → Prop} (hbad : Q .bad)
    (hK : ∀ f', SFR ρ f' (Frame.enter P f xs kind) → fiOf f' = .mk f kind none → (∃ fn, P.funcs[f]? = some fn ∧ fn.body.isSome = true) → Q (K f')) : Q (enterK P f args kind K) := by
  unfold enterK
  cases hf : funcO P f with
  | none => exact hbad
  | some fn =>
    rw [funcO_eq] at hf
    show Q (enter2 fn.body f fn.ntmps args kind K)
    cases hb : fn.body with
    | none => exact hbad
    | some c =>
      show Q (enter3 (okCode c fn.ntmps) c f args kind K)
      cases hc : okCode c fn.ntmps with
      | false => exact hbad
      | true =>
        show Q (argsK args .nil .e fun tm => K (.mk (.mk f kind none) tm [.code c] [] .run))
        obtain ⟨t', e, hg⟩ := argsK_ok args .nil .e (fun tm => K (.mk (.mk f kind none) tm [.code c] [] .run))
        rw [e]
        have hfr : Frame.enter P f xs kind = { fn := f, tmps := xs ++ Array.replicate (fn.ntmps - xs.size) undef, todo := [.code c], defers := [], mode := .run, kind } := by
          simp [Frame.enter, hf, hb]
        refine hK _ ?_ rfl ⟨fn, hf, by rw [hb]; rfl⟩
        rw [hfr]
        refine ⟨⟨rfl, rfl, rfl⟩, ?_, .cons (.code (okCode_mono ?_ hc)) .nil, .nil, .run⟩
        · intro i
          rw [hg (pa i), sget_nil, num_pa]
          have hn : Pa.num .e = 0 := rfl
          have hlen : args.length = xs.size := by rw [hl.length, Array.length_toList]
          simp only [hn, Nat.zero_le, true_and, Nat.zero_add, Nat.sub_zero, Array.getD_eq_getD_getElem?]
          by_cases hi : i < args.length
          · rw [if_pos hi]
            obtain ⟨x, hx, hv⟩ := hl.get i args[i] (by simp [hi])
            rw [Array.getElem?_append_left (by omega), ← Array.getElem?_toList, hx]
            simp only [List.getD_eq_getElem?_getD, List.getElem?_eq_getElem hi, Option.getD_some]
            exact hv
          · rw [if_neg hi, Array.getElem?_append_right (by omega)]
            have : ((Array.replicate (fn.ntmps - xs.size) undef)[i - xs.size]?).getD undef = undef := by
              rw [Array.getElem?_replicate]; split <;> rfl
            rw [this]; exact .lit _
        · simp; omega

-- rounds
theorem obj_loop (s : Sim P G M ρ h w) {o : Pa} {b : Loc} {st : LoopState} {pend : Option Code} {fn : FuncId} {tm : T SV} {ps : Array Tmp} {as bd : Code} {d : Pa} (hb : ρ o = some b) (ho : hget h o = .loop st pend fn tm ps as bd d) :
    ∃ (ts : Array Value) (bd' : Loc), w.heap[b.block]? = some (.loop { state := st, pending := pend, fn, tmps := ts, params := ps, assign := as, body := bd, defers := bd'.block }) ∧ TR ρ tm ts ∧ okTmps ps.toList ts.size = true ∧ okCode as ts.size = true ∧ okCode bd ts.size = true ∧ (∀ c, pend = some c → ∀ n, okCode c n = true) ∧ ρ d = some bd' := by
  have hlive := s.live o b hb
  rw [ho] at hlive
  cases hk : w.heap[b.block]? with
  | none => rw [hk] at hlive; cases hlive
  | some ob => rw [hk] at hlive; cases hlive with | loop ht hps has hbd hpd hd => exact ⟨_, _, rfl, ht, hps, has, hbd, hpd, hd⟩
theorem zipSetK_ok : ∀ (ps : List Tmp) {l : List SV} {xs : List Value} {t : T SV} {ts : Array Value} (K : T SV → Res), VRL ρ l xs → TR ρ t ts → okTmps ps ts.size = true →
    ∃ t', zipSetK ps l t K = K t' ∧ TR ρ t' ((ps.zip xs).foldl (fun ts p => ts.setIfInBounds p.1 p.2) ts) ∧ ((ps.zip xs).foldl (fun ts p => ts.setIfInBounds p.1 p.2) ts).size = ts.size := by
  intro ps
  induction ps with
  | nil => intro l xs t ts K _ ht _; exact ⟨t, rfl, ht, rfl⟩
  | cons p ps ih =>
    intro l xs t ts K hl ht hok
    cases hl with
    | nil => exact ⟨t, rfl, ht, rfl⟩
    | @cons v x l xs hv htl =>
      change andB (Nat.ble (Nat.succ p) ts.size) (okTmps ps ts.size) = true at hok
      rw [andB_eq, Bool.and_eq_true] at hok
      have hp : p < ts.size := Nat.le_of_ble_eq_true hok.1
      obtain ⟨t', e, h2, h3⟩ := ih K htl (ht.set hp hv) (by simpa using hok.2)
      refine ⟨t', ?_, h2, by simpa using h3⟩
      show sset (pa p) v t (fun t => zipSetK ps l t K) = _
      rw [sset_eq]; exact e
theorem apply_enter {fr : Frame} {crs : List Frame} {l : List SI} {n : Nat} (hl : IL ρ n l fr.todo) {q : Sem Next} {g : FuncId} {xs : Array Value} {w' : World} (hr : q.run P w = .ok (.enter g xs) w') :
    (stepG.apply P true fr crs none q w).bare = .go { frame := Frame.enter P g xs .normal, callers := fr :: crs, status := .running, dying := none } w' := by
  obtain ⟨fn, tmps, todo, defers, mode, kind, ro⟩ := fr
  cases hl with
  | nil => simp only [stepG.apply, Sem.runT_eq, hr, GStep.bare_after, if_true]; rfl
  | cons hi _ => cases hi <;> (simp only [stepG.apply, Sem.runT_eq, hr, GStep.bare_after, if_true]; rfl)
theorem mode_run {m : FrameMode} (h : MR ρ .run m) : m = .run := by cases h; rfl
theorem apply_ok (s : Sim P G M ρ h w) {fi : FI} {tm : T SV} {todo : List SI} {de : List SDef} {cs : List SF} {fr : Frame} {crs : List Frame} (hs : SR ρ f0 base (.mk fi tm todo de .run) cs fr crs)
    {q : Sem Next} {e : Eff} (he : EffOK P G M ρ h w (q.run P w) e) {fr0 : Frame} {w0 : World}
    (hgo : (stepG P true { frame := fr0, callers := crs, status := .running, dying := none } w0).bare = (stepG.apply P true fr crs none q w).bare) :
    ResOK P G M ρ h w f0 base (lone fr0 crs w0) (effE e P fi tm todo de cs h) := by
  have hf := hs.top
  cases e with
  | val v h' =>
    obtain ⟨ρ', w', s', g', hr⟩ := he
    change ResOK P G M ρ h w f0 base _ (finishK (.mk fi tm todo de .run) v fun f => .next f cs h')
    have key : ∀ x, VR ρ' v x → Go.step P (lone fr0 crs w0) = .next (lone (fr.finish x) crs w') → ResOK P G M ρ h w f0 base (lone fr0 crs w0) (finishK (.mk fi tm todo de .run) v fun f => .next f cs h') := by
      intro x hv hst
      refine finish_ok (SFR.mono g'.keep hf) hv .bad fun f' hf' hfi => ?_
      exact ⟨ρ', w', _, crs, .one hst, hs.re g'.keep hf' hfi, s', g'⟩
    rcases hr with ⟨x, hr, hv⟩ | ⟨hr, rfl⟩
    · exact key x hv (step_lone_go (by rw [hgo]; simp only [stepG.apply, Sem.runT_eq, hr, GStep.bare_after, if_true]; rfl))
    · exact key undef (.lit _) (step_lone_go (by rw [hgo]; simp only [stepG.apply, Sem.runT_eq, hr, GStep.bare_after, if_true]; rfl))
  | enter g args =>
    obtain ⟨xs, hr, hl⟩ := he
    change ResOK P G M ρ h w f0 base _ (enterK P g args .normal fun f => .next f (.mk fi tm todo de .run :: cs) h)
    refine enter_ok hl .bad fun f' hf' hfi _ => ?_
    refine ⟨ρ, w, _, fr :: crs, .one (step_lone_go ?_), .cons hf' hs, s, .refl⟩
    rw [hgo]; exact apply_enter hf.todo hr
  | round l args =>
    obtain ⟨b, xs, hb, hr, hl⟩ := he
    change ResOK P G M ρ h w f0 base _ (round1 (hget h l) l args (.mk fi tm todo de .run) cs h)
    cases ho : hget h l with
    | loop st pend fn tms ps as bd d =>
      change ResOK P G M ρ h w f0 base _ (round2 (Nat.beq (lenS args) ps.size) fn l ps.toList args tms as bd (.mk fi tm todo de .run) cs h)
      cases hn : Nat.beq (lenS args) ps.size with
      | false => exact .bad
      | true =>
        obtain ⟨ts, bd', hk, h1, h2, h3, h4, _, _⟩ := obj_loop s hb ho
        have hn : args.length = ps.size := by rw [← lenS_eq]; exact Nat.eq_of_beq_eq_true hn
        have hlen : args.length = xs.size := by rw [hl.length, Array.length_toList]
        obtain ⟨t', e', ht', hz'⟩ := zipSetK_ok ps.toList (fun tm' => .next (.mk (.mk fn .normal (some l)) tm' [.code as, .beginRound, .code bd] [] .run) (.mk fi tm todo de .run :: cs) h) hl h1 h2
        change ResOK P G M ρ h w f0 base _ (zipSetK ps.toList args tms fun tm' => .next (.mk (.mk fn .normal (some l)) tm' [.code as, .beginRound, .code bd] [] .run) (.mk fi tm todo de .run :: cs) h)
        rw [e']
        let ts' := (ps.toList.zip xs.toList).foldl (fun ts p => ts.setIfInBounds p.1 p.2) ts
        have hts : (ps.zip xs).foldl (fun tmps (x : Tmp × Value) => tmps.setIfInBounds x.1 x.2) ts = ts' := by
          rw [← Array.foldl_toList, Array.toList_zip]
        have hrun : (Instr.yield b.block xs).run P w = .ok (.round b.block fn ts' as bd) w := by
          have hget : (getObj b.block).run P w = .ok (.loop { state := st, pending := pend, fn, tmps := ts, params := ps, assign := as, body := bd, defers := bd'.block }) w := run_getIter hk (by intros; simp)
          have hsz : ¬ (xs.size ≠ ps.size) := by omega
          simp only [Instr.yield, Instr.getLoop, Sem.run_bind, hget, Result.andThen_ok, Sem.run_pure, hsz, if_false]
          rw [← hts]
        refine ⟨ρ, w, Frame.round b.block fn ts' as bd .normal, fr :: crs, .one (step_lone_go ?_), .cons ?_ hs, s, .refl⟩
        · rw [hgo]; simp only [stepG.apply, Sem.runT_eq, hr, hrun, GStep.bare_after, if_true]; rfl
        · refine ⟨⟨rfl, rfl, b, hb, rfl⟩, ht', ?_, .nil, .run⟩
          show IL ρ ts'.size _ _
          rw [hz']
          exact .cons (.code h3) (.cons .beginRound (.cons (.code h4) .nil))
    | _ => exact .bad
  | recover =>
    have hr : q.run P w = .ok .recover w := he
    change ResOK P G M ρ h w f0 base _ (recoverE fi (.mk fi tm todo de .run) cs h)
    obtain ⟨fn, kind, ro⟩ := fi
    cases ro with
    | some l => exact .bad
    | none =>
      obtain ⟨hfn, hk, hro⟩ := hf.fi
      have hro : fr.roundOf = none := hro
      have hap : ∀ {v : Value} {crs' : List Frame}, tryRecover fr crs = some (v, crs') → Go.step P (lone fr0 crs w0) = .next (lone (fr.finish v) crs' w) := by
        intro v crs' ht
        exact step_lone_go (by rw [hgo]; simp only [stepG.apply, Sem.runT_eq, hr, GStep.bare_after, if_true, hro, ht]; rfl)
      have hap0 : tryRecover fr crs = none → Go.step P (lone fr0 crs w0) = .next (lone (fr.finish .nilIface) crs w) := by
        intro ht
        exact step_lone_go (by rw [hgo]; simp only [stepG.apply, Sem.runT_eq, hr, GStep.bare_after, if_true, hro, ht]; rfl)
      cases kind with
      | deferred =>
        simp only [recoverE]
        split
        · rename_i fi' tm' todo' de' v older rest
          cases hs with
          | @cons _ _ _ _ gr crs' _ t =>
            have hg := t.top
            have hm := hg.mode
            generalize hmm : gr.mode = gm at hm
            cases hm with
            | pan hc =>
              cases hc with
              | @cons _ x _ _ es hv hc =>
                have ht : tryRecover fr (gr :: crs') = some (x, { gr with mode := .panicking ({ v := x, recovered := true } :: es) } :: crs') := by
                  simp only [tryRecover, hk, hmm]
                have hg' : SFR ρ (.mk fi' tm' todo' de' (.pan ((v, true) :: older))) { gr with mode := .panicking ({ v := x, recovered := true } :: es) } :=
                  ⟨by have := hg.fi; cases fi'; exact this, hg.tmps, hg.todo, hg.defers, .pan (.cons hv hc)⟩
                refine finish_ok (f := .mk (.mk fn .deferred none) tm todo de .run) hf hv .bad fun f' hf' hfi => ?_
                exact ⟨ρ, w, _, _, .one (hap ht), .cons hf' (t.re (.refl _) hg' rfl), s, .refl⟩
        · rename_i fi' tm' todo' de' rest
          cases hs with
          | @cons _ _ _ _ gr crs' _ t =>
            have hg := t.top
            have hm := hg.mode
            generalize hmm : gr.mode = gm at hm
            cases hm with
            | ret =>
              have ht : tryRecover fr (gr :: crs') = none := by simp only [tryRecover, hk, hmm]
              refine finish_ok (f := .mk (.mk fn .deferred none) tm todo de .run) hf (.lit .nilIface) .bad fun f' hf' hfi => ?_
              exact ⟨ρ, w, _, _, .one (hap0 ht), .cons hf' t, s, .refl⟩
        · exact .bad
      | normal =>
        have ht : tryRecover fr crs = none := by unfold tryRecover; rw [hk]
        refine finish_ok (f := .mk (.mk fn .normal none) tm todo de .run) hf (.lit .nilIface) .bad fun f' hf' hfi => ?_
        exact ⟨ρ, w, _, _, .one (hap0 ht), hs.re (.refl _) hf' hfi, s, .refl⟩
      | _ => exact .bad
  | defer d =>
    obtain ⟨d', hr, hd⟩ := he
    change ResOK P G M ρ h w f0 base _ (deferE (roOf fi) (.mk fi tm todo de .run) cs h d)
    obtain ⟨fn, kind, ro⟩ := fi
    cases ro with
    | some l => exact .bad
    | none =>
      change ResOK P G M ρ h w f0 base _ (finishK (.mk (.mk fn kind none) tm todo (d :: de) .run) undefS fun f => .next f cs h)
      have hf2 : SFR ρ (.mk (.mk fn kind none) tm todo (d :: de) .run) { fr with defers := d' :: fr.defers } := ⟨hf.fi, hf.tmps, hf.todo, .cons hd hf.defers, hf.mode⟩
      refine finish_ok hf2 (.lit undef) .bad fun f' hf' hfi => ?_
      refine ⟨ρ, w, _, crs, .one (step_lone_go ?_), hs.re (.refl _) hf' hfi, s, .refl⟩
      rw [hgo]; simp only [stepG.apply, Sem.runT_eq, hr, GStep.bare_after, if_true]; rfl
  | panic v =>
    obtain ⟨x, hr, hv⟩ := he
    change ResOK P G M ρ h w f0 base _ (.next (.mk fi tm todo de (.pan [(v, false)])) cs h)
    have hra := raise_ok (c := [(v, false)]) (es := [{ v := x, recovered := false }]) hf (.cons hv .nil)
    refine ⟨ρ, w, fr.raise [{ v := x, recovered := false }], crs, .one (step_lone_go ?_), hs.re (.refl _) hra.1 rfl, s, .refl⟩
    rw [hgo]; simp only [stepG.apply, Sem.runT_eq, hr, GStep.bare_after, if_true]; rfl
  | bad => exact .bad
end
end Go.Play
