/- Play, PlayThree. -/
import Derived.Test.YtjbapjgagiaefaaPlayTwo
import Derived.Calls
/- Play: frames, what stays to do, stacks; what a result says of a machine. -/
namespace Go.Play
set_option linter.unusedVariables false
set_option linter.unusedSimpArgs false

/-- What stays to do, in a frame of n slots. -/
inductive IR (ρ : Env) (n : Nat) : SI → Item → Prop
  | code {c : Code} (h : okCode c n = true) : IR ρ n (.code c) (.code c)
  | inBlock (id : Nat) : IR ρ n (.inBlock id) (.inBlock id)
  | inLoop {c : Code} (h : okCode c n = true) : IR ρ n (.inLoop c) (.inLoop c)
  | inScope {c : Code} (h : okCode c n = true) : IR ρ n (.inScope c) (.inScope c)
  | inReg {ops : Array Oper} {l : List Oper} {is : List Nat} (h : is.map (ops[·]?) = l.map some) (ho : okOps l n = true) : IR ρ n (.inReg ops l) (.inRegion ops is)
  | inRF {o : Pa} {b : Loc} (h : ρ o = some b) : IR ρ n (.inRF o) (.inRangeFunc b.block)
  | endRF {o : Pa} {b : Loc} (h : ρ o = some b) : IR ρ n (.endRF o) (.endRangeFunc b.block)
  | beginRound : IR ρ n .beginRound .beginRound
inductive IL (ρ : Env) (n : Nat) : List SI → List Item → Prop
  | nil : IL ρ n [] []
  | cons {i : SI} {x : Item} {l : List SI} {k : List Item} (h : IR ρ n i x) (t : IL ρ n l k) : IL ρ n (i :: l) (x :: k)
inductive CR (ρ : Env) : List (SV × Bool) → List PanicEntry → Prop
  | nil : CR ρ [] []
  | cons {v : SV} {x : Value} {r : Bool} {l : List (SV × Bool)} {es : List PanicEntry} (h : VR ρ v x) (t : CR ρ l es) : CR ρ ((v, r) :: l) ({ v := x, recovered := r } :: es)
inductive MR (ρ : Env) : SMode → FrameMode → Prop
  | run : MR ρ .run .run
  | ret : MR ρ .ret .returning
  | pan {l : List (SV × Bool)} {es : List PanicEntry} (h : CR ρ l es) : MR ρ (.pan l) (.panicking es)
def RoR (ρ : Env) : Option Pa → Option Nat → Prop
  | none, r => r = none
  | some l, r => ∃ b, ρ l = some b ∧ r = some b.block
def FIR (ρ : Env) : FI → Frame → Prop
  | .mk fn kind ro, fr => fr.fn = fn ∧ fr.kind = kind ∧ RoR ρ ro fr.roundOf
structure FR (ρ : Env) (fi : FI) (tm : T SV) (todo : List SI) (de : List SDef) (mode : SMode) (fr : Frame) : Prop where
  fi : FIR ρ fi fr
  tmps : TR ρ tm fr.tmps
  todo : IL ρ fr.tmps.size todo fr.todo
  defers : DRL ρ de fr.defers
  mode : MR ρ mode fr.mode
def SFR (ρ : Env) : SF → Frame → Prop
  | .mk fi tm todo de mode, fr => FR ρ fi tm todo de mode fr
def fiOf : SF → FI | .mk fi _ _ _ _ => fi
/-- A stack: the last frame is the one that f0 was called with, base lies below it. -/
inductive SR (ρ : Env) (f0 : FuncId) (base : List Frame) : SF → List SF → Frame → List Frame → Prop
  | last {f : SF} {fr : Frame} (h : SFR ρ f fr) (hf : fiOf f = .mk f0 .normal none) : SR ρ f0 base f [] fr base
  | cons {f g : SF} {cs : List SF} {fr gr : Frame} {crs : List Frame} (h : SFR ρ f fr) (t : SR ρ f0 base g cs gr crs) : SR ρ f0 base f (g :: cs) fr (gr :: crs)

theorem okOps_mono {l : List Oper} {n m : Nat} (hnm : n ≤ m) (h : okOps l n = true) : okOps l m = true := by
  induction l with
  | nil => rfl
  | cons o l ih =>
    change andB (okDst (dstOf o) n) (okOps l n) = true at h
    show andB (okDst (dstOf o) m) (okOps l m) = true
    rw [andB_eq, Bool.and_eq_true] at h ⊢
    refine ⟨?_, ih h.2⟩
    have h1 := h.1
    cases hd : dstOf o with
    | none => rfl
    | some d =>
      rw [hd] at h1
      exact Nat.ble_eq_true_of_le (Nat.le_trans (Nat.le_of_ble_eq_true h1) hnm)
theorem okTmps_mono {l : List Tmp} {n m : Nat} (hnm : n ≤ m) (h : okTmps l n = true) : okTmps l m = true := by
  induction l with
  | nil => rfl
  | cons o l ih =>
    change andB (Nat.ble (Nat.succ o) n) (okTmps l n) = true at h
    show andB (Nat.ble (Nat.succ o) m) (okTmps l m) = true
    rw [andB_eq, Bool.and_eq_true] at h ⊢
    exact ⟨Nat.ble_eq_true_of_le (Nat.le_trans (Nat.le_of_ble_eq_true h.1) hnm), ih h.2⟩
theorem okCode_seq (a b : Code) (n : Nat) : okCode (.seq a b) n = (okCode a n && okCode b n) := (andB_eq _ _)
theorem okCode_cond (c : Operand) (a b : Code) (n : Nat) : okCode (.cond c a b) n = (okCode a n && okCode b n) := (andB_eq _ _)
theorem okCode_rf (f : Operand) (ps : Array Tmp) (a b : Code) (n : Nat) : okCode (.rangeFunc f ps a b) n = (okTmps ps.toList n && (okCode a n && okCode b n)) := by
  show andB _ (andB _ _) = _
  rw [andB_eq, andB_eq]; rfl
theorem okCode_mono {n m : Nat} (hnm : n ≤ m) : ∀ {c : Code}, okCode c n = true → okCode c m = true := by
  intro c
  induction c with
  | region id ops d => exact okOps_mono hnm
  | seq a b iha ihb => intro h; rw [okCode_seq, Bool.and_eq_true] at h ⊢; exact ⟨iha h.1, ihb h.2⟩
  | cond c a b iha ihb => intro h; rw [okCode_cond, Bool.and_eq_true] at h ⊢; exact ⟨iha h.1, ihb h.2⟩
  | block id a ih => exact ih
  | loop a ih => exact ih
  | rangeFunc f ps a b iha ihb => intro h; rw [okCode_rf, Bool.and_eq_true, Bool.and_eq_true] at h ⊢; exact ⟨okTmps_mono hnm h.1, iha h.2.1, ihb h.2.2⟩
  | scope a ih => exact ih
  | _ => intro _; rfl
theorem findLabel_ok {n : Nat} (l : Nat) : ∀ {c rest : Code}, findLabel c l = some rest → okCode c n = true → okCode rest n = true := by
  intro c
  induction c with
  | seq a b iha ihb =>
    intro rest hf hc
    rw [okCode_seq, Bool.and_eq_true] at hc
    unfold findLabel at hf
    cases ha : findLabel a l with
    | some r => rw [ha] at hf; cases hf; rw [okCode_seq, iha ha hc.1, hc.2]; rfl
    | none => rw [ha] at hf; exact ihb hf hc.2
  | label l' =>
    intro rest hf hc
    unfold findLabel at hf
    split at hf
    · cases hf; rfl
    · cases hf
  | _ => intro rest hf hc; unfold findLabel at hf; cases hf

section
variable {ρ ρ' : Env}
theorem IR.mono (hle : Env.le ρ ρ') {n m : Nat} (hnm : n ≤ m) {i : SI} {x : Item} (h : IR ρ n i x) : IR ρ' m i x := by
  cases h with
  | code h => exact .code (okCode_mono hnm h)
  | inBlock id => exact .inBlock id
  | inLoop h => exact .inLoop (okCode_mono hnm h)
  | inScope h => exact .inScope (okCode_mono hnm h)
  | inReg h ho => exact .inReg h (okOps_mono hnm ho)
  | inRF h => exact .inRF (hle _ _ h)
  | endRF h => exact .endRF (hle _ _ h)
  | beginRound => exact .beginRound
theorem IL.mono (hle : Env.le ρ ρ') {n m : Nat} (hnm : n ≤ m) {l : List SI} {k : List Item} (h : IL ρ n l k) : IL ρ' m l k := by
  induction h with
  | nil => exact .nil
  | cons h _ ih => exact .cons (h.mono hle hnm) ih
theorem CR.mono (hle : Env.le ρ ρ') {l : List (SV × Bool)} {es : List PanicEntry} (h : CR ρ l es) : CR ρ' l es := by
  induction h with
  | nil => exact .nil
  | cons h _ ih => exact .cons (h.mono hle) ih
theorem CR.append {l m : List (SV × Bool)} {es fs : List PanicEntry} (h : CR ρ l es) (k : CR ρ m fs) : CR ρ (l ++ m) (es ++ fs) := by
  induction h with
  | nil => exact k
  | cons h _ ih => exact .cons h ih
theorem CR.quiet {l : List (SV × Bool)} {es : List PanicEntry} (h : CR ρ l es) : ∀ e ∈ es, e.goexit = false := by
  induction h with
  | nil => intro e he; cases he
  | cons h _ ih => intro e he; cases he with
    | head => rfl
    | tail _ hm => exact ih e hm
theorem MR.mono (hle : Env.le ρ ρ') {m : SMode} {x : FrameMode} (h : MR ρ m x) : MR ρ' m x := by
  cases h with
  | run => exact .run
  | ret => exact .ret
  | pan h => exact .pan (h.mono hle)
theorem RoR.mono (hle : Env.le ρ ρ') {o : Option Pa} {r : Option Nat} (h : RoR ρ o r) : RoR ρ' o r := by
  cases o with
  | none => exact h
  | some l => obtain ⟨b, h1, h2⟩ := h; exact ⟨b, hle _ _ h1, h2⟩
theorem FIR.mono (hle : Env.le ρ ρ') {fi : FI} {fr : Frame} (h : FIR ρ fi fr) : FIR ρ' fi fr := by
  obtain ⟨fn, kind, ro⟩ := fi
  exact ⟨h.1, h.2.1, h.2.2.mono hle⟩
theorem FR.mono (hle : Env.le ρ ρ') {fi : FI} {tm : T SV} {todo : List SI} {de : List SDef} {mode : SMode} {fr : Frame} (h : FR ρ fi tm todo de mode fr) : FR ρ' fi tm todo de mode fr :=
  ⟨h.fi.mono hle, h.tmps.mono hle, h.todo.mono hle (Nat.le_refl _), h.defers.mono hle, h.mode.mono hle⟩
theorem SFR.mono (hle : Env.le ρ ρ') {f : SF} {fr : Frame} (h : SFR ρ f fr) : SFR ρ' f fr := by
  obtain ⟨fi, tm, todo, de, mode⟩ := f
  exact FR.mono hle h
theorem SR.mono (hle : Env.le ρ ρ') {f0 : FuncId} {base : List Frame} {f : SF} {cs : List SF} {fr : Frame} {crs : List Frame} (h : SR ρ f0 base f cs fr crs) : SR ρ' f0 base f cs fr crs := by
  induction h with
  | last h hf => exact .last (h.mono hle) hf
  | cons h _ ih => exact .cons (h.mono hle) ih
theorem SR.top {f0 : FuncId} {base : List Frame} {f : SF} {cs : List SF} {fr : Frame} {crs : List Frame} (h : SR ρ f0 base f cs fr crs) : SFR ρ f fr := by
  cases h with
  | last h _ => exact h
  | cons h _ => exact h
/-- Another frame on top of the same callers. -/
theorem SR.re {f0 : FuncId} {base : List Frame} {f f' : SF} {cs : List SF} {fr fr' : Frame} {crs : List Frame} (h : SR ρ f0 base f cs fr crs) (hle : Env.le ρ ρ') (hf : SFR ρ' f' fr') (hfi : fiOf f' = fiOf f) : SR ρ' f0 base f' cs fr' crs := by
  cases h with
  | last _ h2 => exact .last hf (hfi.trans h2)
  | cons _ t => exact .cons hf (t.mono hle)

-- slots
theorem TR.set {tm : T SV} {ts : Array Value} (h : TR ρ tm ts) {d : Tmp} (hd : d < ts.size) {v : SV} {x : Value} (hv : VR ρ v x) : TR ρ (sset' (pa d) v tm) (ts.setIfInBounds d x) := by
  intro i
  rw [sget_set]
  by_cases hi : i = d
  · subst hi
    rw [if_pos rfl]
    have : (ts.setIfInBounds i x).getD i undef = x := by simp [Array.getD, hd]
    rw [this]; exact hv
  · rw [if_neg fun e => hi (pa_inj e)]
    have : (ts.setIfInBounds d x).getD i undef = ts.getD i undef := by
      simp only [Array.getD_eq_getD_getElem?, Array.getElem?_setIfInBounds_ne (Ne.symm hi)]
    rw [this]; exact h i
theorem dstOf_eq (o : Oper) : dstOf o = o.dst := by cases o; rfl
theorem okOps_cons {o : Oper} {l : List Oper} {n : Nat} (h : okOps (o :: l) n = true) : (∀ d, o.dst = some d → d < n) ∧ okOps l n = true := by
  change andB (okDst (dstOf o) n) (okOps l n) = true at h
  rw [andB_eq, Bool.and_eq_true] at h
  refine ⟨fun d hd => ?_, h.2⟩
  have h1 := h.1
  rw [dstOf_eq, hd] at h1
  exact Nat.le_of_ble_eq_true h1
/-- A value is laid into an operation's slot. -/
theorem setO_ok {o : Oper} {tm : T SV} {ts : Array Value} (h : TR ρ tm ts) (hd : ∀ d, o.dst = some d → d < ts.size) {v : SV} {x : Value} (hv : VR ρ v x) (K : T SV → Res) :
    ∃ tm', setO (dstOf o) v tm K = K tm' ∧ TR ρ tm' (match o.dst with | some d => ts.setIfInBounds d x | none => ts) := by
  rw [dstOf_eq]
  cases hdst : o.dst with
  | none => exact ⟨tm, rfl, h⟩
  | some d => exact ⟨sset' (pa d) v tm, sset_eq _ _ _ _, h.set (hd d hdst) hv⟩
theorem size_set (o : Oper) (ts : Array Value) (x : Value) : (match o.dst with | some d => ts.setIfInBounds d x | none => ts).size = ts.size := by
  cases o.dst with
  | none => rfl
  | some d => simp

/-- The head of what is to do waits for a value. -/
theorem finish_ok {f : SF} {fr : Frame} {v : SV} {x : Value} (hf : SFR ρ f fr) (hv : VR ρ v x) {K : SF → Res} {Q : Res → Prop} (hbad : Q .bad) (hK : ∀ f', SFR ρ f' (fr.finish x) → fiOf f' = fiOf f → Q (K f')) : Q (finishK f v K) := by
  obtain ⟨fi, tm, todo, de, mode⟩ := f
  obtain ⟨h1, h2, h3, h4, h5⟩ := hf
  show Q (finish1 todo fi tm de mode v K)
  cases todo with
  | nil => exact hbad
  | cons i k =>
    show Q (finish2 i fi tm k de mode v K)
    generalize hft : fr.todo = ft at h3
    cases h3 with
    | @cons _ _ _ fk hi hk =>
      cases hi with
      | @inReg ops l is h ho =>
        show Q (finish3 l ops fi tm k de mode v K)
        cases l with
        | nil => exact hbad
        | cons o rest =>
          cases is with
          | nil => cases h
          | cons j js =>
            simp only [List.map_cons, List.cons.injEq] at h
            obtain ⟨hd, ho'⟩ := okOps_cons ho
            obtain ⟨tm', e, ht⟩ := setO_ok h2 hd hv (fun tm => K (.mk fi tm (.inReg ops rest :: k) de mode))
            show Q (setO (dstOf o) v tm _)
            rw [e]
            refine hK _ ?_ rfl
            have hfin : fr.finish x = { fr with tmps := (match o.dst with | some d => fr.tmps.setIfInBounds d x | none => fr.tmps), todo := .inRegion ops js :: fk } := by
              simp only [Frame.finish, hft, h.1, Option.bind_some]
              cases o.dst <;> rfl
            rw [hfin]
            have hz := size_set o fr.tmps x
            refine ⟨?_, ht, ?_, h4, h5⟩
            · cases fi; exact h1
            · simp only [hz]; exact .cons (.inReg h.2 ho') hk
      | @inRF l b h =>
        refine hK _ ?_ rfl
        have hfin : fr.finish x = { fr with todo := .endRangeFunc b.block :: fk } := by simp only [Frame.finish, hft]
        rw [hfin]
        exact ⟨by cases fi; exact h1, h2, .cons (.endRF h) hk, h4, h5⟩
      | _ => exact hbad
theorem raise_ok {f : SF} {fr : Frame} {c : List (SV × Bool)} {es : List PanicEntry} (hf : SFR ρ f fr) (hc : CR ρ c es) : SFR ρ (raise f c) (fr.raise es) ∧ fiOf (raise f c) = fiOf f := by
  obtain ⟨fi, tm, todo, de, mode⟩ := f
  obtain ⟨h1, h2, h3, h4, h5⟩ := hf
  generalize hm : fr.mode = fm at h5
  have hfi : ∀ m, FIR ρ fi { fr with mode := m } := by cases fi; exact fun _ => h1
  cases h5 with
  | run => simp only [raise, Frame.raise, hm]; exact ⟨⟨hfi _, h2, h3, h4, .pan hc⟩, rfl⟩
  | ret => simp only [raise, Frame.raise, hm]; exact ⟨⟨hfi _, h2, h3, h4, .pan hc⟩, rfl⟩
  | pan h => simp only [raise, Frame.raise, hm]; exact ⟨⟨hfi _, h2, h3, h4, .pan (hc.append h)⟩, rfl⟩
theorem exit_ok {n id : Nat} {l : List SI} {k : List Item} (h : IL ρ n l k) : match exitS l id with
    | none => exitTo id k = none
    | some l' => ∃ k', exitTo id k = some k' ∧ IL ρ n l' k' := by
  induction h with
  | nil => rfl
  | @cons i x l k hi ht ih =>
    show match exit2 i id l (exitS l id) with | none => _ | some l' => _
    cases hi with
    | inBlock id' =>
      show match exit1 (Nat.beq id' id) l (exitS l id) with | none => _ | some l' => _
      cases hb : Nat.beq id' id with
      | true =>
        have : (id' == id) = true := by rw [beq_iff_eq]; exact Nat.eq_of_beq_eq_true hb
        exact ⟨k, by simp [exitTo, this], ht⟩
      | false =>
        have : (id' == id) = false := by
          rw [beq_eq_false_iff_ne]; intro e; rw [e] at hb; simp at hb
        simp only [exitTo, this]; exact ih
    | _ => simp only [exitTo]; exact ih
theorem goto_ok {n lb : Nat} {l : List SI} {k : List Item} (h : IL ρ n l k) : match gotoS lb l with
    | none => gotoIn lb k = none
    | some l' => ∃ k', gotoIn lb k = some k' ∧ IL ρ n l' k' := by
  induction h with
  | nil => rfl
  | @cons i x l k hi ht ih =>
    cases hi with
    | @inScope c hc =>
      simp only [gotoS, gotoIn]
      cases hfl : findLabel c lb with
      | none => exact ih
      | some rest => exact ⟨_, rfl, .cons (.code (findLabel_ok lb hfl hc)) (.cons (.inScope hc) ht)⟩
    | _ => simp only [gotoS, gotoIn]; exact ih
/-- What an operation gave, as a guard sees it. -/
theorem yielded_ok {tm : T SV} {ts : Array Value} (h : TR ρ tm ts) (ops : Array Oper) (j : Nat) : syielded ops tm j = yielded ops ts j := by
  have key : ∀ d : Nat, boolOf (sget (pa d) tm) = match ts[d]? with | some (.bool b) => some b | _ => none := by
    intro d
    have hd := h d
    have hget : ts.getD d undef = (ts[d]?).getD undef := by rw [Array.getD_eq_getD_getElem?]
    rw [hget] at hd
    generalize hv : sget (pa d) tm = v at hd
    cases ht : ts[d]? with
    | none => rw [ht] at hd; cases hd <;> rfl
    | some x =>
      rw [ht] at hd
      simp only [Option.getD_some] at hd
      cases hd with
      | lit => cases x <;> rfl
      | any h => cases x <;> first | (cases h; done) | rfl
      | _ => rfl
  unfold syielded yielded
  rw [nthO_eq, Array.getElem?_toList]
  cases ops[j]? with
  | none => rfl
  | some o =>
    show yield2 (dstOf o) tm = _
    rw [dstOf_eq]
    simp only [Option.bind_some]
    cases o.dst with
    | none => rfl
    | some d => exact key d
end
end Go.Play

/- Play: what a result says of a machine; what an effect does to it. -/
namespace Go.Play
set_option linter.unusedVariables false
set_option linter.unusedSimpArgs false

/-- What a result says of a machine, whose world, names and heap are told. -/
def ResOK (P : Program) (G : Glob) (M : Nat → Prop) (ρ : Env) (h : H) (w : World) (f0 : FuncId) (base : List Frame) (m : Machine) : Res → Prop
  | .next f cs h' => ∃ ρ' w' fr crs, Steps P m (lone fr crs w') ∧ SR ρ' f0 base f cs fr crs ∧ Sim P G M ρ' h' w' ∧ Grow M ρ h w ρ' h' w'
  | .done v h' => ∃ ρ' w' fr x, Steps P m (lone fr base w') ∧ fr.fn = f0 ∧ fr.leaving P w' (.returned x) ∧ VR ρ' v x ∧ Sim P G M ρ' h' w' ∧ Grow M ρ h w ρ' h' w'
  | .pan c h' => ∃ ρ' w' fr es, Steps P m (lone fr base w') ∧ fr.fn = f0 ∧ fr.leaving P w' (.panicked es) ∧ CR ρ' c es ∧ Sim P G M ρ' h' w' ∧ Grow M ρ h w ρ' h' w'
  | .bad => True

section
variable {P : Program} {G : Glob} {M : Nat → Prop} {ρ ρ1 : Env} {h h1 : H} {w w1 : World} {f0 : FuncId} {base : List Frame}
theorem ResOK.bad {m : Machine} : ResOK P G M ρ h w f0 base m .bad := trivial
theorem ResOK.after {m m1 : Machine} {r : Res} (hst : Steps P m m1) (hg : Grow M ρ h w ρ1 h1 w1) (k : ResOK P G M ρ1 h1 w1 f0 base m1 r) : ResOK P G M ρ h w f0 base m r := by
  cases r with
  | next f cs h' => obtain ⟨ρ', w', fr, crs, k1, k2, k3, k4⟩ := k; exact ⟨ρ', w', fr, crs, hst.trans k1, k2, k3, hg.trans k4⟩
  | done v h' => obtain ⟨ρ', w', fr, x, k1, k2, k3, k4, k5, k6⟩ := k; exact ⟨ρ', w', fr, x, hst.trans k1, k2, k3, k4, k5, hg.trans k6⟩
  | pan v h' => obtain ⟨ρ', w', fr, x, k1, k2, k3, k4, k5, k6⟩ := k; exact ⟨ρ', w', fr, x, hst.trans k1, k2, k3, k4, k5, hg.trans k6⟩
  | bad => trivial
theorem ResOK.steps {m m1 : Machine} {r : Res} (hst : Steps P m m1) (k : ResOK P G M ρ h w f0 base m1 r) : ResOK P G M ρ h w f0 base m r := k.after hst .refl
theorem ResOK.here (s : Sim P G M ρ h w) {f : SF} {cs : List SF} {fr : Frame} {crs : List Frame} (hs : SR ρ f0 base f cs fr crs) : ResOK P G M ρ h w f0 base (lone fr crs w) (.next f cs h) :=
  ⟨ρ, w, fr, crs, .refl _ _, hs, s, .refl⟩

-- calls
theorem argsK_ok : ∀ (args : List SV) (t : T SV) (i : Pa) (K : T SV → Res), ∃ t', argsK args t i K = K t' ∧ ∀ p : Pa, sget p t' = if i.num ≤ p.num ∧ p.num < i.num + args.length then args.getD (p.num - i.num) undefS else sget p t := by
  intro args
  induction args with
  | nil => intro t i K; exact ⟨t, rfl, fun p => by rw [if_neg (by simp only [List.length_nil]; omega)]⟩
  | cons v l ih =>
    intro t i K
    obtain ⟨t', e, hg⟩ := ih (sset' i v t) (Pa.succ i) K
    refine ⟨t', ?_, fun p => ?_⟩
    · show sset i v t (fun t => argsK l t (Pa.succ i) K) = _
      rw [sset_eq]; exact e
    · rw [hg p, Pa.num_succ, sget_set]
      simp only [List.length_cons]
      by_cases h1 : p = i
      · subst h1
        rw [if_neg (by omega), if_pos rfl, if_pos (by omega)]
        simp
      · have hne : p.num ≠ i.num := fun e => h1 (Pa.num_inj e)
        rw [if_neg h1]
        by_cases h2 : i.num + 1 ≤ p.num ∧ p.num < i.num + 1 + l.length
        · rw [if_pos h2, if_pos (by omega)]
          obtain ⟨k, hk⟩ : ∃ k, p.num - i.num = k + 1 := ⟨p.num - i.num - 1, by omega⟩
          rw [hk, show p.num - (i.num + 1) = k by omega]; simp
        · rw [if_neg h2, if_neg (by omega)]
theorem enter_ok {f : FuncId} {args : List SV} {xs : Array Value} {kind : CallKind} (hl : VRL ρ args xs.toList) {K : SF → Res} {Q : Res → Prop} (hbad : Q .bad)
    (hK : ∀ f', SFR ρ f' (Frame.enter P f xs kind) → fiOf f' = .mk f kind none → (∃ fn, P.funcs[f]? = some fn ∧ fn.body.isSome = true) → Q (K f')) : Q (enterK P f args kind K) := by
  unfold enterK
  cases hf : funcO P f with
  | none => exact hbad
  | some fn =>
    rw [funcO_eq] at hf
    show Q (enter2 fn.body f fn.ntmps args kind K)
    cases hb : fn.body with
    | none => exact hbad
    | some c =>
      show Q (enter3 (okCode c fn.ntmps) c f args kind K)
      cases hc : okCode c fn.ntmps with
      | false => exact hbad
      | true =>
        show Q (argsK args .nil .e fun tm => K (.mk (.mk f kind none) tm [.code c] [] .run))
        obtain ⟨t', e, hg⟩ := argsK_ok args .nil .e (fun tm => K (.mk (.mk f kind none) tm [.code c] [] .run))
        rw [e]
        have hfr : Frame.enter P f xs kind = { fn := f, tmps := xs ++ Array.replicate (fn.ntmps - xs.size) undef, todo := [.code c], defers := [], mode := .run, kind } := by
          simp [Frame.enter, hf, hb]
        refine hK _ ?_ rfl ⟨fn, hf, by rw [hb]; rfl⟩
        rw [hfr]
        refine ⟨⟨rfl, rfl, rfl⟩, ?_, .cons (.code (okCode_mono ?_ hc)) .nil, .nil, .run⟩
        · intro i
          rw [hg (pa i), sget_nil, num_pa]
          have hn : Pa.num .e = 0 := rfl
          have hlen : args.length = xs.size := by rw [hl.length, Array.length_toList]
          simp only [hn, Nat.zero_le, true_and, Nat.zero_add, Nat.sub_zero, Array.getD_eq_getD_getElem?]
          by_cases hi : i < args.length
          · rw [if_pos hi]
            obtain ⟨x, hx, hv⟩ := hl.get i args[i] (by simp [hi])
            rw [Array.getElem?_append_left (by omega), ← Array.getElem?_toList, hx]
            simp only [List.getD_eq_getElem?_getD, List.getElem?_eq_getElem hi, Option.getD_some]
            exact hv
          · rw [if_neg hi, Array.getElem?_append_right (by omega)]
            have : ((Array.replicate (fn.ntmps - xs.size) undef)[i - xs.size]?).getD undef = undef := by
              rw [Array.getElem?_replicate]; split <;> rfl
            rw [this]; exact .lit _
        · simp; omega

-- rounds
theorem obj_loop (s : Sim P G M ρ h w) {o : Pa} {b : Loc} {st : LoopState} {pend : Option Code} {fn : FuncId} {tm : T SV} {ps : Array Tmp} {as bd : Code} {d : Pa} (hb : ρ o = some b) (ho : hget h o = .loop st pend fn tm ps as bd d) :
    ∃ (ts : Array Value) (bd' : Loc), w.heap[b.block]? = some (.loop { state := st, pending := pend, fn, tmps := ts, params := ps, assign := as, body := bd, defers := bd'.block }) ∧ TR ρ tm ts ∧ okTmps ps.toList ts.size = true ∧ okCode as ts.size = true ∧ okCode bd ts.size = true ∧ (∀ c, pend = some c → ∀ n, okCode c n = true) ∧ ρ d = some bd' := by
  have hlive := s.live o b hb
  rw [ho] at hlive
  cases hk : w.heap[b.block]? with
  | none => rw [hk] at hlive; cases hlive
  | some ob => rw [hk] at hlive; cases hlive with | loop ht hps has hbd hpd hd => exact ⟨_, _, rfl, ht, hps, has, hbd, hpd, hd⟩
theorem zipSetK_ok : ∀ (ps : List Tmp) {l : List SV} {xs : List Value} {t : T SV} {ts : Array Value} (K : T SV → Res), VRL ρ l xs → TR ρ t ts → okTmps ps ts.size = true →
    ∃ t', zipSetK ps l t K = K t' ∧ TR ρ t' ((ps.zip xs).foldl (fun ts p => ts.setIfInBounds p.1 p.2) ts) ∧ ((ps.zip xs).foldl (fun ts p => ts.setIfInBounds p.1 p.2) ts).size = ts.size := by
  intro ps
  induction ps with
  | nil => intro l xs t ts K _ ht _; exact ⟨t, rfl, ht, rfl⟩
  | cons p ps ih =>
    intro l xs t ts K hl ht hok
    cases hl with
    | nil => exact ⟨t, rfl, ht, rfl⟩
    | @cons v x l xs hv htl =>
      change andB (Nat.ble (Nat.succ p) ts.size) (okTmps ps ts.size) = true at hok
      rw [andB_eq, Bool.and_eq_true] at hok
      have hp : p < ts.size := Nat.le_of_ble_eq_true hok.1
      obtain ⟨t', e, h2, h3⟩ := ih K htl (ht.set hp hv) (by simpa using hok.2)
      refine ⟨t', ?_, h2, by simpa using h3⟩
      show sset (pa p) v t (fun t => zipSetK ps l t K) = _
      rw [sset_eq]; exact e
theorem apply_enter {fr : Frame} {crs : List Frame} {l : List SI} {n : Nat} (hl : IL ρ n l fr.todo) {q : Sem Next} {g : FuncId} {xs : Array Value} {w' : World} (hr : q.run P w = .ok (.enter g xs) w') :
    (stepG.apply P true fr crs none q w).bare = .go { frame := Frame.enter P g xs .normal, callers := fr :: crs, status := .running, dying := none } w' := by
  obtain ⟨fn, tmps, todo, defers, mode, kind, ro⟩ := fr
  cases hl with
  | nil => simp only [stepG.apply, Sem.runT_eq, hr, GStep.bare_after, if_true]; rfl
  | cons hi _ => cases hi <;> (simp only [stepG.apply, Sem.runT_eq, hr, GStep.bare_after, if_true]; rfl)
theorem mode_run {m : FrameMode} (h : MR ρ .run m) : m = .run := by cases h; rfl
theorem apply_ok (s : Sim P G M ρ h w) {fi : FI} {tm : T SV} {todo : List SI} {de : List SDef} {cs : List SF} {fr : Frame} {crs : List Frame} (hs : SR ρ f0 base (.mk fi tm todo de .run) cs fr crs)
    {q : Sem Next} {e : Eff} (he : EffOK P G M ρ h w (q.run P w) e) {fr0 : Frame} {w0 : World}
    (hgo : (stepG P true { frame := fr0, callers := crs, status := .running, dying := none } w0).bare = (stepG.apply P true fr crs none q w).bare) :
    ResOK P G M ρ h w f0 base (lone fr0 crs w0) (effE e P fi tm todo de cs h) := by
  have hf := hs.top
  cases e with
  | val v h' =>
    obtain ⟨ρ', w', s', g', hr⟩ := he
    change ResOK P G M ρ h w f0 base _ (finishK (.mk fi tm todo de .run) v fun f => .next f cs h')
    have key : ∀ x, VR ρ' v x → Go.step P (lone fr0 crs w0) = .next (lone (fr.finish x) crs w') → ResOK P G M ρ h w f0 base (lone fr0 crs w0) (finishK (.mk fi tm todo de .run) v fun f => .next f cs h') := by
      intro x hv hst
      refine finish_ok (SFR.mono g'.keep hf) hv .bad fun f' hf' hfi => ?_
      exact ⟨ρ', w', _, crs, .one hst, hs.re g'.keep hf' hfi, s', g'⟩
    rcases hr with ⟨x, hr, hv⟩ | ⟨hr, rfl⟩
    · exact key x hv (step_lone_go (by rw [hgo]; simp only [stepG.apply, Sem.runT_eq, hr, GStep.bare_after, if_true]; rfl))
    · exact key undef (.lit _) (step_lone_go (by rw [hgo]; simp only [stepG.apply, Sem.runT_eq, hr, GStep.bare_after, if_true]; rfl))
  | enter g args =>
    obtain ⟨xs, hr, hl⟩ := he
    change ResOK P G M ρ h w f0 base _ (enterK P g args .normal fun f => .next f (.mk fi tm todo de .run :: cs) h)
    refine enter_ok hl .bad fun f' hf' hfi _ => ?_
    refine ⟨ρ, w, _, fr :: crs, .one (step_lone_go ?_), .cons hf' hs, s, .refl⟩
    rw [hgo]; exact apply_enter hf.todo hr
  | round l args =>
    obtain ⟨b, xs, hb, hr, hl⟩ := he
    change ResOK P G M ρ h w f0 base _ (round1 (hget h l) l args (.mk fi tm todo de .run) cs h)
    cases ho : hget h l with
    | loop st pend fn tms ps as bd d =>
      change ResOK P G M ρ h w f0 base _ (round2 (Nat.beq (lenS args) ps.size) fn l ps.toList args tms as bd (.mk fi tm todo de .run) cs h)
      cases hn : Nat.beq (lenS args) ps.size with
      | false => exact .bad
      | true =>
        obtain ⟨ts, bd', hk, h1, h2, h3, h4, _, _⟩ := obj_loop s hb ho
        have hn : args.length = ps.size := by rw [← lenS_eq]; exact Nat.eq_of_beq_eq_true hn
        have hlen : args.length = xs.size := by rw [hl.length, Array.length_toList]
        obtain ⟨t', e', ht', hz'⟩ := zipSetK_ok ps.toList (fun tm' => .next (.mk (.mk fn .normal (some l)) tm' [.code as, .beginRound, .code bd] [] .run) (.mk fi tm todo de .run :: cs) h) hl h1 h2
        change ResOK P G M ρ h w f0 base _ (zipSetK ps.toList args tms fun tm' => .next (.mk (.mk fn .normal (some l)) tm' [.code as, .beginRound, .code bd] [] .run) (.mk fi tm todo de .run :: cs) h)
        rw [e']
        let ts' := (ps.toList.zip xs.toList).foldl (fun ts p => ts.setIfInBounds p.1 p.2) ts
        have hts : (ps.zip xs).foldl (fun tmps (x : Tmp × Value) => tmps.setIfInBounds x.1 x.2) ts = ts' := by
          rw [← Array.foldl_toList, Array.toList_zip]
        have hrun : (Instr.yield b.block xs).run P w = .ok (.round b.block fn ts' as bd) w := by
          have hget : (getObj b.block).run P w = .ok (.loop { state := st, pending := pend, fn, tmps := ts, params := ps, assign := as, body := bd, defers := bd'.block }) w := run_getIter hk (by intros; simp)
          have hsz : ¬ (xs.size ≠ ps.size) := by omega
          simp only [Instr.yield, Instr.getLoop, Sem.run_bind, hget, Result.andThen_ok, Sem.run_pure, hsz, if_false]
          rw [← hts]
        refine ⟨ρ, w, Frame.round b.block fn ts' as bd .normal, fr :: crs, .one (step_lone_go ?_), .cons ?_ hs, s, .refl⟩
        · rw [hgo]; simp only [stepG.apply, Sem.runT_eq, hr, hrun, GStep.bare_after, if_true]; rfl
        · refine ⟨⟨rfl, rfl, b, hb, rfl⟩, ht', ?_, .nil, .run⟩
          show IL ρ ts'.size _ _
          rw [hz']
          exact .cons (.code h3) (.cons .beginRound (.cons (.code h4) .nil))
    | _ => exact .bad
  | recover =>
    have hr : q.run P w = .ok .recover w := he
    change ResOK P G M ρ h w f0 base _ (recoverE fi (.mk fi tm todo de .run) cs h)
    obtain ⟨fn, kind, ro⟩ := fi
    cases ro with
    | some l => exact .bad
    | none =>
      obtain ⟨hfn, hk, hro⟩ := hf.fi
      have hro : fr.roundOf = none := hro
      have hap : ∀ {v : Value} {crs' : List Frame}, tryRecover fr crs = some (v, crs') → Go.step P (lone fr0 crs w0) = .next (lone (fr.finish v) crs' w) := by
        intro v crs' ht
        exact step_lone_go (by rw [hgo]; simp only [stepG.apply, Sem.runT_eq, hr, GStep.bare_after, if_true, hro, ht]; rfl)
      have hap0 : tryRecover fr crs = none → Go.step P (lone fr0 crs w0) = .next (lone (fr.finish .nilIface) crs w) := by
        intro ht
        exact step_lone_go (by rw [hgo]; simp only [stepG.apply, Sem.runT_eq, hr, GStep.bare_after, if_true, hro, ht]; rfl)
      cases kind with
      | deferred =>
        simp only [recoverE]
        split
        · rename_i fi' tm' todo' de' v older rest
          cases hs with
          | @cons _ _ _ _ gr crs' _ t =>
            have hg := t.top
            have hm := hg.mode
            generalize hmm : gr.mode = gm at hm
            cases hm with
            | pan hc =>
              cases hc with
              | @cons _ x _ _ es hv hc =>
                have ht : tryRecover fr (gr :: crs') = some (x, { gr with mode := .panicking ({ v := x, recovered := true } :: es) } :: crs') := by
                  simp only [tryRecover, hk, hmm]
                have hg' : SFR ρ (.mk fi' tm' todo' de' (.pan ((v, true) :: older))) { gr with mode := .panicking ({ v := x, recovered := true } :: es) } :=
                  ⟨by have := hg.fi; cases fi'; exact this, hg.tmps, hg.todo, hg.defers, .pan (.cons hv hc)⟩
                refine finish_ok (f := .mk (.mk fn .deferred none) tm todo de .run) hf hv .bad fun f' hf' hfi => ?_
                exact ⟨ρ, w, _, _, .one (hap ht), .cons hf' (t.re (.refl _) hg' rfl), s, .refl⟩
        · rename_i fi' tm' todo' de' rest
          cases hs with
          | @cons _ _ _ _ gr crs' _ t =>
            have hg := t.top
            have hm := hg.mode
            generalize hmm : gr.mode = gm at hm
            cases hm with
            | ret =>
              have ht : tryRecover fr (gr :: crs') = none := by simp only [tryRecover, hk, hmm]
              refine finish_ok (f := .mk (.mk fn .deferred none) tm todo de .run) hf (.lit .nilIface) .bad fun f' hf' hfi => ?_
              exact ⟨ρ, w, _, _, .one (hap0 ht), .cons hf' t, s, .refl⟩
        · exact .bad
      | normal =>
        have ht : tryRecover fr crs = none := by unfold tryRecover; rw [hk]
        refine finish_ok (f := .mk (.mk fn .normal none) tm todo de .run) hf (.lit .nilIface) .bad fun f' hf' hfi => ?_
        exact ⟨ρ, w, _, _, .one (hap0 ht), hs.re (.refl _) hf' hfi, s, .refl⟩
      | _ => exact .bad
  | defer d =>
    obtain ⟨d', hr, hd⟩ := he
    change ResOK P G M ρ h w f0 base _ (deferE (roOf fi) (.mk fi tm todo de .run) cs h d)
    obtain ⟨fn, kind, ro⟩ := fi
    cases ro with
    | some l => exact .bad
    | none =>
      change ResOK P G M ρ h w f0 base _ (finishK (.mk (.mk fn kind none) tm todo (d :: de) .run) undefS fun f => .next f cs h)
      have hf2 : SFR ρ (.mk (.mk fn kind none) tm todo (d :: de) .run) { fr with defers := d' :: fr.defers } := ⟨hf.fi, hf.tmps, hf.todo, .cons hd hf.defers, hf.mode⟩
      refine finish_ok hf2 (.lit undef) .bad fun f' hf' hfi => ?_
      refine ⟨ρ, w, _, crs, .one (step_lone_go ?_), hs.re (.refl _) hf' hfi, s, .refl⟩
      rw [hgo]; simp only [stepG.apply, Sem.runT_eq, hr, GStep.bare_after, if_true]; rfl
  | panic v =>
    obtain ⟨x, hr, hv⟩ := he
    change ResOK P G M ρ h w f0 base _ (.next (.mk fi tm todo de (.pan [(v, false)])) cs h)
    have hra := raise_ok (c := [(v, false)]) (es := [{ v := x, recovered := false }]) hf (.cons hv .nil)
    refine ⟨ρ, w, fr.raise [{ v := x, recovered := false }], crs, .one (step_lone_go ?_), hs.re (.refl _) hra.1 rfl, s, .refl⟩
    rw [hgo]; simp only [stepG.apply, Sem.runT_eq, hr, GStep.bare_after, if_true]; rfl
  | bad => exact .bad
end
end Go.Play

/- Play: returns, deferred calls, panics; the operations of a region in their order. -/
namespace Go.Play
set_option linter.unusedVariables false
set_option linter.unusedSimpArgs false

section
variable {P : Program} {G : Glob} {M : Nat → Prop} {ρ ρ1 : Env} {h h1 : H} {w w1 : World} {f0 : FuncId} {base : List Frame}

-- results
theorem resultV_ok (s : Sim P G M ρ h w) {tm : T SV} {ts : Array Value} (ht : TR ρ tm ts) {r : ResultVar} {v : SV} (hr : resultV r P G h tm = some v) :
    ∃ x, ((match r with | .tmp t => pure (ts.getD t undef) | .cell a t => do loadVar t (← asAddr (ts.getD a undef))) : Sem Value).run P w = .ok x w ∧ VR ρ v x := by
  cases r with
  | tmp t => cases hr; exact ⟨_, rfl, ht t⟩
  | cell a t =>
    change resultC (loadN (sizeO P t) (sget (pa a) tm) G h) (aggT P t) = some v at hr
    cases hn : sizeO P t with
    | none => rw [hn] at hr; cases hr
    | some n =>
      rw [hn] at hr
      change resultC (loadC (sget (pa a) tm) G h n) (aggT P t) = some v at hr
      cases hl : loadC (sget (pa a) tm) G h n with
      | none => rw [hl] at hr; cases hr
      | some l =>
        rw [hl] at hr
        change mkVal (aggT P t) l = some v at hr
        obtain ⟨bk, o, hx0, xs, hlen, hrel, hx⟩ := load_cells s (ht a) hl
        cases hb : aggT P t with
        | none => rw [hb] at hr; cases hr
        | some b =>
          rw [hb] at hr
          have hrun := run_loadAt (P := P) (w := w) (bk := bk) (o := o) (xs := xs) hb (by rw [hlen]; exact hn) hx
          have hadr : ∀ {α : Type} (k : Addr → Sem α), ((asAddr (ts.getD a undef)) >>= k).run P w = (k ⟨bk, o, none⟩).run P w := by
            intro α k
            rw [hx0]; rfl
          rcases mkVal_rel hrel hr with ⟨rfl, hv⟩ | ⟨rfl, x, rfl, hv⟩
          · exact ⟨_, by simp only []; rw [hadr]; exact hrun.1 rfl, hv⟩
          · exact ⟨_, by simp only []; rw [hadr]; exact hrun.2 rfl x rfl, hv⟩
theorem resultsL_ok (s : Sim P G M ρ h w) {tm : T SV} {ts : Array Value} (ht : TR ρ tm ts) : ∀ (l : List ResultVar) {vs : List SV}, resultsL l P G h tm = some vs →
    ∃ xs : List Value, (l.mapM (fun r => (match r with | .tmp t => pure (ts.getD t undef) | .cell a t => do loadVar t (← asAddr (ts.getD a undef)) : Sem Value))).run P w = .ok xs w ∧ VRL ρ vs xs := by
  intro l
  induction l with
  | nil => intro vs hv; cases hv; exact ⟨[], rfl, .nil⟩
  | cons r l ih =>
    intro vs hv
    change consO2 (resultV r P G h tm) (resultsL l P G h tm) = some vs at hv
    cases h1 : resultV r P G h tm with
    | none => rw [h1] at hv; cases hv
    | some v =>
      rw [h1] at hv
      change consS (resultsL l P G h tm) v = some vs at hv
      cases h2 : resultsL l P G h tm with
      | none => rw [h2] at hv; cases hv
      | some us =>
        rw [h2] at hv
        cases hv
        obtain ⟨x, hx, hvx⟩ := resultV_ok s ht h1
        obtain ⟨xs, hxs, hrel⟩ := ih h2
        refine ⟨x :: xs, ?_, .cons hvx hrel⟩
        rw [List.mapM_cons]
        simp only [Sem.run_bind, hx, Result.andThen_ok, hxs, Sem.run_pure]
theorem results_ok (s : Sim P G M ρ h w) {tm : T SV} {ts : Array Value} (ht : TR ρ tm ts) {fn : FuncId} {v : SV} (hv : results1 (funcO P fn) P G h tm = some v) :
    ∃ f x, P.funcs[fn]? = some f ∧ (results f ts).run P w = .ok x w ∧ VR ρ v x := by
  cases hf : funcO P fn with
  | none => rw [hf] at hv; cases hv
  | some f =>
    rw [hf] at hv
    change tupO (resultsL f.results.toList P G h tm) = some v at hv
    cases hl : resultsL f.results.toList P G h tm with
    | none => rw [hl] at hv; cases hv
    | some vs =>
      rw [hl] at hv
      cases hv
      obtain ⟨xs, hxs, hrel⟩ := resultsL_ok s ht _ hl
      rw [funcO_eq] at hf
      have hm : (f.results.mapM (fun r => (match r with | .tmp t => pure (ts.getD t undef) | .cell a t => do loadVar t (← asAddr (ts.getD a undef)) : Sem Value))).run P w = .ok xs.toArray w := by
        rw [Array.mapM_eq_mapM_toList]
        simp only [Sem.run_map, hxs, Result.andThen_ok]
      refine ⟨f, if hz : xs.toArray.size = 1 then xs.toArray[0] else .tuple xs.toArray, hf, ?_, ?_⟩
      · unfold results
        simp only [Sem.run_bind]
        refine (congrArg (fun r => Result.andThen r _) hm).trans ?_
        rfl
      · cases hrel with
        | nil => exact .tup .nil
        | cons h1 t =>
          cases t with
          | nil => exact h1
          | cons h2 t => rw [dif_neg (by simp)]; exact .tup (.cons h1 (.cons h2 t))

-- returns
theorem SR.inv {f : SF} {cs : List SF} {fr : Frame} {crs : List Frame} (hs : SR ρ f0 base f cs fr crs) :
    (cs = [] ∧ crs = base ∧ fiOf f = .mk f0 .normal none) ∨ ∃ g cs' gr crs', cs = g :: cs' ∧ crs = gr :: crs' ∧ SR ρ f0 base g cs' gr crs' := by
  cases hs with
  | last _ hf => exact .inl ⟨rfl, rfl, hf⟩
  | cons _ t => exact .inr ⟨_, _, _, _, rfl, rfl, t⟩
theorem bare_doReturn {fr cr : Frame} {crs : List Frame} {x : Value} : (doReturn P true fr (cr :: crs) none x w).bare = doReturn P true fr (cr :: crs) none x w := by
  unfold doReturn
  cases fr.kind <;> rfl
theorem doReturn_ok (s : Sim P G M ρ h w) {kind : CallKind} {fr : Frame} (hk : fr.kind = kind) {c : SF} {rest : List SF} {cr : Frame} {crs : List Frame} (t : SR ρ f0 base c rest cr crs) {v : SV} {x : Value} (hv : VR ρ v x)
    {fr0 : Frame} {w0 : World} (hgo : (stepG P true { frame := fr0, callers := cr :: crs, status := .running, dying := none } w0).bare = (doReturn P true fr (cr :: crs) none x w).bare) :
    ResOK P G M ρ h w f0 base (lone fr0 (cr :: crs) w0) (doReturn2 kind c rest v h) := by
  cases kind with
  | normal =>
    refine finish_ok t.top hv .bad fun f' hf' hfi => ?_
    refine ⟨ρ, w, _, _, .one (step_lone_go ?_), t.re (.refl _) hf' hfi, s, .refl⟩
    rw [hgo, bare_doReturn]; simp only [doReturn, hk]
  | deferred =>
    change ResOK P G M ρ h w f0 base _ (retDeferred c rest h)
    obtain ⟨fi, tm, todo, de, mode⟩ := c
    have hc := t.top
    have hm := hc.mode
    generalize hmm : cr.mode = cm at hm
    have hfi : ∀ m, FIR ρ fi { cr with mode := m } := by have := hc.fi; cases fi; exact fun _ => this
    cases hm with
    | run => exact .bad
    | ret =>
      change ResOK P G M ρ h w f0 base _ (.next (.mk fi tm todo de .ret) rest h)
      refine ⟨ρ, w, cr, crs, .one (step_lone_go ?_), t, s, .refl⟩
      rw [hgo, bare_doReturn]; simp only [doReturn, hk, hmm]
    | pan hcr =>
      cases hcr with
      | nil =>
        change ResOK P G M ρ h w f0 base _ (.next (.mk fi tm todo de (.pan [])) rest h)
        refine ⟨ρ, w, cr, crs, .one (step_lone_go ?_), t, s, .refl⟩
        rw [hgo, bare_doReturn]; simp only [doReturn, hk, hmm]
      | @cons u y r l es hu ht =>
        cases r with
        | false =>
          change ResOK P G M ρ h w f0 base _ (.next (.mk fi tm todo de (.pan ((u, false) :: l))) rest h)
          refine ⟨ρ, w, cr, crs, .one (step_lone_go ?_), t, s, .refl⟩
          rw [hgo, bare_doReturn]; simp only [doReturn, hk, hmm]
        | true =>
          change ResOK P G M ρ h w f0 base _ (.next (.mk fi tm todo de .ret) rest h)
          have hdrop : es.dropWhile (fun e => !e.goexit) = [] := by
            have hq := ht.quiet
            clear ht hmm hgo
            induction es with
            | nil => rfl
            | cons e es ih =>
              rw [List.dropWhile_cons, hq e (by simp)]
              simpa using ih fun e' he' => hq e' (by simp [he'])
          refine ⟨ρ, w, { cr with mode := .returning }, crs, .one (step_lone_go ?_), t.re (.refl _) ⟨hfi _, hc.tmps, hc.todo, hc.defers, .ret⟩ rfl, s, .refl⟩
          rw [hgo, bare_doReturn]; simp only [doReturn, hk, hmm, hdrop]
  | _ => exact .bad
theorem stepG_return {fr : Frame} {crs : List Frame} (hm : fr.mode = .returning) (hd : fr.defers = []) {fn : Func} (hf : P.funcs[fr.fn]? = some fn) {x : Value} (hr : (results fn fr.tmps).run P w = .ok x w) :
    (stepG P true { frame := fr, callers := crs, status := .running, dying := none } w).bare = (doReturn P true fr crs none x w).bare := by
  simp [stepG, unwind, hm, hd, hf, hr]
/-- A frame that has no deferred call left returns. -/
theorem ret_ok (s : Sim P G M ρ h w) {fn : FuncId} {kind : CallKind} {tm : T SV} {todo : List SI} {cs : List SF} {fr : Frame} {crs : List Frame} (hs : SR ρ f0 base (.mk (.mk fn kind none) tm todo [] .ret) cs fr crs) :
    ResOK P G M ρ h w f0 base (lone fr crs w) (retO (results1 (funcO P fn) P G h tm) cs kind h) := by
  cases hv : results1 (funcO P fn) P G h tm with
  | none => exact .bad
  | some v =>
    have hf := hs.top
    obtain ⟨hfn, hk, _⟩ := hf.fi
    obtain ⟨f, x, h1, h2, h3⟩ := results_ok s hf.tmps hv
    rw [← hfn] at h1
    have hm : fr.mode = .returning := by have := hf.mode; generalize fr.mode = m at this; cases this; rfl
    have hd : fr.defers = [] := by have := hf.defers; generalize fr.defers = d at this; cases this; rfl
    have hgo := stepG_return (crs := crs) hm hd h1 h2
    change ResOK P G M ρ h w f0 base _ (doReturnS cs kind v h)
    rcases hs.inv with ⟨rfl, rfl, hfi⟩ | ⟨g, cs', gr, crs', rfl, rfl, t⟩
    · have hfi : FI.mk fn kind none = .mk f0 .normal none := hfi
      injection hfi with e1 e2
      subst e1 e2
      exact ⟨ρ, w, fr, x, .refl _ _, hfn, ⟨hm, hd, hk, f, h1, h2⟩, h3, s, .refl⟩
    · exact doReturn_ok s hk t h3 hgo
/-- A panic leaves a frame that has no deferred call left. -/
theorem unwindP_ok (s : Sim P G M ρ h w) (hf0 : ∃ fn, P.funcs[f0]? = some fn) {fi : FI} {tm : T SV} {todo : List SI} {chain : List (SV × Bool)} {cs : List SF} {fr : Frame} {crs : List Frame} (hs : SR ρ f0 base (.mk fi tm todo [] (.pan chain)) cs fr crs) :
    ResOK P G M ρ h w f0 base (lone fr crs w) (unwindP cs chain h) := by
  have hf := hs.top
  obtain ⟨es, hm, hc⟩ : ∃ es, fr.mode = .panicking es ∧ CR ρ chain es := by have := hf.mode; generalize fr.mode = m at this; cases this with | pan hc => exact ⟨_, rfl, hc⟩
  have hd : fr.defers = [] := by have := hf.defers; generalize fr.defers = d at this; cases this; rfl
  have hcat : fr.catches P = false := by
    have := hf.todo
    unfold Frame.catches
    generalize fr.todo = ft at this
    cases P.funcs[fr.fn]? with
    | some _ => rfl
    | none => cases this with
      | nil => rfl
      | cons hi _ => cases hi <;> rfl
  rcases hs.inv with ⟨rfl, rfl, hfi⟩ | ⟨g, cs', gr, crs', rfl, rfl, t⟩
  · have hfi : fi = .mk f0 .normal none := hfi
    subst hfi
    obtain ⟨hfn, hk, _⟩ := hf.fi
    exact ⟨ρ, w, fr, es, .refl _ _, hfn, ⟨hm, hd, by rw [hfn]; exact hf0⟩, hc, s, .refl⟩
  · obtain ⟨r1, r2⟩ := raise_ok t.top hc
    refine ⟨ρ, w, gr.raise es, crs', .one (step_lone_go ?_), t.re (.refl _) r1 r2, s, .refl⟩
    simp [stepG, unwind, hm, hd, hcat]

-- deferred calls
theorem obj_deferred (s : Sim P G M ρ h w) {o : Pa} {b : Loc} {l : List SDef} (hb : ρ o = some b) (ho : hget h o = .deferred (some l)) : ∃ m, w.heap[b.block]? = some (.deferred (some m)) ∧ DRL ρ l m := by
  have hlive := s.live o b hb
  rw [ho] at hlive
  cases hk : w.heap[b.block]? with
  | none => rw [hk] at hlive; cases hlive
  | some ob => rw [hk] at hlive; cases hlive with | defS h => exact ⟨_, rfl, h⟩
theorem unwindS_ok (s : Sim P G M ρ h w) (hf0 : ∃ fn, P.funcs[f0]? = some fn) {fi : FI} {tm : T SV} {todo : List SI} {de : List SDef} {mode : SMode} (hne : mode ≠ .run) {cs : List SF} {fr : Frame} {crs : List Frame} (hs : SR ρ f0 base (.mk fi tm todo de mode) cs fr crs) :
    ResOK P G M ρ h w f0 base (lone fr crs w) (unwindS de P G fi tm todo mode cs h) := by
  have hf := hs.top
  cases de with
  | nil =>
    change ResOK P G M ρ h w f0 base _ (unwind1 mode P G fi tm cs h)
    cases mode with
    | run => exact absurd rfl hne
    | ret =>
      change ResOK P G M ρ h w f0 base _ (unwind2 fi P G tm cs h)
      obtain ⟨fn, kind, ro⟩ := fi
      cases ro with
      | some l => exact .bad
      | none => exact ret_ok s hs
    | pan chain => exact unwindP_ok s hf0 hs
  | cons d ds =>
    change ResOK P G M ρ h w f0 base _ (unwindD d P fi tm todo ds mode cs h)
    have hfi : ∀ l, FIR ρ fi { fr with defers := l } := by have := hf.fi; cases fi; exact fun _ => this
    have hstep : ∃ d' ds', fr.defers = d' :: ds' ∧ DR ρ d d' ∧ DRL ρ ds ds' := by
      have := hf.defers
      generalize fr.defers = fd at this
      cases this with | cons h t => exact ⟨_, _, rfl, h, t⟩
    obtain ⟨d', ds', hfd, hd, hds⟩ := hstep
    have hun : stepG P true { frame := fr, callers := crs, status := .running, dying := none } w = unwind P true fr crs none w := by
      have hm := hf.mode
      generalize hmm : fr.mode = fm at hm
      cases hm with
      | run => exact absurd rfl hne
      | ret => simp only [stepG, hmm]
      | pan _ => simp only [stepG, hmm]
    cases d with
    | call f args =>
      change ResOK P G M ρ h w f0 base _ (ifR (plainF (funcO P f)) (enterK P f args .deferred fun f => .next f (.mk fi tm todo ds mode :: cs) h))
      cases hpl : plainF (funcO P f) with
      | false => exact .bad
      | true =>
        cases hd with
        | @call _ _ args' cap hl =>
          change ResOK P G M ρ h w f0 base _ (enterK P f args .deferred fun f => .next f (.mk fi tm todo ds mode :: cs) h)
          refine enter_ok hl .bad fun f' hf' hfi' hfn => ?_
          obtain ⟨fn, hfn, hbody⟩ := hfn
          have hname : (fn.name == "runtime.NumGoroutine") = false := by
            rw [funcO_eq, hfn] at hpl
            change notB (fn.name == "runtime.NumGoroutine") = true at hpl
            rw [notB_eq] at hpl
            simpa using hpl
          have hbody : fn.body.isNone = false := by cases hb : fn.body with
            | none => rw [hb] at hbody; cases hbody
            | some c => rfl
          have hinv : (invoke (.fn (.func f) cap) args').run P w = .ok (.enter f (args' ++ cap)) w := by
            simp only [invoke, callFunc, Sem.run_bind, run_program, Result.andThen_ok, hfn, hname, hbody, Bool.false_eq_true, if_false, Sem.run_pure]
          refine ⟨ρ, w, _, { fr with defers := ds' } :: crs, .one (step_lone_go ?_), .cons hf' (hs.re (.refl _) (f' := .mk fi tm todo ds mode) ⟨hfi _, hf.tmps, hf.todo, hds, hf.mode⟩ rfl), s, .refl⟩
          rw [hun]
          simp only [unwind, hfd]
          have hmm : fr.mode ≠ .run := by
            have hm := hf.mode
            intro e; rw [e] at hm; cases hm; exact hne rfl
          simp [callDeferred, Sem.runT_eq, hinv]
    | collected o =>
      change ResOK P G M ρ h w f0 base _ (collectE (hget h o) o fi tm todo ds mode cs h)
      cases ho : hget h o with
      | deferred l =>
        cases l with
        | none => exact .bad
        | some cl =>
          cases hd with
          | @collected _ b hb =>
            obtain ⟨m, hk, hm⟩ := obj_deferred s hb ho
            change ResOK P G M ρ h w f0 base _ (putR h o (.deferred none) fun h => .next (.mk fi tm todo (appD cl ds) mode) cs h)
            rw [putR_eq, appD_eq]
            have ht := turn_setMap (nb := .deferred none) hk
            obtain ⟨s2, g2⟩ := s.put (ob := .deferred none) hb (by rw [ho]; rfl) ht.os ht.tape ht.output ht.size ht.other (by rw [ht.here]; exact .defN)
            have hrun : (Instr.takeDeferred b.block).run P w = .ok m { w with heap := w.heap.setIfInBounds b.block (.deferred none) } := by
              have hget := run_getIter (P := P) hk (by intros; simp)
              have hset := run_setIter (P := P) (nb := .deferred none) hk (by intros; simp)
              simp only [Instr.takeDeferred, Sem.run_bind, hget, Result.andThen_ok, hset, Sem.run_pure]
            refine ⟨ρ, _, { fr with defers := m ++ ds' }, crs, .one (step_lone_go ?_), hs.re (.refl _) (f' := .mk fi tm todo (cl ++ ds) mode) ⟨hfi _, hf.tmps, hf.todo, hm.append hds, hf.mode⟩ rfl, s2, g2⟩
            rw [hun]
            simp only [unwind, hfd, Sem.runT_eq, hrun, GStep.bare_after]
            rfl
      | _ => exact .bad

-- leaving a frame
theorem leave_ok (s : Sim P G M ρ h w) {fi : FI} {tm : T SV} {todo : List SI} {de : List SDef} {cs : List SF} {fr : Frame} {crs : List Frame} (hs : SR ρ f0 base (.mk fi tm todo de .run) cs fr crs)
    (jump : Option Code) (hj : ∀ c, jump = some c → ∀ n, okCode c n = true)
    (hst : isRet jump = true → fr.roundOf = none → Go.step P (lone fr crs w) = .next (lone { fr with mode := .returning } crs w))
    (hrd : ∀ l v w', fr.roundOf = some l → (Instr.endRound l jump).run P w = .ok v w' → (stepG P true { frame := fr, callers := crs, status := .running, dying := none } w).bare = (doReturn P true fr crs none v w').bare) :
    ResOK P G M ρ h w f0 base (lone fr crs w) (leave fi P G tm todo de cs h jump) := by
  have hf := hs.top
  obtain ⟨fn, kind, ro⟩ := fi
  obtain ⟨hfn, hk, hro⟩ := hf.fi
  cases ro with
  | none =>
    change ResOK P G M ρ h w f0 base _ (leave3 (isRet jump) de P G fn kind tm todo cs h)
    cases hr : isRet jump with
    | false => exact .bad
    | true =>
      have hst := hst hr hro
      have hs' : SR ρ f0 base (.mk (.mk fn kind none) tm todo de .ret) cs { fr with mode := .returning } crs := hs.re (.refl _) (f' := .mk (.mk fn kind none) tm todo de .ret) ⟨hf.fi, hf.tmps, hf.todo, hf.defers, .ret⟩ rfl
      refine ResOK.steps (.one hst) ?_
      cases de with
      | nil => exact ret_ok s hs'
      | cons d ds => exact .here s hs'
  | some l =>
    obtain ⟨b, hb, hrl⟩ := hro
    change ResOK P G M ρ h w f0 base _ (leave4 (isNil de) kind cs h l jump)
    cases isNil de with
    | false => exact .bad
    | true =>
      change ResOK P G M ρ h w f0 base _ (endRoundS (hget h l) kind cs h l jump)
      cases ho : hget h l with
      | loop st pend fn' tms ps as bd d =>
        change ResOK P G M ρ h w f0 base _ (putR h l (.loop (jumpState jump) jump fn' tms ps as bd d) fun h => roundRet cs kind (.lit (.bool (isNone' jump))) h)
        rw [putR_eq]
        obtain ⟨ts, bd', hk', q1, q2, q3, q4, q5, q6⟩ := obj_loop s hb ho
        let nb : Obj := .loop { state := if jump.isNone then .ready else .done, pending := jump, fn := fn', tmps := ts, params := ps, assign := as, body := bd, defers := bd'.block }
        have ht := turn_setMap (nb := nb) hk'
        have hjs : (if jump.isNone then LoopState.ready else .done) = jumpState jump := by cases jump <;> rfl
        obtain ⟨s2, g2⟩ := s.put (ob := .loop (jumpState jump) jump fn' tms ps as bd d) hb (by rw [ho]; rfl) ht.os ht.tape ht.output ht.size ht.other (by
          rw [ht.here]; simp only [nb, hjs]; exact .loop q1 q2 q3 q4 hj q6)
        have hrun : (Instr.endRound b.block jump).run P w = .ok (.bool jump.isNone) { w with heap := w.heap.setIfInBounds b.block nb } := by
          have hget := run_getIter (P := P) hk' (by intros; simp)
          have hset := run_setIter (P := P) (nb := nb) hk' (by intros; simp)
          simp only [Instr.endRound, Instr.getLoop, Sem.run_bind, hget, Result.andThen_ok, Sem.run_pure]
          show Result.andThen ((setObj b.block nb).run P w) _ = _
          rw [hset]; rfl
        have hgo := hrd b.block _ _ hrl hrun
        rcases hs.inv with ⟨rfl, rfl, hfi⟩ | ⟨g, cs', gr, crs', rfl, rfl, t⟩
        · have hfi : FI.mk fn kind (some l) = .mk f0 .normal none := hfi
          injection hfi with _ _ e; cases e
        · have he : isNone' jump = jump.isNone := by cases jump <;> rfl
          have := doReturn_ok (v := .lit (.bool (isNone' jump))) (x := .bool jump.isNone) s2 hk (t.mono g2.keep) (by rw [he]; exact .lit _) hgo
          exact this.after (.refl _ _) g2
      | _ => exact .bad
end
end Go.Play

/- Play: the operations of a region in their order; code; a step. -/
namespace Go.Play
set_option linter.unusedVariables false
set_option linter.unusedSimpArgs false

/-- What a run says, wherever it begins. -/
def RunOK (P : Program) (G : Glob) (R : RunF) : Prop :=
  ∀ (M : Nat → Prop) (ρ : Env) (h : H) (w : World) (f0 : FuncId) (base : List Frame) (f : SF) (cs : List SF) (fr : Frame) (crs : List Frame), (∃ fn, P.funcs[f0]? = some fn) → Sim P G M ρ h w → SR ρ f0 base f cs fr crs → ResOK P G M ρ h w f0 base (lone fr crs w) (R f cs h)
/-- What a region says that draws its order. -/
def DrawOK (P : Program) (G : Glob) (R : RunF) : Prop :=
  ∀ (M : Nat → Prop) (ρ : Env) (h : H) (w : World) (f0 : FuncId) (base : List Frame) (fi : FI) (tm : T SV) (id : Nat) (ops : Array Oper) (k : List SI) (de : List SDef) (cs : List SF) (fr : Frame) (crs : List Frame), (∃ fn, P.funcs[f0]? = some fn) → Sim P G M ρ h w →
    SR ρ f0 base (.mk fi tm (.code (.region id ops true) :: k) de .run) cs fr crs → ResOK P G M ρ h w f0 base (lone fr crs w) (drawR (plan ops) ops P G (.mk fi de cs R) tm k h)

section
variable {P : Program} {G : Glob} {M : Nat → Prop} {ρ ρ1 : Env} {h h1 : H} {w w1 : World} {f0 : FuncId} {base : List Frame}

theorem todo_cons {n : Nat} {i : SI} {l : List SI} {ft : List Item} (h : IL ρ n (i :: l) ft) : ∃ x k, ft = x :: k ∧ IR ρ n i x ∧ IL ρ n l k := by
  cases h with | cons h t => exact ⟨_, _, rfl, h, t⟩
theorem fi_todo {fi : FI} {fr : Frame} (h : FIR ρ fi fr) (k : List Item) : FIR ρ fi { fr with todo := k } := by cases fi; exact h
/-- Another list of what is to do. -/
theorem SR.to {fi : FI} {tm : T SV} {todo todo' : List SI} {de : List SDef} {cs : List SF} {fr : Frame} {crs : List Frame} (hs : SR ρ f0 base (.mk fi tm todo de .run) cs fr crs) {k : List Item} (hk : IL ρ fr.tmps.size todo' k) :
    SR ρ f0 base (.mk fi tm todo' de .run) cs { fr with todo := k } crs :=
  hs.re (.refl _) (f' := .mk fi tm todo' de .run) ⟨fi_todo hs.top.fi k, hs.top.tmps, hk, hs.top.defers, hs.top.mode⟩ rfl
theorem SR.mode {fi : FI} {tm : T SV} {todo : List SI} {de : List SDef} {cs : List SF} {fr : Frame} {crs : List Frame} (hs : SR ρ f0 base (.mk fi tm todo de .run) cs fr crs) : fr.mode = .run := mode_run hs.top.mode
theorem nextB_ok (s : Sim P G M ρ h w) {fi : FI} {tm : T SV} {todo : List SI} {de : List SDef} {cs : List SF} {fr : Frame} {crs : List Frame} (R : RunF) (hs : SR ρ f0 base (.mk fi tm todo de .run) cs fr crs) :
    ResOK P G M ρ h w f0 base (lone fr crs w) (nextB (.mk fi de cs R) tm todo h) := .here s hs

-- operations
theorem runCO_comp2 (d : Option Tmp) (op : Op) (ty : TypeId) (P : Program) (G : Glob) (o : Oper) (rest : List Oper) (c : Cx) (tm : T SV) (h : H) (K : T SV → H → Res) :
    runCO (comp2 d op ty P G) o rest P c tm h K = runEff (sop op ty P G tm h) (sop op ty P G tm h) d o rest P c tm h K := by
  cases d with
  | none => rfl
  | some d => cases op <;> rfl
theorem runCO_comp (o : Oper) (P : Program) (G : Glob) (rest : List Oper) (c : Cx) (tm : T SV) (h : H) (K : T SV → H → Res) :
    runCO (comp o P G) o rest P c tm h K = match o.guard with
      | none => runEff (sop o.op o.type P G tm h) (sop o.op o.type P G tm h) o.dst o rest P c tm h K
      | some (j, want) => match guardB (syielded (opsOf c) tm j) want with
        | true => runEff (sop o.op o.type P G tm h) (sop o.op o.type P G tm h) o.dst o rest P c tm h K
        | false => setO o.dst undefS tm fun tm => K tm h := by
  obtain ⟨dst, op, ty, pos, after, guard⟩ := o
  cases guard with
  | none => exact runCO_comp2 dst op ty P G _ rest c tm h K
  | some g =>
    obtain ⟨j, want⟩ := g
    show runGrd (guardB (syielded (opsOf c) tm j) want) dst (sop op ty P G) _ rest P c tm h K = _
    simp only []
    generalize guardB (syielded (opsOf c) tm j) want = b
    cases b <;> rfl
theorem guardB_eq (y : Option Bool) (want : Bool) : guardB y want = (y == some want) := by
  cases y with
  | none => rfl
  | some b => cases b <;> cases want <;> rfl
theorem stepG_oper {fr : Frame} {crs : List Frame} (hm : fr.mode = .run) {ops : Array Oper} {i : Nat} {is : List Nat} {k : List Item} (ht : fr.todo = .inRegion ops (i :: is) :: k) {o : Oper} (ho : ops[i]? = some o)
    (hw : Region.wanted o (yielded ops fr.tmps) = true) (hd : fr.roundOf = none ∨ ∀ c, o.op ≠ .defer c) :
    stepG P true { frame := fr, callers := crs, status := .running, dying := none } w = stepG.apply P true fr crs none (execOp fr.eval o) w := by
  simp only [stepG, hm, stepG.exec, ht, ho, Option.map_some, hw, Option.getD_some, if_true, stepG.oper, Frame.oper?]
  rcases hd with hd | hd
  · rw [hd]
  · cases hr : fr.roundOf with
    | none => rfl
    | some l =>
      obtain ⟨dst, op, ty, pos, after, guard⟩ := o
      cases op <;> first | rfl | exact absurd rfl (hd _)
theorem step_unwanted {fr : Frame} {crs : List Frame} (hm : fr.mode = .run) {ops : Array Oper} {i : Nat} {is : List Nat} {k : List Item} (ht : fr.todo = .inRegion ops (i :: is) :: k) {o : Oper} (ho : ops[i]? = some o)
    (hw : Region.wanted o (yielded ops fr.tmps) = false) : Go.step P (lone fr crs w) = .next (lone (fr.finish undef) crs w) :=
  step_lone_go (by simp [stepG, hm, stepG.exec, ht, ho, hw])
theorem eval_rel {tm : T SV} {fr : Frame} (ht : TR ρ tm fr.tmps) (x : Operand) : VR ρ (ev x tm) (fr.eval x) :=
  ev_rel ht (fun _ => rfl) (fun _ => rfl) (fun _ => rfl) (fun _ => rfl) x
/-- The head operation is done: its value lies in its slot. -/
theorem finish_reg {fi : FI} {tm : T SV} {ops : Array Oper} {o : Oper} {rest : List Oper} {k : List SI} {de : List SDef} {cs : List SF} {fr : Frame} {crs : List Frame}
    (hs : SR ρ f0 base (.mk fi tm (.inReg ops (o :: rest) :: k) de .run) cs fr crs) (hle : Env.le ρ ρ1) {v : SV} {x : Value} (hv : VR ρ1 v x) (K : T SV → Res) :
    ∃ tm', setO o.dst v tm K = K tm' ∧ SR ρ1 f0 base (.mk fi tm' (.inReg ops rest :: k) de .run) cs (fr.finish x) crs := by
  obtain ⟨it, kt, hft, hi, hk⟩ := todo_cons hs.top.todo
  cases hi with
  | @inReg _ _ is he ho =>
    cases is with
    | nil => cases he
    | cons j js =>
      simp only [List.map_cons, List.cons.injEq] at he
      obtain ⟨hd, ho'⟩ := okOps_cons ho
      obtain ⟨tm', e, ht⟩ := setO_ok (hs.top.tmps.mono hle) hd hv K
      rw [dstOf_eq] at e
      refine ⟨tm', e, ?_⟩
      have hfin : fr.finish x = { fr with tmps := (match o.dst with | some d => fr.tmps.setIfInBounds d x | none => fr.tmps), todo := .inRegion ops js :: kt } := by
        simp only [Frame.finish, hft, he.1, Option.bind_some]
        cases o.dst <;> rfl
      rw [hfin]
      have hz := size_set o fr.tmps x
      refine hs.re hle (f' := .mk fi tm' (.inReg ops rest :: k) de .run) ⟨?_, ht, ?_, hs.top.defers.mono hle, hs.top.mode.mono hle⟩ rfl
      · have := hs.top.fi.mono hle; cases fi; exact this
      · have hil : IL ρ1 fr.tmps.size (.inReg ops rest :: k) (.inRegion ops js :: kt) := .cons (.inReg he.2 ho') (hk.mono hle (Nat.le_refl _))
        rw [← hz] at hil; exact hil
theorem sop_defer {op : Op} {c : Call} (h : op = .defer c) (ty : TypeId) (tm : T SV) (h0 : H) : sop op ty P G tm h0 = .bad ∨ ∃ d, sop op ty P G tm h0 = .defer d := by
  subst h
  change opDefer c.callee tm c.args.toList = .bad ∨ ∃ d, opDefer c.callee tm c.args.toList = .defer d
  cases c.callee with
  | value f =>
    change deferV (ev f tm) (evL c.args.toList tm) = .bad ∨ ∃ d, deferV (ev f tm) (evL c.args.toList tm) = .defer d
    cases ev f tm <;> first | exact .inl rfl | exact .inr ⟨_, rfl⟩
  | _ => exact .inl rfl
theorem runOps_ok (R : RunF) {fi : FI} {de : List SDef} {cs : List SF} {ops : Array Oper} {k : List SI} : ∀ (l : List Oper) {ρ : Env} {tm : T SV} {h : H} {w : World} {fr : Frame} {crs : List Frame}, Sim P G M ρ h w →
    SR ρ f0 base (.mk fi tm (.inReg ops l :: k) de .run) cs fr crs → ResOK P G M ρ h w f0 base (lone fr crs w) (runOps l P G (.mk ops (.mk fi de cs R) k) tm h) := by
  intro l
  induction l with
  | nil =>
    intro ρ tm h w fr crs s hs
    obtain ⟨it, kt, hft, hi, hk⟩ := todo_cons hs.top.todo
    cases hi with
    | @inReg _ _ is he ho =>
      cases is with
      | cons j js => cases he
      | nil =>
        have hst : Go.step P (lone fr crs w) = .next (lone { fr with todo := kt } crs w) := step_lone_go (by simp [stepG, hs.mode, stepG.exec, hft])
        exact ResOK.steps (.one hst) (nextB_ok s R (hs.to hk))
  | cons o rest ih =>
    intro ρ tm h w fr crs s hs
    obtain ⟨it, kt, hft, hi, hk⟩ := todo_cons hs.top.todo
    cases hi with
    | @inReg _ _ is he ho =>
      cases is with
      | nil => cases he
      | cons j js =>
        simp only [List.map_cons, List.cons.injEq] at he
        have hoj := he.1
        change ResOK P G M ρ h w f0 base _ (runCO (comp o P G) o rest P (.mk ops (.mk fi de cs R) k) tm h (runOps rest P G (.mk ops (.mk fi de cs R) k)))
        rw [runCO_comp]
        have done : Region.wanted o (yielded ops fr.tmps) = true → ResOK P G M ρ h w f0 base (lone fr crs w) (runEff (sop o.op o.type P G tm h) (sop o.op o.type P G tm h) o.dst o rest P (.mk ops (.mk fi de cs R) k) tm h (runOps rest P G (.mk ops (.mk fi de cs R) k))) := by
          intro hw
          have he := sop_ok s o (eval_rel hs.top.tmps)
          have hcase : (fr.roundOf = none ∨ ∀ c, o.op ≠ .defer c) ∨ (∃ l, fr.roundOf = some l) ∧ ∃ c, o.op = .defer c := by
            cases hr : fr.roundOf with
            | none => exact .inl (.inl rfl)
            | some l =>
              by_cases hc : ∃ c, o.op = .defer c
              · exact .inr ⟨⟨l, rfl⟩, hc⟩
              · exact .inl (.inr fun c e => hc ⟨c, e⟩)
          rcases hcase with hcase | ⟨⟨l, hl⟩, c, hc⟩
          · have hgo := stepG_oper (P := P) (w := w) (crs := crs) hs.mode hft hoj hw hcase
            have hap := apply_ok s hs he (fr0 := fr) (w0 := w) (by rw [hgo])
            generalize sop o.op o.type P G tm h = e at he hap
            cases e with
            | val v h' =>
              obtain ⟨ρ', w', s', g', hr⟩ := he
              change ResOK P G M ρ h w f0 base _ (setO o.dst v tm fun tm => runOps rest P G (.mk ops (.mk fi de cs R) k) tm h')
              have key : ∀ x, VR ρ' v x → Go.step P (lone fr crs w) = .next (lone (fr.finish x) crs w') → ResOK P G M ρ h w f0 base (lone fr crs w) (setO o.dst v tm fun tm => runOps rest P G (.mk ops (.mk fi de cs R) k) tm h') := by
                intro x hv hst
                obtain ⟨tm', e, hs'⟩ := finish_reg hs g'.keep hv (fun tm => runOps rest P G (.mk ops (.mk fi de cs R) k) tm h')
                rw [e]
                exact (ih s' hs').after (.one hst) g'
              rcases hr with ⟨x, hr, hv⟩ | ⟨hr, rfl⟩
              · exact key x hv (step_lone_go (by rw [hgo]; simp only [stepG.apply, Sem.runT_eq, hr, GStep.bare_after, if_true]; rfl))
              · exact key undef (.lit _) (step_lone_go (by rw [hgo]; simp only [stepG.apply, Sem.runT_eq, hr, GStep.bare_after, if_true]; rfl))
            | bad => exact .bad
            | _ => exact hap
          · have hfi : ∃ q, roOf fi = some q := by
              obtain ⟨fn, kind, ro⟩ := fi
              have := hs.top.fi.2.2
              cases ro with
              | none => rw [show fr.roundOf = none from this] at hl; cases hl
              | some q => exact ⟨q, rfl⟩
            obtain ⟨q, hq⟩ := hfi
            rcases sop_defer (P := P) (G := G) hc o.type tm h with e | ⟨d, e⟩
            · rw [e]; exact .bad
            · rw [e]
              change ResOK P G M ρ h w f0 base _ (deferE (roOf fi) (.mk fi tm (.inReg ops (o :: rest) :: k) de .run) cs h d)
              rw [hq]; exact .bad
        cases hg : o.guard with
        | none => exact done (by unfold Region.wanted; rw [hg])
        | some g =>
          obtain ⟨j', want⟩ := g
          have hwd : Region.wanted o (yielded ops fr.tmps) = guardB (syielded ops tm j') want := by
            unfold Region.wanted
            rw [hg, yielded_ok hs.top.tmps, guardB_eq]
          simp only [opsOf]
          cases hb : guardB (syielded ops tm j') want with
          | true => exact done (by rw [hwd, hb])
          | false =>
            simp only []
            have hst := step_unwanted (P := P) (w := w) (crs := crs) hs.mode hft hoj (by rw [hwd, hb])
            obtain ⟨tm', e, hs'⟩ := finish_reg hs (.refl _) (.lit undef) (fun tm => runOps rest P G (.mk ops (.mk fi de cs R) k) tm h)
            refine ResOK.steps (.one hst) ?_
            show ResOK P G M ρ h w f0 base _ (setO o.dst undefS tm _)
            rw [show undefS = SV.lit undef from rfl, e]
            exact ih s hs'

-- range over functions
theorem enterRF_ok (R : RunF) (s : Sim P G M ρ h w) {fi : FI} {tm : T SV} {g : Operand} {ps : Array Tmp} {as bd : Code} {k : List SI} {de : List SDef} {cs : List SF} {fr : Frame} {crs : List Frame}
    (hs : SR ρ f0 base (.mk fi tm (.code (.rangeFunc g ps as bd) :: k) de .run) cs fr crs) : ResOK P G M ρ h w f0 base (lone fr crs w) (enterRF1 fi P (.mk fi de cs R) tm k h g ps as bd) := by
  obtain ⟨it, kt, hft, hi, hk⟩ := todo_cons hs.top.todo
  cases hi with
  | code hc =>
    rw [okCode_rf, Bool.and_eq_true, Bool.and_eq_true] at hc
    obtain ⟨c1, c2, c3⟩ := hc
    -- what follows once the loop's block is laid
    have key : ∀ {ρ1 : Env} {h1 : H} {w1 : World} {lp : Pa} {b : Loc} {mark : List SDef} {mark' : List Deferred}, Sim P G M ρ1 h1 w1 → Grow M ρ h w ρ1 h1 w1 → ρ1 lp = some b → DRL ρ1 mark mark' →
        (Instr.enterLoop fr.fn fr.tmps ps as bd fr.roundOf).run P w = .ok (b.block, mark') w1 → ResOK P G M ρ h w f0 base (lone fr crs w) (enterRF2 P (.mk fi de cs R) tm k h1 lp mark (ev g tm)) := by
      intro ρ1 h1 w1 lp b mark mark' s1 g1 hlp hmark hrun
      have hv : VR ρ1 (ev g tm) (fr.eval g) := eval_rel (hs.top.tmps.mono g1.keep) g
      have hy : VRL ρ1 [.yld lp] (#[Value.func (.yield b.block) #[] #[]] : Array Value).toList := .cons (.yld hlp) .nil
      have hcall := callV_ok s1 hv hy
      unfold enterRF2
      cases hiv : isVal (callV (ev g tm) P h1 [.yld lp]) with
      | true => exact .bad
      | false =>
        simp only []
        change ResOK P G M ρ h w f0 base _ (effE (callV (ev g tm) P h1 [.yld lp]) P fi tm (.inRF lp :: k) (appD mark de) cs h1)
        rw [appD_eq]
        have hs1 : SR ρ1 f0 base (.mk fi tm (.inRF lp :: k) (mark ++ de) .run) cs { fr with todo := .inRangeFunc b.block :: kt, defers := mark' ++ fr.defers } crs :=
          hs.re g1.keep (f' := .mk fi tm (.inRF lp :: k) (mark ++ de) .run) ⟨by have := hs.top.fi.mono g1.keep; cases fi; exact this, hs.top.tmps.mono g1.keep, .cons (.inRF hlp) (hk.mono g1.keep (Nat.le_refl _)), hmark.append (hs.top.defers.mono g1.keep), hs.top.mode.mono g1.keep⟩ rfl
        refine (apply_ok s1 hs1 hcall (fr0 := fr) (w0 := w) ?_).after (.refl _ _) g1
        have hm := hs.mode
        clear hs1 hs hcall s1 g1 hv hk s
        obtain ⟨fn', tmps', todo', defers', mode', kind', ro'⟩ := fr
        simp only at hm hft hrun
        subst hm hft
        have hq : ∀ v : Value, resolve (Frame.eval { fn := fn', tmps := tmps', todo := .inRangeFunc b.block :: kt, defers := mark' ++ defers', mode := .run, kind := kind', roundOf := ro' }) { callee := .value g, args := #[.const v], argTypes := #[] } 0 =
            Deferred.ofValue (Frame.eval { fn := fn', tmps := tmps', todo := .code (.rangeFunc g ps as bd) :: kt, defers := defers', mode := .run, kind := kind', roundOf := ro' } g) #[v] := by
          intro v; cases g <;> simp [resolve, Frame.eval]
        simp only [stepG, stepG.exec, Sem.runT_eq, hrun, GStep.bare_after, hq]
    obtain ⟨fn, kind, ro⟩ := fi
    obtain ⟨hfn, hkd, hro⟩ := hs.top.fi
    have hor : ∀ {ρ' : Env} {bd' b : Loc} {d : Pa}, Env.le ρ ρ' → ρ' d = some bd' → OR P ρ' (.loop .ready none fn tm ps as bd d) b (some (.loop { state := .ready, pending := none, fn := fr.fn, tmps := fr.tmps, params := ps, assign := as, body := bd, defers := bd'.block })) := by
      intro ρ' bd' b d hle hd
      rw [hfn]
      exact .loop (hs.top.tmps.mono hle) c1 c2 c3 (fun c e => by cases e) hd
    cases ro with
    | some l =>
      obtain ⟨bl, hbl, hrl⟩ := hro
      unfold enterRF1
      simp only []
      cases ho : hget h l with
      | loop st pend fn' tms ps' as' bd' d =>
        simp only []
        rw [newR_eq]
        obtain ⟨ts, bdl, hkl, _, _, _, _, _, hd⟩ := obj_loop s hbl ho
        let b : Loc := ⟨w.heap.size, 0, 0, 0⟩
        have hle : Env.le ρ (ρ.put (nOf h) b) := Env.put_le b s.none_at
        obtain ⟨s1, g1⟩ := s.alloc (b := b) (ob := .loop .ready none fn tm ps as bd d) rfl (hor hle (hle _ _ hd))
        refine key (b := b) (mark' := []) s1 g1 (Env.put_self _ _ _) .nil ?_
        have hget := run_getIter (P := P) hkl (by intros; simp)
        simp only [Instr.enterLoop, hrl, Instr.getLoop, Sem.run_bind, hget, Result.andThen_ok, Sem.run_pure, run_newObj]
        rfl
      | _ => exact .bad
    | none =>
      have hro : fr.roundOf = none := hro
      show ResOK P G M ρ h w f0 base _ (newR h (.deferred (some [])) fun d h => newR h (.loop .ready none fn tm ps as bd d) fun l h => enterRF2 P (.mk (.mk fn kind none) de cs R) tm k h l [.collected d] (ev g tm))
      rw [newR_eq, newR_eq]
      let b0 : Loc := ⟨w.heap.size, 0, 0, 0⟩
      have hle0 : Env.le ρ (ρ.put (nOf h) b0) := Env.put_le b0 s.none_at
      obtain ⟨s0, g0⟩ := s.alloc (b := b0) (ob := .deferred (some [])) (obj := .deferred (some [])) rfl (.defS .nil)
      let w1 : World := { w with heap := w.heap.push (.deferred (some [])) }
      let b : Loc := ⟨w1.heap.size, 0, 0, 0⟩
      have hle : Env.le (ρ.put (nOf h) b0) ((ρ.put (nOf h) b0).put (nOf (hpush h (.deferred (some [])))) b) := Env.put_le b s0.none_at
      obtain ⟨s1, g1⟩ := s0.alloc (b := b) (ob := .loop .ready none fn tm ps as bd (nOf h)) rfl (hor (bd' := b0) (hle0.trans hle) (hle _ _ (Env.put_self _ _ _)))
      refine key (b := b) (mark' := [{ target := .collected b0.block, args := #[] }]) s1 (g0.trans g1) (Env.put_self _ _ _) (.cons (.collected (hle _ _ (Env.put_self _ _ _))) .nil) ?_
      simp only [Instr.enterLoop, hro, Sem.run_bind, Result.andThen_ok, Sem.run_pure, run_newObj]
      rfl
end
end Go.Play

/- Play: code; a step; a run. -/
namespace Go.Play
set_option linter.unusedVariables false
set_option linter.unusedSimpArgs false

section
variable {P : Program} {G : Glob} {M : Nat → Prop} {ρ ρ1 : Env} {h h1 : H} {w w1 : World} {f0 : FuncId} {base : List Frame}

/-- One real step to another list of what is to do. -/
theorem to_ok {fi : FI} {tm : T SV} {todo todo' : List SI} {de : List SDef} {cs : List SF} {fr : Frame} {crs : List Frame} (hs : SR ρ f0 base (.mk fi tm todo de .run) cs fr crs) {k : List Item} (hk : IL ρ fr.tmps.size todo' k)
    (hst : fr.mode = .run → Go.step P (lone fr crs w) = .next (lone { fr with todo := k } crs w)) {r : Res}
    (hr : SR ρ f0 base (.mk fi tm todo' de .run) cs { fr with todo := k } crs → ResOK P G M ρ h w f0 base (lone { fr with todo := k } crs w) r) : ResOK P G M ρ h w f0 base (lone fr crs w) r :=
  ResOK.steps (.one (hst hs.mode)) (hr (hs.to hk))
theorem exitR_ok (s : Sim P G M ρ h w) (R : RunF) {fi : FI} {tm : T SV} {c : Code} {k : List SI} {de : List SDef} {cs : List SF} {fr : Frame} {crs : List Frame} {kt : List Item}
    (hs : SR ρ f0 base (.mk fi tm (.code c :: k) de .run) cs fr crs) (hft : fr.todo = .code c :: kt) (hj : ∀ n, okCode c n = true) {o : Option (List SI)} {o' : Option (List Item)}
    (ho : match o with | none => o' = none | some l' => ∃ k', o' = some k' ∧ IL ρ fr.tmps.size l' k')
    (hgo : ∀ k', o' = some k' → Go.step P (lone fr crs w) = .next (lone { fr with todo := k' } crs w))
    (hne : isRet (some c) = false)
    (hrd : o' = none → ∀ l v w', fr.roundOf = some l → (Instr.endRound l (some c)).run P w = .ok v w' → (stepG P true { frame := fr, callers := crs, status := .running, dying := none } w).bare = (doReturn P true fr crs none v w').bare) :
    ResOK P G M ρ h w f0 base (lone fr crs w) (exitR o P G (.mk fi de cs R) tm (.code c :: k) h c) := by
  cases o with
  | none =>
    change ResOK P G M ρ h w f0 base _ (leave fi P G tm (.code c :: k) de cs h (some c))
    exact leave_ok s hs (some c) (fun c' e => by cases e; exact hj) (fun e => by rw [hne] at e; cases e) (hrd ho)
  | some l' =>
    obtain ⟨k', hk', hl⟩ := ho
    exact to_ok hs hl (fun _ => hgo k' hk') fun hs' => nextB_ok s R hs'
theorem stepCode_ok {R : RunF} (hf0 : ∃ fn, P.funcs[f0]? = some fn) (hR : DrawOK P G R) {fi : FI} {de : List SDef} {cs : List SF} : ∀ (c : Code) {ρ : Env} {tm : T SV} {h : H} {w : World} {k : List SI} {fr : Frame} {crs : List Frame}, Sim P G M ρ h w →
    SR ρ f0 base (.mk fi tm (.code c :: k) de .run) cs fr crs → ResOK P G M ρ h w f0 base (lone fr crs w) (stepCode c P G (.mk fi de cs R) tm k h) := by
  intro c
  induction c with
  | skip =>
    intro ρ tm h w k fr crs s hs
    obtain ⟨it, kt, hft, hi, hk⟩ := todo_cons hs.top.todo
    cases hi with
    | code hc => exact to_ok hs hk (fun hm => step_lone_go (by simp [stepG, hm, stepG.exec, hft])) fun hs' => nextB_ok s R hs'
  | region id ops draw =>
    intro ρ tm h w k fr crs s hs
    cases draw with
    | true => exact hR M ρ h w f0 base fi tm id ops k de cs fr crs hf0 s hs
    | false =>
      obtain ⟨it, kt, hft, hi, hk⟩ := todo_cons hs.top.todo
      cases hi with
      | code hc =>
        have hl : (List.range ops.size).map (ops[·]?) = ops.toList.map some := by
          apply List.ext_getElem?
          intro i
          by_cases hi : i < ops.size
          · simp [hi]
          · simp [hi, Nat.not_lt.1 hi]
        exact to_ok hs (todo' := .inReg ops ops.toList :: k) (.cons (.inReg hl hc) hk) (fun hm => step_lone_go (by simp [stepG, hm, stepG.exec, hft])) fun hs' => runOps_ok R ops.toList s hs'
  | seq a b iha ihb =>
    intro ρ tm h w k fr crs s hs
    obtain ⟨it, kt, hft, hi, hk⟩ := todo_cons hs.top.todo
    cases hi with
    | code hc =>
      rw [okCode_seq, Bool.and_eq_true] at hc
      exact to_ok hs (todo' := .code a :: .code b :: k) (.cons (.code hc.1) (.cons (.code hc.2) hk)) (fun hm => step_lone_go (by simp [stepG, hm, stepG.exec, hft])) fun hs' => iha s hs'
  | cond x a b iha ihb =>
    intro ρ tm h w k fr crs s hs
    obtain ⟨it, kt, hft, hi, hk⟩ := todo_cons hs.top.todo
    cases hi with
    | code hc =>
      rw [okCode_cond, Bool.and_eq_true] at hc
      change ResOK P G M ρ h w f0 base _ (condV (ev x tm) fun t => condB t (stepCode a) (stepCode b) P G (.mk fi de cs R) tm k h)
      have hv := eval_rel hs.top.tmps x
      generalize hev : ev x tm = v at hv
      cases v with
      | lit y =>
        generalize hfe : fr.eval x = y' at hv
        cases hv
        cases y with
        | bool t =>
          cases t with
          | true => exact to_ok hs (todo' := .code a :: k) (.cons (.code hc.1) hk) (fun hm => step_lone_go (by simp [stepG, hm, stepG.exec, hft, hfe])) fun hs' => iha s hs'
          | false => exact to_ok hs (todo' := .code b :: k) (.cons (.code hc.2) hk) (fun hm => step_lone_go (by simp [stepG, hm, stepG.exec, hft, hfe])) fun hs' => ihb s hs'
        | _ => exact .bad
      | _ => exact .bad
  | block id a ih =>
    intro ρ tm h w k fr crs s hs
    obtain ⟨it, kt, hft, hi, hk⟩ := todo_cons hs.top.todo
    cases hi with
    | code hc => exact to_ok hs (todo' := .code a :: .inBlock id :: k) (.cons (.code hc) (.cons (.inBlock id) hk)) (fun hm => step_lone_go (by simp [stepG, hm, stepG.exec, hft])) fun hs' => ih s hs'
  | loop a ih =>
    intro ρ tm h w k fr crs s hs
    obtain ⟨it, kt, hft, hi, hk⟩ := todo_cons hs.top.todo
    cases hi with
    | code hc => exact to_ok hs (todo' := .code a :: .inLoop a :: k) (.cons (.code hc) (.cons (.inLoop hc) hk)) (fun hm => step_lone_go (by simp [stepG, hm, stepG.exec, hft])) fun hs' => ih s hs'
  | rangeFunc g ps a b iha ihb =>
    intro ρ tm h w k fr crs s hs
    exact enterRF_ok R s hs
  | exit id =>
    intro ρ tm h w k fr crs s hs
    obtain ⟨it, kt, hft, hi, hk⟩ := todo_cons hs.top.todo
    cases hi with
    | code hc =>
      have hm := hs.mode
      exact exitR_ok s R hs hft (fun _ => rfl) (exit_ok hk) (fun k' e => step_lone_go (by simp [stepG, hm, stepG.exec, hft, e])) rfl
        (fun e l v w' hr hrun => by simp only [stepG, hm, stepG.exec, hft, e, Option.elim, hr, Sem.runT_eq, hrun, GStep.bare_after])
  | scope a ih =>
    intro ρ tm h w k fr crs s hs
    obtain ⟨it, kt, hft, hi, hk⟩ := todo_cons hs.top.todo
    cases hi with
    | code hc => exact to_ok hs (todo' := .code a :: .inScope a :: k) (.cons (.code hc) (.cons (.inScope hc) hk)) (fun hm => step_lone_go (by simp [stepG, hm, stepG.exec, hft])) fun hs' => ih s hs'
  | label l =>
    intro ρ tm h w k fr crs s hs
    obtain ⟨it, kt, hft, hi, hk⟩ := todo_cons hs.top.todo
    cases hi with
    | code hc => exact to_ok hs hk (fun hm => step_lone_go (by simp [stepG, hm, stepG.exec, hft])) fun hs' => nextB_ok s R hs'
  | goto l =>
    intro ρ tm h w k fr crs s hs
    obtain ⟨it, kt, hft, hi, hk⟩ := todo_cons hs.top.todo
    cases hi with
    | code hc =>
      have hm := hs.mode
      exact exitR_ok s R hs hft (fun _ => rfl) (goto_ok hk) (fun k' e => step_lone_go (by simp [stepG, hm, stepG.exec, hft, e])) rfl
        (fun e l v w' hr hrun => by simp only [stepG, hm, stepG.exec, hft, e, Option.elim, hr, Sem.runT_eq, hrun, GStep.bare_after])
  | ret =>
    intro ρ tm h w k fr crs s hs
    obtain ⟨it, kt, hft, hi, hk⟩ := todo_cons hs.top.todo
    cases hi with
    | code hc =>
      have hm := hs.mode
      change ResOK P G M ρ h w f0 base _ (leave fi P G tm (.code .ret :: k) de cs h (some .ret))
      exact leave_ok s hs (some .ret) (fun c e => by cases e; exact fun _ => rfl) (fun _ hr => step_lone_go (by simp [stepG, hm, stepG.exec, hft, hr]))
        (fun l v w' hr hrun => by simp only [stepG, hm, stepG.exec, hft, hr, Sem.runT_eq, hrun, GStep.bare_after])
  | refuse why => intro ρ tm h w k fr crs s hs; exact .bad

theorem endRF_ok (s : Sim P G M ρ h w) (R : RunF) {fi : FI} {tm : T SV} {l : Pa} {k : List SI} {de : List SDef} {cs : List SF} {fr : Frame} {crs : List Frame}
    (hs : SR ρ f0 base (.mk fi tm (.endRF l :: k) de .run) cs fr crs) : ResOK P G M ρ h w f0 base (lone fr crs w) (endRF (hget h l) l (.mk fi de cs R) tm k h) := by
  obtain ⟨it, kt, hft, hi, hk⟩ := todo_cons hs.top.todo
  cases hi with
  | @endRF _ b hb =>
    have hm := hs.mode
    cases ho : hget h l with
    | loop st pend fn tms ps as bd d =>
      obtain ⟨ts, bd', hk', q1, q2, q3, q4, q5, q6⟩ := obj_loop s hb ho
      have key : st ≠ .busy → ResOK P G M ρ h w f0 base (lone fr crs w) (putR h l (.loop .exhausted pend fn tms ps as bd d) fun h => nextB (.mk fi de cs R) tm (pendK pend k) h) := by
        intro hst
        rw [putR_eq]
        let nb : Obj := .loop { state := .exhausted, pending := pend, fn := fn, tmps := ts, params := ps, assign := as, body := bd, defers := bd'.block }
        have ht := turn_setMap (nb := nb) hk'
        obtain ⟨s2, g2⟩ := s.put (ob := .loop .exhausted pend fn tms ps as bd d) hb (by rw [ho]; rfl) ht.os ht.tape ht.output ht.size ht.other (by rw [ht.here]; exact .loop q1 q2 q3 q4 q5 q6)
        have hrun : (Instr.endLoop b.block).run P w = .ok pend { w with heap := w.heap.setIfInBounds b.block nb } := by
          have hget := run_getIter (P := P) hk' (by intros; simp)
          have hset := run_setIter (P := P) (nb := nb) hk' (by intros; simp)
          have hb : (st == LoopState.busy) = false := by cases st <;> first | rfl | exact absurd rfl hst
          simp only [Instr.endLoop, Instr.getLoop, Sem.run_bind, hget, Result.andThen_ok, Sem.run_pure, hb, Bool.false_eq_true, if_false]
          show Result.andThen ((setObj b.block nb).run P w) _ = _
          rw [hset]; rfl
        have hpk : IL ρ fr.tmps.size (pendK pend k) ((pend.map Item.code).toList ++ kt) := by
          cases pend with
          | none => exact hk
          | some c => exact .cons (.code (q5 c rfl _)) hk
        have hst : Go.step P (lone fr crs w) = .next (lone { fr with todo := (pend.map Item.code).toList ++ kt } crs { w with heap := w.heap.setIfInBounds b.block nb }) :=
          step_lone_go (by simp only [stepG, hm, stepG.exec, hft, Sem.runT_eq, hrun, GStep.bare_after]; rfl)
        exact (nextB_ok s2 R (hs.to hpk)).after (.one hst) g2
      cases st with
      | busy => exact .bad
      | _ => exact key (by simp)
    | _ => exact .bad
theorem beginR_ok (s : Sim P G M ρ h w) (R : RunF) {fi : FI} {tm : T SV} {k : List SI} {de : List SDef} {cs : List SF} {fr : Frame} {crs : List Frame}
    (hs : SR ρ f0 base (.mk fi tm (.beginRound :: k) de .run) cs fr crs) : ResOK P G M ρ h w f0 base (lone fr crs w) (beginR (roOf fi) (.mk fi de cs R) tm k h) := by
  obtain ⟨it, kt, hft, hi, hk⟩ := todo_cons hs.top.todo
  have hm := hs.mode
  cases hi with
  | beginRound =>
    have hro : RoR ρ (roOf fi) fr.roundOf := by have := hs.top.fi; cases fi; exact this.2.2
    cases hq : roOf fi with
    | none => exact .bad
    | some l =>
      rw [hq] at hro
      obtain ⟨b, hb, hrl⟩ := hro
      show ResOK P G M ρ h w f0 base _ (beginR2 (hget h l) l (.mk fi de cs R) tm k h)
      cases ho : hget h l with
      | loop st pend fn tms ps as bd d =>
        cases st with
        | ready =>
          obtain ⟨ts, bd', hk', q1, q2, q3, q4, q5, q6⟩ := obj_loop s hb ho
          change ResOK P G M ρ h w f0 base _ (putR h l (.loop .busy pend fn tms ps as bd d) fun h => nextB (.mk fi de cs R) tm k h)
          rw [putR_eq]
          let nb : Obj := .loop { state := .busy, pending := pend, fn := fn, tmps := ts, params := ps, assign := as, body := bd, defers := bd'.block }
          have ht := turn_setMap (nb := nb) hk'
          obtain ⟨s2, g2⟩ := s.put (ob := .loop .busy pend fn tms ps as bd d) hb (by rw [ho]; rfl) ht.os ht.tape ht.output ht.size ht.other (by rw [ht.here]; exact .loop q1 q2 q3 q4 q5 q6)
          have hrun : (Instr.beginRound b.block).run P w = .ok () { w with heap := w.heap.setIfInBounds b.block nb } := by
            have hget := run_getIter (P := P) hk' (by intros; simp)
            have hset := run_setIter (P := P) (nb := nb) hk' (by intros; simp)
            simp only [Instr.beginRound, Instr.getLoop, Sem.run_bind, hget, Result.andThen_ok, Sem.run_pure]
            show Result.andThen ((setObj b.block nb).run P w) _ = _
            rw [hset]; rfl
          have hrun2 : ((do fr.roundOf.elim (stuck "beginRound: no round") Instr.beginRound; pure Next.skip : Sem Next)).run P w = .ok .skip { w with heap := w.heap.setIfInBounds b.block nb } := by
            rw [hrl]
            simp only [Option.elim, Sem.run_bind, hrun, Result.andThen_ok, Sem.run_pure]
          have hst : Go.step P (lone fr crs w) = .next (lone { fr with todo := kt } crs { w with heap := w.heap.setIfInBounds b.block nb }) := by
            refine step_lone_go ?_
            have hfin : fr.finish undef = { fr with todo := kt } := by simp only [Frame.finish, hft]
            simp only [stepG, hm, stepG.exec, hft, stepG.apply, Sem.runT_eq, hrun2, GStep.bare_after, if_true]
            rw [hfin]; simp only [hm]; rfl
          exact (nextB_ok s2 R (hs.to hk)).after (.one hst) g2
        | _ => exact .bad
      | _ => exact .bad
theorem stepItem_ok {R : RunF} (hf0 : ∃ fn, P.funcs[f0]? = some fn) (hR : DrawOK P G R) (s : Sim P G M ρ h w) {fi : FI} {tm : T SV} {i : SI} {k : List SI} {de : List SDef} {cs : List SF} {fr : Frame} {crs : List Frame}
    (hs : SR ρ f0 base (.mk fi tm (i :: k) de .run) cs fr crs) : ResOK P G M ρ h w f0 base (lone fr crs w) (stepItem i P G (.mk fi de cs R) tm k h) := by
  obtain ⟨it, kt, hft, hi, hk⟩ := todo_cons hs.top.todo
  cases i with
  | code c => exact stepCode_ok hf0 hR c s hs
  | inReg ops l => exact runOps_ok R l s hs
  | inBlock id => cases hi; exact to_ok hs hk (fun hm => step_lone_go (by simp [stepG, hm, stepG.exec, hft])) fun hs' => nextB_ok s R hs'
  | inScope c => cases hi; exact to_ok hs hk (fun hm => step_lone_go (by simp [stepG, hm, stepG.exec, hft])) fun hs' => nextB_ok s R hs'
  | inLoop c =>
    cases hi with
    | inLoop hc => exact to_ok hs (todo' := .code c :: .inLoop c :: k) (.cons (.code hc) (.cons (.inLoop hc) hk)) (fun hm => step_lone_go (by simp [stepG, hm, stepG.exec, hft])) fun hs' => stepCode_ok hf0 hR c s hs'
  | inRF l => exact .bad
  | endRF l => exact endRF_ok s R hs
  | beginRound => exact beginR_ok s R hs
theorem step_ok {R : RunF} (hf0 : ∃ fn, P.funcs[f0]? = some fn) (hR : DrawOK P G R) (s : Sim P G M ρ h w) {f : SF} {cs : List SF} {fr : Frame} {crs : List Frame} (hs : SR ρ f0 base f cs fr crs) :
    ResOK P G M ρ h w f0 base (lone fr crs w) (step f R P G cs h) := by
  obtain ⟨fi, tm, todo, de, mode⟩ := f
  cases mode with
  | run =>
    show ResOK P G M ρ h w f0 base _ (stepRun todo P G (.mk fi de cs R) tm h)
    cases todo with
    | nil =>
      change ResOK P G M ρ h w f0 base _ (leave fi P G tm [] de cs h none)
      have hm := hs.mode
      have hft : fr.todo = [] := by have := hs.top.todo; generalize fr.todo = ft at this; cases this; rfl
      exact leave_ok s hs none (fun c e => by cases e) (fun _ hr => step_lone_go (by simp [stepG, hm, stepG.exec, hft, hr]))
        (fun l v w' hr hrun => by simp only [stepG, hm, stepG.exec, hft, hr, Sem.runT_eq, hrun, GStep.bare_after])
    | cons i k => exact stepItem_ok hf0 hR s hs
  | ret => exact unwindS_ok s hf0 (by simp) hs
  | pan chain => exact unwindS_ok s hf0 (by simp) hs
/-- A run, whose regions that draw their order are sound. -/
theorem runF_ok (hD : ∀ R, RunOK P G R → DrawOK P G R) : ∀ n, RunOK P G (runF P G n) := by
  intro n
  induction n with
  | zero => intro M ρ h w f0 base f cs fr crs hf0 s hs; exact .here s hs
  | succ n ih =>
    intro M ρ h w f0 base f cs fr crs hf0 s hs
    have h1 := step_ok hf0 (hD _ ih) s hs
    show ResOK P G M ρ h w f0 base _ (runR (step f (runF P G n) P G cs h) (runF P G n))
    generalize step f (runF P G n) P G cs h = r at h1
    cases r with
    | next f' cs' h' =>
      obtain ⟨ρ', w', fr', crs', k1, k2, k3, k4⟩ := h1
      exact (ih M ρ' h' w' f0 base f' cs' fr' crs' hf0 k3 k2).after k1 k4
    | _ => exact h1
end
end Go.Play

/- Play: names that lie below a bound; an operation looks at its operands only. -/
namespace Go.Play
set_option linter.unusedVariables false
set_option linter.unusedSimpArgs false

/-- The names below a bound. -/
def Env.below (ρ : Env) (N : Nat) : Env := fun o => if o.num < N then ρ o else none
theorem below_le (ρ : Env) (N : Nat) : Env.le (ρ.below N) ρ := fun o b h => by
  unfold Env.below at h
  split at h
  · exact h
  · cases h
theorem below_at {ρ : Env} {N : Nat} {o : Pa} {b : Loc} (h : ρ o = some b) (hN : o.num < N) : ρ.below N o = some b := by
  unfold Env.below; rw [if_pos hN]; exact h
theorem below_dom {ρ : Env} {N : Nat} {o : Pa} {b : Loc} (h : ρ.below N o = some b) : o.num < N ∧ ρ o = some b := by
  unfold Env.below at h
  split at h
  · rename_i hn; exact ⟨hn, h⟩
  · cases h
mutual
/-- What names objects below a bound needs no others. -/
theorem VR.cut {ρ0 : Env} {N : Nat} (hN : ∀ o b, ρ0 o = some b → o.num < N) : ∀ {v : SV} {x0 : Value}, VR ρ0 v x0 → ∀ {ρ : Env} {x : Value}, VR ρ v x → VR (ρ.below N) v x
  | _, _, .lit _, _, _, h => by cases h; exact .lit _
  | _, _, .ptr off k, _, _, h => by cases h with | ptr _ h => exact .ptr off (below_at h (hN _ _ k))
  | _, _, .slc _ _ _ _ _ k _ _ _, _, _, h => by cases h with | slc _ _ _ _ _ h f g i => exact .slc _ _ _ _ _ (below_at h (hN _ _ k)) f g i
  | _, _, .eslc _ _, _, _, h => by cases h; exact .eslc _ _
  | _, _, .mapv k, _, _, h => by cases h with | mapv h => exact .mapv (below_at h (hN _ _ k))
  | _, _, .fn ka kb, _, _, h => by cases h with | fn ha hb => exact .fn (VRL.cut hN ka ha) (VRL.cut hN kb hb)
  | _, _, .yld k, _, _, h => by cases h with | yld h => exact .yld (below_at h (hN _ _ k))
  | _, _, .ifc t k, _, _, h => by cases h with | ifc _ h => exact .ifc t (VR.cut hN k h)
  | _, _, .agg k, _, _, h => by cases h with | agg h => exact .agg (VRL.cut hN k h)
  | _, _, .tup k, _, _, h => by cases h with | tup h => exact .tup (VRL.cut hN k h)
  | _, _, .any _, _, _, h => by cases h with | any h => exact .any h
theorem VRL.cut {ρ0 : Env} {N : Nat} (hN : ∀ o b, ρ0 o = some b → o.num < N) : ∀ {v : List SV} {x0 : List Value}, VRL ρ0 v x0 → ∀ {ρ : Env} {x : List Value}, VRL ρ v x → VRL (ρ.below N) v x
  | _, _, .nil, _, _, h => by cases h; exact .nil
  | _, _, .cons k t, _, _, h => by cases h with | cons h s => exact .cons (VR.cut hN k h) (VRL.cut hN t s)
end
/-- The names in a value lie below a bound. -/
def NS (N : Nat) (v : SV) : Prop := ∀ ρ x, VR ρ v x → VR (ρ.below N) v x
theorem VR.ns {ρ0 : Env} {N : Nat} (hN : ∀ o b, ρ0 o = some b → o.num < N) {v : SV} {x : Value} (h : VR ρ0 v x) : NS N v := fun _ _ k => h.cut hN k
theorem ER.cut {ρ0 : Env} {N : Nat} (hN : ∀ o b, ρ0 o = some b → o.num < N) {es : List (SV × SV × Nat)} {ms : List MapEntry} (h : ER ρ0 es ms) : ∀ {ρ : Env} {ns : List MapEntry}, ER ρ es ns → ER (ρ.below N) es ns := by
  induction h with
  | nil => intro ρ ns k; cases k; exact .nil
  | cons hk h _ ih => intro ρ ns k; cases k with | cons kk k t => exact .cons (hk.cut hN kk) (h.cut hN k) (ih t)
/-- The names in an object, as a light operation sees it, lie below a bound. -/
def OS (P : Program) (N : Nat) (ob : SO) : Prop := ∀ ρ b o, OR P ρ ob b o → OR P (ρ.below N) (dimO false ob) b o
theorem OR.dim {P : Program} {ρ : Env} {hide : Bool} {ob : SO} {b : Loc} {o : Option Obj} (h : OR P ρ ob b o) : OR P ρ (dimO hide ob) b o := by
  cases hide with
  | true => exact .none _ _
  | false =>
    cases h with
    | cells hs hm hf hr hl hv => exact .cells hs hm (fun e => by cases e) hr hl hv
    | mapo h => exact .mapo h
    | _ => exact .none _ _
theorem OR.os {P : Program} {ρ0 : Env} {N : Nat} (hN : ∀ o b, ρ0 o = some b → o.num < N) {ob : SO} {b0 : Loc} {o0 : Option Obj} (h0 : OR P ρ0 ob b0 o0) : OS P N ob := by
  intro ρ b o h
  cases h with
  | cells hs hm hf hr hl hv =>
    cases h0 with
    | cells hs0 hm0 hf0 hr0 hl0 hv0 =>
      refine .cells hs hm (fun e => by cases e) hr hl fun i v hi => ?_
      obtain ⟨x, hx, hvx⟩ := hv i v hi
      obtain ⟨x0, _, hvx0⟩ := hv0 i v hi
      exact ⟨x, hx, hvx0.cut hN hvx⟩
  | mapo h =>
    cases h0 with
    | mapo h0 => exact .mapo (h0.cut hN h)
  | _ => exact .none _ _
theorem mineO_dim (hide : Bool) (ob : SO) : mineO (dimO hide ob) = false := by cases hide <;> cases ob <;> rfl

-- operands
theorem mem_tmpsOf {op : Op} {t : Tmp} (h : Operand.tmp t ∈ op.operands.toList) : t ∈ tmpsOf op := by
  unfold tmpsOf
  exact List.mem_filterMap.2 ⟨.tmp t, h, rfl⟩
theorem evL_congr {tm tm' : T SV} : ∀ (l : List Operand), (∀ x ∈ l, ev x tm = ev x tm') → evL l tm = evL l tm' := by
  intro l
  induction l with
  | nil => intro _; rfl
  | cons x l ih =>
    intro h
    show ev x tm :: evL l tm = ev x tm' :: evL l tm'
    rw [h x (by simp), ih fun y hy => h y (by simp [hy])]
theorem fill_congr {tm tm' : T SV} {place : Nat → Option (Nat × Nat)} : ∀ (l : List (Nat × Operand)) (cs : List SV), (∀ p ∈ l, ev p.2 tm = ev p.2 tm') → fill l tm place cs = fill l tm' place cs := by
  intro l
  induction l with
  | nil => intro _ _; rfl
  | cons p l ih =>
    intro cs h
    show fill1 (place p.1) (cellsOf (ev p.2 tm)) cs (fill l tm place) = fill1 (place p.1) (cellsOf (ev p.2 tm')) cs (fill l tm' place)
    rw [h p (by simp)]
    have : fill l tm place = fill l tm' place := funext fun c => ih c fun q hq => h q (by simp [hq])
    rw [this]
theorem optN_congr {tm tm' : T SV} {x : Option Operand} (h : ∀ y, x = some y → ev y tm = ev y tm') (d : Nat) : optN x d tm = optN x d tm' := by
  cases x with
  | none => rfl
  | some y => show asN (ev y tm) = asN (ev y tm'); rw [h y rfl]
theorem optV_congr {tm tm' : T SV} {x : Option Operand} (h : ∀ y, x = some y → ev y tm = ev y tm') : optV x tm = optV x tm' := by
  cases x with
  | none => rfl
  | some y => show someO (litO (ev y tm)) = someO (litO (ev y tm')); rw [h y rfl]
theorem slc1_congr {P : Program} {tm tm' : T SV} {h : H} {ty : TypeId} {v : SV} {lo hi mx : Option Operand} (hl : ∀ y, lo = some y → ev y tm = ev y tm') (hh : ∀ y, hi = some y → ev y tm = ev y tm') (hm : ∀ y, mx = some y → ev y tm = ev y tm') :
    slc1 v P tm h ty lo hi mx = slc1 v P tm' h ty lo hi mx := by
  cases v with
  | slc o off n cap ex =>
    show slcS P tm h o off n cap ex ty lo hi mx = slcS P tm' h o off n cap ex ty lo hi mx
    unfold slcS
    rw [optN_congr hl, optN_congr hh, optN_congr hm]
  | ptr o off =>
    show slcA P tm h o off ty lo hi mx = slcA P tm' h o off ty lo hi mx
    unfold slcA
    split <;> first | rfl | rw [optN_congr hl, optN_congr hh, optN_congr hm]
  | lit w =>
    show slcL P h ty w (optV lo tm) (optV hi tm) (optV mx tm) = slcL P h ty w (optV lo tm') (optV hi tm') (optV mx tm')
    rw [optV_congr hl, optV_congr hh, optV_congr hm]
  | _ => rfl
theorem build_congr {P : Program} {tm tm' : T SV} {h : H} {ty : TypeId} {l : List (Nat × Operand)} (hl : ∀ p ∈ l, ev p.2 tm = ev p.2 tm') : build1 (zeroO P ty) ty P tm h l = build1 (zeroO P ty) ty P tm' h l := by
  cases zeroO P ty with
  | none => rfl
  | some z =>
    show build2 (undO P ty) P tm h l (litCells z) = build2 (undO P ty) P tm' h l (litCells z)
    cases undO P ty with
    | none => rfl
    | some d =>
      cases d with
      | struct fields => simp only [build2, fill_congr l _ hl]
      | array n el =>
        show build3 (sizeO P el) tm h l (litCells z) = build3 (sizeO P el) tm' h l (litCells z)
        cases sizeO P el with
        | none => rfl
        | some n => simp only [build3, fill_congr l _ hl]
      | _ => rfl
theorem bslice_congr {P : Program} {tm tm' : T SV} {h : H} {e : Option TypeId} {n : Nat} {l : List (Nat × Operand)} (hl : ∀ p ∈ l, ev p.2 tm = ev p.2 tm') : bslice1 e n P tm h l = bslice1 e n P tm' h l := by
  cases e with
  | none => rfl
  | some el =>
    show bslice2 (zeroO P el) (sizeO P el) el n tm h l = bslice2 (zeroO P el) (sizeO P el) el n tm' h l
    cases zeroO P el with
    | none => rfl
    | some z =>
      cases sizeO P el with
      | none => rfl
      | some k => simp only [bslice2, fill_congr l _ hl]
theorem opCall_congr {P : Program} {tm tm' : T SV} {h : H} {ty : TypeId} {c : Call} (hc : ∀ x ∈ c.operands.toList, ev x tm = ev x tm') : opCall c.callee P tm h ty c.argTypes c.args.toList = opCall c.callee P tm' h ty c.argTypes c.args.toList := by
  obtain ⟨callee, args, ts⟩ := c
  have hl : evL args.toList tm = evL args.toList tm' := evL_congr _ fun x hx => hc x (by simp [Call.operands]; exact .inr (by simpa using hx))
  cases callee with
  | value f =>
    show callV (ev f tm) P h (evL args.toList tm) = callV (ev f tm') P h (evL args.toList tm')
    rw [hl, hc f (by simp [Call.operands])]
  | builtin b =>
    show builtinD b P h ts ty (evL args.toList tm) = builtinD b P h ts ty (evL args.toList tm')
    rw [hl]
  | invoke r n => rfl
theorem opDefer_congr {tm tm' : T SV} {c : Call} (hc : ∀ x ∈ c.operands.toList, ev x tm = ev x tm') : opDefer c.callee tm c.args.toList = opDefer c.callee tm' c.args.toList := by
  obtain ⟨callee, args, ts⟩ := c
  have hl : evL args.toList tm = evL args.toList tm' := evL_congr _ fun x hx => hc x (by simp [Call.operands]; exact .inr (by simpa using hx))
  cases callee with
  | value f =>
    show deferV (ev f tm) (evL args.toList tm) = deferV (ev f tm') (evL args.toList tm')
    rw [hl, hc f (by simp [Call.operands])]
  | _ => rfl
theorem ev_congr {op : Op} {tm tm' : T SV} (h : ∀ t ∈ tmpsOf op, sget (pa t) tm = sget (pa t) tm') : ∀ x ∈ op.operands.toList, ev x tm = ev x tm' := by
  intro x hx
  cases x with
  | tmp t => exact h t (mem_tmpsOf hx)
  | _ => rfl
/-- An operation looks at its operands only. -/
theorem sop_congr {P : Program} {G : Glob} {op : Op} {ty : TypeId} {tm tm' : T SV} {h : H} (ht : ∀ t ∈ tmpsOf op, sget (pa t) tm = sget (pa t) tm') : sop op ty P G tm h = sop op ty P G tm' h := by
  have hx := ev_congr ht
  clear ht
  have e1 : ∀ x, x ∈ op.operands.toList → ev x tm = ev x tm' := hx
  cases op with
  | move x => show Eff.val (ev x tm) h = .val (ev x tm') h; rw [e1 x (by simp [Op.operands])]
  | assign x => show Eff.val (ev x tm) h = .val (ev x tm') h; rw [e1 x (by simp [Op.operands])]
  | pick c a b => show boolV (ev c tm) (fun c => .val (pickB c (ev a tm) (ev b tm)) h) = boolV (ev c tm') (fun c => .val (pickB c (ev a tm') (ev b tm')) h); rw [e1 c (by simp [Op.operands]), e1 a (by simp [Op.operands]), e1 b (by simp [Op.operands])]
  | alloc el => rfl
  | box el x => show newE h (.cells (cellsOf (ev x tm)) el true) (fun i h => .val (.ptr i 0) h) = newE h (.cells (cellsOf (ev x tm')) el true) (fun i h => .val (.ptr i 0) h); rw [e1 x (by simp [Op.operands])]
  | build t p => exact build_congr fun q hq => e1 q.2 (by simp [Op.operands]; exact ⟨q.1, by simpa using hq⟩)
  | buildSlice t n p => exact bslice_congr fun q hq => e1 q.2 (by simp [Op.operands]; exact ⟨q.1, by simpa using hq⟩)
  | load t a => show loadE (loadN (sizeO P t) (ev a tm) G h) (aggT P t) h = loadE (loadN (sizeO P t) (ev a tm') G h) (aggT P t) h; rw [e1 a (by simp [Op.operands])]
  | store t a x => show storeS (sizeO P t) (ev a tm) h (cellsOf (ev x tm)) = storeS (sizeO P t) (ev a tm') h (cellsOf (ev x tm')); rw [e1 a (by simp [Op.operands]), e1 x (by simp [Op.operands])]
  | nilCheck x => show nilCheckV (ev x tm) P h = nilCheckV (ev x tm') P h; rw [e1 x (by simp [Op.operands])]
  | binOp op xT x y yT => show bin1 (ev x tm) (ev x tm) P h op xT x y (ev y tm) = bin1 (ev x tm') (ev x tm') P h op xT x y (ev y tm'); rw [e1 x (by simp [Op.operands]), e1 y (by simp [Op.operands])]
  | unOp op t x => show un1 (ev x tm) P h op = un1 (ev x tm') P h op; rw [e1 x (by simp [Op.operands])]
  | convert a b x => show conv1 (ev x tm) P h a b = conv1 (ev x tm') P h a b; rw [e1 x (by simp [Op.operands])]
  | makeInterface t x => show ifB (concrete (undO P t)) (.val (ifaceV (ev x tm) (ev x tm) t) h) = ifB (concrete (undO P t)) (.val (ifaceV (ev x tm') (ev x tm') t) h); rw [e1 x (by simp [Op.operands])]
  | makeFunc fn a b =>
    show makeFn fn h (evL a.toList tm) (evL b.toList tm) = makeFn fn h (evL a.toList tm') (evL b.toList tm')
    rw [evL_congr a.toList fun x hx => e1 x (by simp [Op.operands]; exact .inl (by simpa using hx)), evL_congr b.toList fun x hx => e1 x (by simp [Op.operands]; exact .inr (by simpa using hx))]
  | makeMap t r =>
    cases r with
    | none => rfl
    | some x => show ifB (andB (mapD (undO P t)) (intS (ev x tm))) _ = ifB (andB (mapD (undO P t)) (intS (ev x tm'))) _; rw [e1 x (by simp [Op.operands])]
  | makeSlice t l c => show makeSlice1 P h t (ev l tm) (ev c tm) = makeSlice1 P h t (ev l tm') (ev c tm'); rw [e1 l (by simp [Op.operands]), e1 c (by simp [Op.operands])]
  | slice t x lo hi mx =>
    show slc1 (ev x tm) P tm h t lo hi mx = slc1 (ev x tm') P tm' h t lo hi mx
    rw [e1 x (by simp [Op.operands])]
    exact slc1_congr (fun y e => e1 y (by simp [Op.operands, e])) (fun y e => e1 y (by simp [Op.operands, e])) (fun y e => e1 y (by simp [Op.operands, e]))
  | fieldAddr t x i => show fieldAddr1 (ev x tm) P h t i = fieldAddr1 (ev x tm') P h t i; rw [e1 x (by simp [Op.operands])]
  | field t x i => show field0 (aggCells (ev x tm)) P h t i = field0 (aggCells (ev x tm')) P h t i; rw [e1 x (by simp [Op.operands])]
  | indexAddr t x i => show idx1 (ev x tm) P h t (ev i tm) = idx1 (ev x tm') P h t (ev i tm'); rw [e1 x (by simp [Op.operands]), e1 i (by simp [Op.operands])]
  | index t x i => show index1 (asN (ev i tm)) (ev x tm) P h t = index1 (asN (ev i tm')) (ev x tm') P h t; rw [e1 x (by simp [Op.operands]), e1 i (by simp [Op.operands])]
  | lookup t m k ok => show lookup1 P h t (ev m tm) (ev k tm) ok = lookup1 P h t (ev m tm') (ev k tm') ok; rw [e1 m (by simp [Op.operands]), e1 k (by simp [Op.operands])]
  | mapUpdate t m k v => show mapUpdate1 P h t (ev m tm) (ev k tm) (ev v tm) = mapUpdate1 P h t (ev m tm') (ev k tm') (ev v tm'); rw [e1 m (by simp [Op.operands]), e1 k (by simp [Op.operands]), e1 v (by simp [Op.operands])]
  | insert t m k v => show mapUpdate1 P h t (ev m tm) (ev k tm) (ev v tm) = mapUpdate1 P h t (ev m tm') (ev k tm') (ev v tm'); rw [e1 m (by simp [Op.operands]), e1 k (by simp [Op.operands]), e1 v (by simp [Op.operands])]
  | range t x => show range1 P h t (ev x tm) = range1 P h t (ev x tm'); rw [e1 x (by simp [Op.operands])]
  | next it isS => show next1 h (ev it tm) isS = next1 h (ev it tm') isS; rw [e1 it (by simp [Op.operands])]
  | entry it => show entry1 h (ev it tm) = entry1 h (ev it tm'); rw [e1 it (by simp [Op.operands])]
  | extract x i => show extract1 (ev x tm) h i = extract1 (ev x tm') h i; rw [e1 x (by simp [Op.operands])]
  | call c => exact opCall_congr fun x hx => e1 x (by simpa [Op.operands] using hx)
  | defer c => exact opDefer_congr fun x hx => e1 x (by simpa [Op.operands] using hx)
  | panic x => show opPanic (ev x tm) = opPanic (ev x tm'); rw [e1 x (by simp [Op.operands])]
  | typeAssert x xT a ok => show typeAssert1 P h a ok (ev x tm) = typeAssert1 P h a ok (ev x tm'); rw [e1 x (by simp [Op.operands])]
  | _ => rfl
theorem readsO_congr {op : Op} {tm tm' : T SV} (ht : ∀ t ∈ tmpsOf op, sget (pa t) tm = sget (pa t) tm') : readsO op tm = readsO op tm' := by
  have e1 := ev_congr ht
  cases op with
  | load t a => show ptrO (ev a tm) = ptrO (ev a tm'); rw [e1 a (by simp [Op.operands])]
  | convert a b x => show ptrO (ev x tm) = ptrO (ev x tm'); rw [e1 x (by simp [Op.operands])]
  | slice t x lo hi mx => show ptrO (ev x tm) = ptrO (ev x tm'); rw [e1 x (by simp [Op.operands])]
  | call c =>
    show headO c.args.toList tm = headO c.args.toList tm'
    cases hc : c.args.toList with
    | nil => rfl
    | cons x l =>
      show ptrO (ev x tm) = ptrO (ev x tm')
      rw [e1 x (by
        simp only [Op.operands, Call.operands, Array.toList_append, hc]
        simp)]
  | _ => rfl
/-- What a light operation reads is named by its operands. -/
theorem readsO_named {op : Op} {tm : T SV} {ρ : Env} {f : Operand → Value} (hev : ∀ x, VR ρ (ev x tm) (f x)) {o : Pa} (h : readsO op tm = some o) : ∃ b, ρ o = some b := by
  have key : ∀ x, ptrO (ev x tm) = some o → ∃ b, ρ o = some b := by
    intro x hx
    have hv := hev x
    generalize ev x tm = v at hx hv
    generalize f x = y at hv
    cases v with
    | ptr o' off => cases hx; cases hv with | ptr _ hb => exact ⟨_, hb⟩
    | slc o' a b c d => cases hx; cases hv with | slc _ _ _ _ _ hb => exact ⟨_, hb⟩
    | mapv o' => cases hx; cases hv with | mapv hb => exact ⟨_, hb⟩
    | _ => cases hx
  cases op with
  | load t a => exact key a h
  | convert a b x => exact key x h
  | slice t x lo hi mx => exact key x h
  | call c =>
    change headO c.args.toList tm = some o at h
    cases hc : c.args.toList with
    | nil => rw [hc] at h; cases h
    | cons x l => rw [hc] at h; exact key x h
  | _ => cases h

/-- Slots that are told in part: the others are as they are. -/
theorem slots_some (ts : Array Value) (T0 : List Tmp) {ρ : Env} {tm : T SV} (h : ∀ t ∈ T0, VR ρ (sget (pa t) tm) (ts.getD t undef)) : ∃ tm', TR ρ tm' ts ∧ ∀ t ∈ T0, sget (pa t) tm' = sget (pa t) tm := by
  have base : ∃ t0 : T SV, ∀ i, sget (pa i) t0 = .lit (ts.getD i undef) := by
    have : ∀ n, ∃ t0 : T SV, (∀ i, i < n → sget (pa i) t0 = .lit (ts.getD i undef)) ∧ ∀ i, n ≤ i → sget (pa i) t0 = undefS := by
      intro n
      induction n with
      | zero => exact ⟨.nil, fun i hi => by omega, fun i _ => sget_nil _⟩
      | succ n ih =>
        obtain ⟨t0, h1, h2⟩ := ih
        refine ⟨sset' (pa n) (.lit (ts.getD n undef)) t0, fun i hi => ?_, fun i hi => ?_⟩
        · rw [sget_set]
          by_cases e : i = n
          · rw [e, if_pos rfl]
          · rw [if_neg fun e' => e (pa_inj e')]; exact h1 i (by omega)
        · rw [sget_set, if_neg fun e' => by have := pa_inj e'; omega]; exact h2 i (by omega)
    obtain ⟨t0, h1, h2⟩ := this ts.size
    refine ⟨t0, fun i => ?_⟩
    by_cases hi : i < ts.size
    · exact h1 i hi
    · rw [h2 i (by omega)]
      have : ts.getD i undef = undef := by simp [Array.getD, hi]
      rw [this]; rfl
  obtain ⟨t0, h0⟩ := base
  have : ∀ l : List Tmp, (∀ t ∈ l, t ∈ T0) → ∃ tm', (∀ i, sget (pa i) tm' = sget (pa i) tm ∧ i ∈ T0 ∨ sget (pa i) tm' = .lit (ts.getD i undef)) ∧ ∀ t ∈ l, sget (pa t) tm' = sget (pa t) tm := by
    intro l
    induction l with
    | nil => intro _; exact ⟨t0, fun i => .inr (h0 i), fun t ht => by cases ht⟩
    | cons t l ih =>
      intro hl
      obtain ⟨t1, h1, h2⟩ := ih fun u hu => hl u (by simp [hu])
      refine ⟨sset' (pa t) (sget (pa t) tm) t1, fun i => ?_, fun u hu => ?_⟩
      · rw [sget_set]
        by_cases e : i = t
        · rw [e, if_pos rfl]; exact .inl ⟨rfl, hl t (by simp)⟩
        · rw [if_neg fun e' => e (pa_inj e')]; exact h1 i
      · rw [sget_set]
        by_cases e : u = t
        · rw [e, if_pos rfl]
        · rw [if_neg fun e' => e (pa_inj e')]
          refine h2 u ?_
          cases hu with
          | head => exact absurd rfl e
          | tail _ hm => exact hm
  obtain ⟨tm', h1, h2⟩ := this T0 fun _ h => h
  refine ⟨tm', fun i => ?_, h2⟩
  rcases h1 i with ⟨e, hi⟩ | e
  · rw [e]; exact h i hi
  · rw [e]; exact .lit _
end Go.Play

/- Play: regions that draw their order: what light operations do at any time; heaps that are dimmed. -/
namespace Go.Play
set_option linter.unusedVariables false
set_option linter.unusedSimpArgs false

theorem oget_one (o p : Pa) (ob : SO) : oget p (one o ob) = if p = o then ob else .none := by
  induction o generalizing p with
  | e => cases p with
    | e => rfl
    | l p => rw [if_neg (by simp)]; exact oget_nil p
    | r p => rw [if_neg (by simp)]; exact oget_nil p
  | l o ih => cases p with
    | e => rfl
    | l p => show oget p (one o ob) = _; rw [ih]; by_cases h : p = o
             · rw [if_pos h, if_pos (by rw [h])]
             · rw [if_neg h, if_neg (by simp [h])]
    | r p => rw [if_neg (by simp)]; exact oget_nil p
  | r o ih => cases p with
    | e => rfl
    | r p => show oget p (one o ob) = _; rw [ih]; by_cases h : p = o
             · rw [if_pos h, if_pos (by rw [h])]
             · rw [if_neg h, if_neg (by simp [h])]
    | l p => rw [if_neg (by simp)]; exact oget_nil p
theorem nOf_small (q : Option Pa) (h : H) : nOf (smallH q h) = nOf h := by cases q <;> rfl
theorem hget_small (q : Option Pa) (h : H) (p : Pa) : hget (smallH q h) p = match q with | some o => if p = o then dimO false (hget h o) else .none | none => .none := by
  cases q with
  | none => exact oget_nil p
  | some o => exact oget_one o p _

section
variable {P : Program} {G : Glob} {M : Nat → Prop} {ρ : Env} {h : H} {w : World}

/-- The names of known package variables' values lie below a bound. -/
def GS (G : Glob) (N : Nat) : Prop := ∀ g cs, gfind G g = some cs → ∀ (i : Nat) (v : SV), cs[i]? = some v → NS N v
theorem Sim.gs (s : Sim P G M ρ h w) : GS G (nOf h).num := by
  intro g cs hg i v hv
  obtain ⟨_, c, el, fr, _, h2⟩ := s.globs g cs hg
  obtain ⟨x, _, hx⟩ := h2 i v hv
  exact hx.ns s.dom
/-- The world as a light operation sees it. -/
theorem Sim.small (s : Sim P G M ρ h w) {hj : H} (q : Option Pa) (hg : GS G (nOf hj).num) (hq : ∀ o, q = some o → hget h o = hget hj o ∧ OS P (nOf hj).num (hget hj o)) :
    Sim P G (fun k => w.heap.size ≤ k) (ρ.below (nOf hj).num) (smallH q hj) w := by
  have hm : ∀ o, mineO (hget (smallH q hj) o) = false := by
    intro o
    rw [hget_small]
    cases q with
    | none => rfl
    | some o' =>
      simp only []
      split
      · exact mineO_dim _ _
      · rfl
  have hone : ∀ o, hget (smallH q hj) o ≠ .none → q = some o := by
    intro o ho
    rw [hget_small] at ho
    cases q with
    | none => exact absurd rfl ho
    | some o' =>
      simp only [] at ho
      split at ho
      · rename_i e; rw [e]
      · exact absurd rfl ho
  refine ⟨fun o b hb => ?_, fun o b hb => s.size o b (below_dom hb).2, fun o b hb => by rw [nOf_small]; exact (below_dom hb).1, fun o o' b b' hb hb' ho ho' _ => ?_, fun o b hb hmo => ?_, fun k hk => hk, fun g cs hgf => ?_⟩
  · rw [hget_small]
    cases q with
    | none => exact .none _ _
    | some o' =>
      simp only []
      split
      · rename_i e
        subst e
        obtain ⟨h1, h2⟩ := hq o rfl
        have := s.live o b (below_dom hb).2
        rw [h1] at this
        exact h2 _ _ _ this
      · exact .none _ _
  · have e1 := hone o ho
    have e2 := hone o' ho'
    rw [e1] at e2; cases e2; rfl
  · rw [hm] at hmo; cases hmo
  · obtain ⟨_, c, el, fr, h1, h2⟩ := s.globs g cs hgf
    have hlt := lt_of_at h1
    refine ⟨by omega, c, el, fr, h1, fun i v hv => ?_⟩
    obtain ⟨x, hx, hvx⟩ := h2 i v hv
    exact ⟨x, hx, hg g cs hgf i v hv _ _ hvx⟩

def evalT (ts : Array Value) : Operand → Value
  | .tmp t => ts.getD t undef
  | .const v => v
  | .global g => .pointer (some ⟨g, 0, none⟩)
  | .func f => .func (.func f) #[] #[]
theorem eval_eq (fr : Frame) : fr.eval = evalT fr.tmps := by funext x; cases x <;> rfl
theorem evalT_rel {tm : T SV} {ts : Array Value} (ht : TR ρ tm ts) (x : Operand) : VR ρ (ev x tm) (evalT ts x) :=
  ev_rel ht (fun _ => rfl) (fun _ => rfl) (fun _ => rfl) (fun _ => rfl) x

/-- What a light operation that was told in the heap hj does later, in a world whose heap is h: it makes a value, and at most one block. -/
theorem light_run (s : Sim P G M ρ h w) {hj : H} {o : Oper} {tmj : T SV} {ts : Array Value} (hsl : ∀ t ∈ tmpsOf o.op, VR ρ (sget (pa t) tmj) (ts.getD t undef)) (hns : ∀ t ∈ tmpsOf o.op, NS (nOf hj).num (sget (pa t) tmj))
    (hg : GS G (nOf hj).num) (hq : ∀ q, readsO o.op tmj = some q → hget h q = hget hj q ∧ OS P (nOf hj).num (hget hj q)) {v : SV} {hs : H}
    (he : sop o.op o.type P G tmj (smallH (readsO o.op tmj) hj) = .val v hs) (hn : nOf hs = nOf hj ∨ nOf hs = Pa.succ (nOf hj)) :
    ∃ x w', ((execOp (evalT ts) o).run P w = .ok (.value x) w' ∨ (execOp (evalT ts) o).run P w = .ok .skip w' ∧ x = undef) ∧ w'.os = w.os ∧ w'.tape = w.tape ∧ w'.output = w.output ∧ w.heap.size ≤ w'.heap.size ∧
      (∀ k, k < w.heap.size → w'.heap[k]? = w.heap[k]?) ∧
      (VR ρ v x ∨ nOf hs = Pa.succ (nOf hj) ∧ ∃ b : Loc, VR ((ρ.below (nOf hj).num).put (nOf hj) b) v x ∧ b.block < w'.heap.size ∧ OR P ((ρ.below (nOf hj).num).put (nOf hj) b) (hget hs (nOf hj)) b w'.heap[b.block]? ∧ (hget hs (nOf hj) ≠ .none → w.heap.size ≤ b.block)) := by
  have ssm := s.small (readsO o.op tmj) hg hq
  obtain ⟨tm', htr, hag⟩ := slots_some ts (tmpsOf o.op) (ρ := ρ.below (nOf hj).num) (tm := tmj) fun t ht => hns t ht _ _ (hsl t ht)
  have hcong : sop o.op o.type P G tm' (smallH (readsO o.op tmj) hj) = .val v hs := by
    rw [← he]; exact sop_congr fun t ht => hag t ht
  have hok := sop_ok ssm o (evalT_rel htr)
  rw [hcong] at hok
  obtain ⟨ρ', w', s', g', hr⟩ := hok
  have hdom : ∀ p b, ρ' p = some b → p ≠ nOf hj → ρ.below (nOf hj).num p = some b := by
    intro p b hb hne
    cases hp : ρ.below (nOf hj).num p with
    | some b' => rw [g'.keep p b' hp] at hb; exact hb
    | none =>
      have h1 := g'.new p hp (by rw [hb]; simp)
      rw [nOf_small] at h1
      have h2 := s'.dom p b hb
      rcases hn with e | e
      · rw [e] at h2; omega
      · rw [e, Pa.num_succ] at h2
        exact absurd (Pa.num_inj (p := p) (q := nOf hj) (by omega)) hne
  obtain ⟨x, hx, hvx⟩ : ∃ x, ((execOp (evalT ts) o).run P w = .ok (.value x) w' ∨ (execOp (evalT ts) o).run P w = .ok .skip w' ∧ x = undef) ∧ VR ρ' v x := by
    rcases hr with ⟨x, hr, hv⟩ | ⟨hr, rfl⟩
    · exact ⟨x, .inl hr, hv⟩
    · exact ⟨undef, .inr ⟨hr, rfl⟩, .lit _⟩
  refine ⟨x, w', hx, g'.os, g'.tape, g'.output, g'.size, fun k hk => g'.same k (by omega), ?_⟩
  cases hN : ρ' (nOf hj) with
  | none =>
    refine .inl (hvx.mono fun p b hb => ?_)
    by_cases e : p = nOf hj
    · rw [e, hN] at hb; cases hb
    · exact (below_dom (hdom p b hb e)).2
  | some b =>
    have hs2 : nOf hs = Pa.succ (nOf hj) := by
      rcases hn with e | e
      · have := s'.dom _ _ hN; rw [e] at this; exact absurd this (Nat.lt_irrefl _)
      · exact e
    have hle : Env.le ρ' ((ρ.below (nOf hj).num).put (nOf hj) b) := by
      intro p b' hb'
      unfold Env.put
      by_cases e : p = nOf hj
      · rw [if_pos e]; rw [e, hN] at hb'; exact hb'
      · rw [if_neg e]; exact hdom p b' hb' e
    refine .inr ⟨hs2, b, hvx.mono hle, s'.size _ _ hN, (s'.live _ _ hN).mono hle, fun hne => ?_⟩
    rcases g'.track _ _ hN hne with h1 | ⟨h1, _⟩
    · exact h1
    · have := (below_dom h1).1; exact absurd this (Nat.lt_irrefl _)

-- names that get no object
theorem Sim.putNone (s : Sim P G M ρ h w) {o : Pa} {b : Loc} (hn : ρ o = none) (hnone : hget h o = .none) (hlt : o.num < (nOf h).num) {w' : World} (hz : w.heap.size ≤ w'.heap.size) (hbz : b.block < w'.heap.size) (hk : ∀ k, k < w.heap.size → w'.heap[k]? = w.heap[k]?) : Sim P G M (ρ.put o b) h w' := by
  have hle : Env.le ρ (ρ.put o b) := Env.put_le b hn
  have hsplit : ∀ o' b', (ρ.put o b) o' = some b' → (o' = o ∧ b' = b) ∨ (o' ≠ o ∧ ρ o' = some b') := by
    intro o' b' hb
    unfold Env.put at hb
    split at hb
    · rename_i e; cases hb; exact .inl ⟨e, rfl⟩
    · rename_i e; exact .inr ⟨e, hb⟩
  refine ⟨fun o' b' hb' => ?_, fun o' b' hb' => ?_, fun o' b' hb' => ?_, fun o1 o2 b1 b2 h1 h2 n1 n2 e => ?_, fun o' b' hb' hm => ?_, fun k hk' => s.fresh k (Nat.le_trans hz hk'), fun g cs hg => ?_⟩
  · rcases hsplit o' b' hb' with ⟨rfl, rfl⟩ | ⟨_, hb⟩
    · rw [hnone]; exact .none _ _
    · rw [hk _ (s.size o' b' hb)]; exact (s.live o' b' hb).mono hle
  · rcases hsplit o' b' hb' with ⟨rfl, rfl⟩ | ⟨_, hb⟩
    · exact hbz
    · exact Nat.lt_of_lt_of_le (s.size o' b' hb) hz
  · rcases hsplit o' b' hb' with ⟨rfl, rfl⟩ | ⟨_, hb⟩
    · exact hlt
    · exact s.dom o' b' hb
  · rcases hsplit o1 b1 h1 with ⟨rfl, rfl⟩ | ⟨_, hb1⟩
    · exact absurd hnone n1
    · rcases hsplit o2 b2 h2 with ⟨rfl, rfl⟩ | ⟨_, hb2⟩
      · exact absurd hnone n2
      · exact s.apart o1 o2 b1 b2 hb1 hb2 n1 n2 e
  · rcases hsplit o' b' hb' with ⟨rfl, rfl⟩ | ⟨_, hb⟩
    · rw [hnone] at hm; cases hm
    · exact s.mine o' b' hb hm
  · obtain ⟨h1, c, el, fr, h2, h3⟩ := s.globs g cs hg
    exact ⟨h1, c, el, fr, by rw [hk g (lt_of_at h2)]; exact h2, fun i v hi => let ⟨x, hx, hv⟩ := h3 i v hi; ⟨x, hx, hv.mono hle⟩⟩
/-- The world grows by blocks that nothing names. -/
theorem Sim.more (s : Sim P G M ρ h w) {w' : World} (hz : w.heap.size ≤ w'.heap.size) (hk : ∀ k, k < w.heap.size → w'.heap[k]? = w.heap[k]?) : Sim P G M ρ h w' :=
  ⟨fun o b hb => by rw [hk _ (s.size o b hb)]; exact s.live o b hb, fun o b hb => Nat.lt_of_lt_of_le (s.size o b hb) hz, s.dom, s.apart, s.mine, fun k hk' => s.fresh k (Nat.le_trans hz hk'), fun g cs hg => by
    obtain ⟨h1, c, el, fr, h2, h3⟩ := s.globs g cs hg
    exact ⟨h1, c, el, fr, by rw [hk g (lt_of_at h2)]; exact h2, h3⟩⟩
/-- The symbolic heap gets an object that no name leads to. -/
theorem Sim.ahead (s : Sim P G M ρ h w) (ob : SO) : Sim P G M ρ (hpush h ob) w := by
  have hne : ∀ o b, ρ o = some b → o ≠ nOf h := fun o b hb e => by have := s.dom o b hb; rw [e] at this; exact absurd this (Nat.lt_irrefl _)
  have hg : ∀ o b, ρ o = some b → hget (hpush h ob) o = hget h o := fun o b hb => by rw [hget_push, if_neg (hne o b hb)]
  exact ⟨fun o b hb => by rw [hg o b hb]; exact s.live o b hb, s.size, fun o b hb => by rw [nOf_push, Pa.num_succ]; exact Nat.lt_succ_of_lt (s.dom o b hb),
    fun o o' b b' hb hb' ho ho' e => s.apart o o' b b' hb hb' (by rw [hg o b hb] at ho; exact ho) (by rw [hg o' b' hb'] at ho'; exact ho') e,
    fun o b hb hm => s.mine o b hb (by rw [hg o b hb] at hm; exact hm), s.fresh, s.globs⟩

-- heaps that are dimmed
/-- The objects that a heavy operation, behind the places of a mask, must leave alone. -/
def Named (fl : Fl) (mask : Nat) (o : Pa) : Prop := ∃ e ∈ fl, Nat.testBit mask e.1 = false ∧ e.2.1 = o
/-- Told again. -/
def undim (u : List (Pa × SO)) (h : H) : H := u.foldl (fun h p => hput h p.1 p.2) h
theorem undimK_eq (u : List (Pa × SO)) : ∀ (h : H) (K : H → Res), undimK u h K = K (undim u h) := by
  induction u with
  | nil => intro h K; rfl
  | cons p u ih =>
    intro h K
    show putR h p.1 p.2 (fun h => undimK u h K) = _
    rw [putR_eq, ih]; rfl
theorem nOf_undim (u : List (Pa × SO)) : ∀ h : H, nOf (undim u h) = nOf h := by
  induction u with
  | nil => intro h; rfl
  | cons p u ih => intro h; show nOf (undim u (hput h p.1 p.2)) = _; rw [ih, nOf_put]
theorem hget_undim_other (u : List (Pa × SO)) : ∀ (h : H) (o : Pa), (∀ p ∈ u, p.1 ≠ o) → hget (undim u h) o = hget h o := by
  induction u with
  | nil => intro h o _; rfl
  | cons p u ih =>
    intro h o hu
    show hget (undim u (hput h p.1 p.2)) o = _
    rw [ih _ _ fun q hq => hu q (by simp [hq]), hget_put, if_neg fun e => hu p (by simp) e.symm]
def Dimmed (ob' ob : SO) : Prop := ob' = dimO false ob ∨ ob' = .none
theorem dimO_dimO (a b : Bool) (ob : SO) : Dimmed (dimO a (dimO b ob)) ob := by
  cases a <;> cases b <;> cases ob <;> first | exact .inl rfl | exact .inr rfl
theorem dimO_Dimmed (a : Bool) (ob : SO) : Dimmed (dimO a ob) ob := by cases a <;> first | exact .inl rfl | exact .inr rfl
theorem Dimmed.again (a : Bool) {ob' ob : SO} (h : Dimmed ob' ob) : Dimmed (dimO a ob') ob := by
  rcases h with rfl | rfl
  · exact dimO_dimO a false ob
  · cases a <;> exact .inr rfl
/-- What dimming leaves, and what telling again gives back. -/
theorem dimK_ok (mask : Nat) : ∀ (fl : Fl) (h0 h : H) (u : List (Pa × SO)) (K : H → List (Pa × SO) → Res) (S : Pa → Prop), nOf h = nOf h0 → (∀ o, S o → Dimmed (hget h o) (hget h0 o)) → (∀ o, ¬ S o → hget h o = hget h0 o) →
    (∀ h' o, S o → hget (undim u h') o = hget h0 o) → (∀ p ∈ u, S p.1) →
    ∃ hd u', dimK fl mask h u K = K hd u' ∧ nOf hd = nOf h0 ∧ (∀ o, (S o ∨ Named fl mask o) → Dimmed (hget hd o) (hget h0 o)) ∧ (∀ o, ¬ (S o ∨ Named fl mask o) → hget hd o = hget h0 o) ∧
      (∀ h' o, (S o ∨ Named fl mask o) → hget (undim u' h') o = hget h0 o) ∧ (∀ p ∈ u', S p.1 ∨ Named fl mask p.1) := by
  intro fl
  induction fl with
  | nil =>
    intro h0 h u K S h1 h2 h3 h4 h5
    have hn : ∀ o, ¬ Named [] mask o := fun o ⟨e, he, _⟩ => by cases he
    exact ⟨h, u, rfl, h1, fun o ho => h2 o (ho.resolve_right (hn o)), fun o ho => h3 o fun k => ho (.inl k), fun h' o ho => h4 h' o (ho.resolve_right (hn o)), fun p hp => .inl (h5 p hp)⟩
  | cons e fl ih =>
    intro h0 h u K S h1 h2 h3 h4 h5
    obtain ⟨i, o, hide⟩ := e
    show ∃ hd u', dimB (Nat.testBit mask i) o hide h (fun h u => dimK fl mask h u K) u = K hd u' ∧ _
    have hsplit : ∀ p, Named ((i, o, hide) :: fl) mask p ↔ (Nat.testBit mask i = false ∧ o = p) ∨ Named fl mask p := by
      intro p
      constructor
      · rintro ⟨e, he, hb, hp⟩
        cases he with
        | head => exact .inl ⟨hb, hp⟩
        | tail _ hm => exact .inr ⟨e, hm, hb, hp⟩
      · rintro (⟨hb, hp⟩ | ⟨e, he, hb, hp⟩)
        · exact ⟨(i, o, hide), by simp, hb, hp⟩
        · exact ⟨e, by simp [he], hb, hp⟩
    cases hb : Nat.testBit mask i with
    | true =>
      obtain ⟨hd, u', k1, k2, k3, k4, k5, k6⟩ := ih h0 h u K S h1 h2 h3 h4 h5
      have hiff : ∀ p, (S p ∨ Named ((i, o, hide) :: fl) mask p) ↔ (S p ∨ Named fl mask p) := by
        intro p; rw [hsplit p, hb]; simp
      exact ⟨hd, u', k1, k2, fun p hp => k3 p ((hiff p).1 hp), fun p hp => k4 p fun k => hp ((hiff p).2 k), fun h' p hp => k5 h' p ((hiff p).1 hp), fun p hp => (hiff _).2 (k6 p hp)⟩
    | false =>
      show ∃ hd u', putR h o (dimO hide (hget h o)) (fun h' => dimK fl mask h' ((o, hget h o) :: u) K) = K hd u' ∧ _
      rw [putR_eq]
      have hiff : ∀ p, (S p ∨ Named ((i, o, hide) :: fl) mask p) ↔ ((S p ∨ p = o) ∨ Named fl mask p) := by
        intro p; rw [hsplit p, hb]
        constructor
        · rintro (k | ⟨_, rfl⟩ | k)
          · exact .inl (.inl k)
          · exact .inl (.inr rfl)
          · exact .inr k
        · rintro ((k | rfl) | k)
          · exact .inl k
          · exact .inr (.inl ⟨rfl, rfl⟩)
          · exact .inr (.inr k)
      have old : ∀ p, ¬ S p → hget h p = hget h0 p := h3
      obtain ⟨hd, u', k1, k2, k3, k4, k5, k6⟩ := ih h0 (hput h o (dimO hide (hget h o))) ((o, hget h o) :: u) K (fun p => S p ∨ p = o) (by rw [nOf_put, h1])
        (fun p hp => by
          rw [hget_put]
          by_cases e : p = o
          · rw [if_pos e, ← e]
            by_cases hs : S p
            · exact (h2 p hs).again hide
            · rw [h3 p hs]; exact dimO_Dimmed hide _
          · rw [if_neg e]; exact h2 p (hp.resolve_right e))
        (fun p hp => by rw [hget_put, if_neg fun e => hp (.inr e)]; exact h3 p fun k => hp (.inl k))
        (fun h' p hp => by
          show hget (undim u (hput h' o (hget h o))) p = _
          by_cases hs : S p
          · exact h4 _ p hs
          · have e : p = o := hp.resolve_left hs
            rw [hget_undim_other u _ _ fun q hq e' => hs (by rw [← e']; exact h5 q hq), hget_put, if_pos e, e, ← h3 o (e ▸ hs)])
        (fun p hp => by
          cases hp with
          | head => exact .inr rfl
          | tail _ hm => exact .inl (h5 p hm))
      exact ⟨hd, u', k1, k2, fun p hp => k3 p ((hiff p).1 hp), fun p hp => k4 p fun k => hp ((hiff p).2 k), fun h' p hp => k5 h' p ((hiff p).1 hp), fun p hp => (hiff _).2 (k6 p hp)⟩

/-- What a heavy operation may write. -/
def Mdim (M : Nat → Prop) (ρ : Env) (h : H) (S : Pa → Prop) : Nat → Prop := fun k => M k ∧ ∀ o b, S o → ρ o = some b → hget h o ≠ .none → b.block ≠ k
theorem Sim.dim (s : Sim P G M ρ h w) {hd : H} {S : Pa → Prop} (hn : nOf hd = nOf h) (h1 : ∀ o, S o → Dimmed (hget hd o) (hget h o)) (h2 : ∀ o, ¬ S o → hget hd o = hget h o) : Sim P G (Mdim M ρ h S) ρ hd w := by
  have hnn : ∀ o, hget hd o ≠ .none → hget h o ≠ .none := by
    intro o ho e
    by_cases hs : S o
    · rcases h1 o hs with k | k
      · rw [e] at k; exact ho k
      · exact ho k
    · rw [h2 o hs] at ho; exact ho e
  refine ⟨fun o b hb => ?_, s.size, fun o b hb => by rw [hn]; exact s.dom o b hb, fun o o' b b' hb hb' ho ho' e => s.apart o o' b b' hb hb' (hnn o ho) (hnn o' ho') e, fun o b hb hm => ?_, fun k hk => ⟨s.fresh k hk, fun o b _ hb _ e => by have := s.size o b hb; omega⟩, fun g cs hg => ?_⟩
  · by_cases hs : S o
    · rcases h1 o hs with k | k
      · rw [k]; exact (s.live o b hb).dim
      · rw [k]; exact .none _ _
    · rw [h2 o hs]; exact s.live o b hb
  · have hs : ¬ S o := fun hs => by
      rcases h1 o hs with k | k
      · rw [k, mineO_dim] at hm; cases hm
      · rw [k] at hm; cases hm
    rw [h2 o hs] at hm
    refine ⟨s.mine o b hb hm, fun o' b' hs' hb' hne e => ?_⟩
    have hno : hget h o ≠ .none := fun k => by rw [k] at hm; cases hm
    have := s.apart o' o b' b hb' hb hne hno e
    exact hs (this ▸ hs')
  · obtain ⟨h3, h4⟩ := s.globs g cs hg
    exact ⟨fun k => h3 k.1, h4⟩
theorem Sim.undim (s : Sim P G M ρ h w) {hd h' hu : H} {S : Pa → Prop} {ρ' : Env} {w' : World} (hn : nOf hd = nOf h) (h1 : ∀ o, S o → Dimmed (hget hd o) (hget h o)) (h2 : ∀ o, ¬ S o → hget hd o = hget h o)
    (hb : ∀ o, S o → o.num < (nOf h).num) (hnu : nOf hu = nOf h') (u1 : ∀ o, S o → hget hu o = hget h o) (u2 : ∀ o, ¬ S o → hget hu o = hget h' o)
    (s' : Sim P G (Mdim M ρ h S) ρ' h' w') (g : Grow (Mdim M ρ h S) ρ hd w ρ' h' w') : Sim P G M ρ' hu w' ∧ Grow M ρ h w ρ' hu w' := by
  have old : ∀ o b, S o → ρ' o = some b → ρ o = some b := by
    intro o b hs hb'
    cases ho : ρ o with
    | some b' => rw [g.keep o b' ho] at hb'; exact hb'
    | none =>
      have := g.new o ho (by rw [hb']; simp)
      rw [hn] at this
      have := hb o hs
      omega
  have far : ∀ o b, S o → ρ o = some b → hget h o ≠ .none → ¬ Mdim M ρ h S b.block := fun o b hs hb' hne k => k.2 o b hs hb' hne rfl
  refine ⟨⟨fun o b hb' => ?_, s'.size, fun o b hb' => by rw [hnu]; exact s'.dom o b hb', fun o o' b b' hb1 hb2 n1 n2 e => ?_, fun o b hb' hm => ?_, fun k hk => (s'.fresh k hk).1, fun gl cs hg => ?_⟩, ⟨g.os, g.tape, g.output, g.size, fun k hk => g.same k fun k' => hk k'.1, by rw [hnu, ← hn]; exact g.nx, g.keep, fun o h0 h3 => by rw [← hn]; exact g.new o h0 h3, fun o b hb' hne => ?_⟩⟩
  · by_cases hs : S o
    · rw [u1 o hs]
      by_cases hne : hget h o = .none
      · rw [hne]; exact .none _ _
      · have hbo := old o b hs hb'
        rw [g.same _ (far o b hs hbo hne)]
        exact (s.live o b hbo).mono g.keep
    · rw [u2 o hs]; exact s'.live o b hb'
  · have mix : ∀ o o' b b', S o → ¬ S o' → ρ' o = some b → ρ' o' = some b' → hget hu o ≠ .none → hget hu o' ≠ .none → b.block = b'.block → o = o' := by
      intro o o' b b' hs hs' hb1 hb2 n1 n2 e
      rw [u1 o hs] at n1
      rw [u2 o' hs'] at n2
      have hbo := old o b hs hb1
      rcases g.track o' b' hb2 n2 with k | ⟨k1, k2⟩
      · exact absurd (e ▸ k) (far o b hs hbo n1)
      · rw [h2 o' hs'] at k2
        exact s.apart o o' b b' hbo k1 n1 k2 e
    by_cases hs : S o <;> by_cases hs' : S o'
    · exact s.apart o o' b b' (old o b hs hb1) (old o' b' hs' hb2) (by rw [← u1 o hs]; exact n1) (by rw [← u1 o' hs']; exact n2) e
    · exact mix o o' b b' hs hs' hb1 hb2 n1 n2 e
    · exact (mix o' o b' b hs' hs hb2 hb1 n2 n1 e.symm).symm
    · exact s'.apart o o' b b' hb1 hb2 (by rw [← u2 o hs]; exact n1) (by rw [← u2 o' hs']; exact n2) e
  · by_cases hs : S o
    · rw [u1 o hs] at hm
      exact s.mine o b (old o b hs hb') hm
    · rw [u2 o hs] at hm
      exact (s'.mine o b hb' hm).1
  · obtain ⟨k1, k2⟩ := s'.globs gl cs hg
    exact ⟨(s.globs gl cs hg).1, k2⟩
  · by_cases hs : S o
    · rw [u1 o hs] at hne
      exact .inr ⟨old o b hs hb', hne⟩
    · rw [u2 o hs] at hne
      rcases g.track o b hb' hne with k | ⟨k1, k2⟩
      · exact .inl k.1
      · rw [h2 o hs] at k2; exact .inr ⟨k1, k2⟩
end
end Go.Play

/- Play: regions that draw their order: what every order keeps, what a plan tells. -/
namespace Go.Play
set_option linter.unusedVariables false
set_option linter.unusedSimpArgs false

-- bits
theorem bit_pow (k i : Nat) : Nat.testBit (Nat.pow 2 k) i = decide (k = i) := by
  show Nat.testBit (2 ^ k) i = _
  rw [Nat.testBit_two_pow]
theorem bit_lor (a b i : Nat) : Nat.testBit (Nat.lor a b) i = (Nat.testBit a i || Nat.testBit b i) := Nat.testBit_or a b i
theorem bit_full (n i : Nat) : Nat.testBit (Nat.sub (Nat.pow 2 n) 1) i = decide (i < n) := Nat.testBit_two_pow_sub_one n i
theorem sub_bits {a b : Nat} (h : sub a b = true) (i : Nat) (hi : Nat.testBit a i = true) : Nat.testBit b i = true := by
  have e : Nat.land a b = a := Nat.eq_of_beq_eq_true h
  have e2 : Nat.testBit (a &&& b) i = Nat.testBit a i := congrArg (fun x => Nat.testBit x i) e
  rw [Nat.testBit_and, hi] at e2
  simpa using e2

-- masks
theorem maskE_bits {ms : List Nat} : ∀ {l : List Edge} {i : Nat}, Nat.testBit (maskE ms l) i = true → ∃ e ∈ l, Region.binds .any e = true ∧ (i = e.on ∨ Nat.testBit (ms.getD e.on 0) i = true) := by
  intro l
  induction l with
  | nil => intro i h; unfold maskE at h; simp at h
  | cons e l ih =>
    intro i h
    unfold maskE at h
    cases hb : Region.binds .any e with
    | false =>
      rw [hb] at h
      obtain ⟨e', he, k⟩ := ih h
      exact ⟨e', by simp [he], k⟩
    | true =>
      rw [hb] at h
      simp only [bit_lor, bit_pow, Bool.or_eq_true, decide_eq_true_eq] at h
      rcases h with (h | h) | h
      · exact ⟨e, by simp, hb, .inl h.symm⟩
      · exact ⟨e, by simp, hb, .inr h⟩
      · obtain ⟨e', he, k⟩ := ih h
        exact ⟨e', by simp [he], k⟩
theorem masks_spec : ∀ (l : List Oper) (ms : List Nat), (masks l ms).length = ms.length + l.length ∧ (∀ j, j < ms.length → (masks l ms)[j]? = ms[j]?) ∧
    ∀ j o, l[j]? = some o → (masks l ms)[ms.length + j]? = some (maskE ((masks l ms).take (ms.length + j)) o.after.toList) := by
  intro l
  induction l with
  | nil => intro ms; exact ⟨by simp [masks], fun _ _ => rfl, fun j o h => by simp at h⟩
  | cons o l ih =>
    intro ms
    obtain ⟨h1, h2, h3⟩ := ih (ms ++ [maskE ms o.after.toList])
    simp only [List.length_append, List.length_singleton] at h1 h2 h3
    have hpre : ∀ j, j < ms.length → (masks (o :: l) ms)[j]? = ms[j]? := by
      intro j hj
      show (masks l (ms ++ [maskE ms o.after.toList]))[j]? = _
      rw [h2 j (by omega), List.getElem?_append_left hj]
    refine ⟨by show (masks l _).length = _; rw [h1]; simp; omega, hpre, fun j o' hj => ?_⟩
    cases j with
    | zero =>
      simp at hj; subst hj
      show (masks l (ms ++ [maskE ms o.after.toList]))[ms.length + 0]? = _
      rw [Nat.add_zero, h2 ms.length (by omega)]
      have ht : (masks (o :: l) ms).take ms.length = ms := by
        apply List.ext_getElem?
        intro i
        rw [List.getElem?_take]
        by_cases hi : i < ms.length
        · rw [if_pos hi]; exact hpre i hi
        · rw [if_neg hi, List.getElem?_eq_none (by omega)]
      rw [ht]; simp
    | succ j =>
      have := h3 j o' (by simpa using hj)
      show (masks l (ms ++ [maskE ms o.after.toList]))[ms.length + (j + 1)]? = _
      rw [show ms.length + (j + 1) = ms.length + 1 + j by omega]
      exact this
/-- The place of every edge that binds in every order lies ahead. -/
def Resp (ops : Array Oper) (l : List Nat) : Prop := ∀ a i b, l = a ++ i :: b → ∀ o, ops[i]? = some o → ∀ e ∈ o.after.toList, Region.binds .any e = true → e.on ∈ a
theorem mask_ahead {ops : Array Oper} {l : List Nat} (hr : Resp ops l) : ∀ (i : Nat) (a b : List Nat), l = a ++ i :: b → i < ops.size → ∀ j, Nat.testBit ((masks ops.toList []).getD i 0) j = true → j ∈ a := by
  intro i
  induction i using Nat.strongRecOn with
  | ind i ih =>
    intro a b hl hi j hj
    obtain ⟨h1, h2, h3⟩ := masks_spec ops.toList []
    simp only [List.length_nil, Nat.zero_add] at h1 h3
    have ho : ops.toList[i]? = some ops[i] := by simp [hi]
    have ho' : ops[i]? = some ops[i] := by simp [hi]
    have hm := h3 i _ ho
    rw [List.getD_eq_getElem?_getD, hm, Option.getD_some] at hj
    obtain ⟨e, he, hb, hcase⟩ := maskE_bits hj
    have hon := hr a i b hl _ ho' e he hb
    rcases hcase with rfl | hcase
    · exact hon
    · by_cases hlt : e.on < i
      · rw [List.getD_eq_getElem?_getD, List.getElem?_take, if_pos hlt, ← List.getD_eq_getElem?_getD] at hcase
        obtain ⟨a1, a2, ha⟩ := List.append_of_mem hon
        have := ih e.on hlt a1 (a2 ++ i :: b) (by rw [hl, ha]; simp) (by omega) j hcase
        rw [ha]; simp [this]
      · rw [List.getD_eq_getElem?_getD, List.getElem?_take, if_neg hlt] at hcase
        simp at hcase

-- every order
theorem orderOk_legal {md : Region.Mode} {os : List Oper} : ∀ (l : List Nat) (m : Nat), orderOk md os l m = true →
    (∀ a i b, l = a ++ i :: b → ∃ o, os[i]? = some o ∧ ∀ e ∈ o.after.toList, Region.binds md e = true → Nat.testBit m e.on = true ∨ e.on ∈ a) ∧ ∀ i, i < os.length → Nat.testBit m i = true ∨ i ∈ l := by
  intro l
  induction l with
  | nil =>
    intro m h
    refine ⟨fun a i b e => by simp at e, fun i hi => .inl ?_⟩
    have : m = Nat.sub (Nat.pow 2 os.length) 1 := Nat.eq_of_beq_eq_true h
    rw [this, bit_full]; simpa using hi
  | cons j l ih =>
    intro m h
    unfold orderOk at h
    cases ho : os[j]? with
    | none => rw [ho] at h; cases h
    | some o =>
      rw [ho] at h
      simp only [Bool.and_eq_true] at h
      obtain ⟨h1, h2⟩ := h
      obtain ⟨k1, k2⟩ := ih _ h2
      refine ⟨fun a i b e => ?_, fun i hi => ?_⟩
      · cases a with
        | nil =>
          simp at e
          obtain ⟨rfl, rfl⟩ := e
          refine ⟨o, ho, fun e he hb => .inl ?_⟩
          unfold edgesIn at h1
          have := List.all_eq_true.1 h1 e he
          simpa [hb] using this
        | cons x a =>
          simp at e
          obtain ⟨rfl, rfl⟩ := e
          obtain ⟨o', ho', k⟩ := k1 a i b rfl
          refine ⟨o', ho', fun e he hb => ?_⟩
          rcases k e he hb with k | k
          · rw [bit_lor, bit_pow] at k
            simp only [Bool.or_eq_true, decide_eq_true_eq] at k
            rcases k with k | k
            · exact .inl k
            · exact .inr (by simp [k])
          · exact .inr (by simp [k])
      · rcases k2 i hi with k | k
        · rw [bit_lor, bit_pow] at k
          simp only [Bool.or_eq_true, decide_eq_true_eq] at k
          rcases k with k | k
          · exact .inl k
          · exact .inr (by simp [k])
        · exact .inr (by simp [k])
/-- An order of a mode exists. -/
def Legal (ops : Array Oper) (md : Region.Mode) : Prop := ∃ l : List Nat, (∀ a i b, l = a ++ i :: b → ∃ o, ops[i]? = some o ∧ ∀ e ∈ o.after.toList, Region.binds md e = true → e.on ∈ a) ∧ ∀ i, i < ops.size → i ∈ l
theorem legal_of {ops : Array Oper} {md : Region.Mode} {l : List Nat} (h : orderOk md ops.toList l 0 = true) : Legal ops md := by
  obtain ⟨h1, h2⟩ := orderOk_legal l 0 h
  refine ⟨l, fun a i b e => ?_, fun i hi => ?_⟩
  · obtain ⟨o, ho, k⟩ := h1 a i b e
    refine ⟨o, by simpa using ho, fun e he hb => ?_⟩
    rcases k e he hb with k | k
    · simp at k
    · exact k
  · rcases h2 i (by simpa using hi) with k | k
    · simp at k
    · exact k
theorem binds_any {md : Region.Mode} {e : Edge} (h : Region.binds .any e = true) : Region.binds md e = true := by
  unfold Region.binds at h ⊢
  cases hg : e.ground <;> rw [hg] at h <;> first | rfl | cases h
theorem legal_any {ops : Array Oper} {md : Region.Mode} (h : Legal ops md) : Legal ops .any := by
  obtain ⟨l, h1, h2⟩ := h
  refine ⟨l, fun a i b e => ?_, h2⟩
  obtain ⟨o, ho, k⟩ := h1 a i b e
  exact ⟨o, ho, fun e he hb => k e he (binds_any hb)⟩
structure Order (ops : Array Oper) (l : List Nat) : Prop where
  nodup : l.Nodup
  all : ∀ i, i ∈ l ↔ i < ops.size
  resp : Resp ops l
theorem first_missing {p : Nat → Prop} [DecidablePred p] : ∀ (l : List Nat), (∃ i ∈ l, ¬ p i) → ∃ a i b, l = a ++ i :: b ∧ ¬ p i ∧ ∀ j ∈ a, p j := by
  intro l
  induction l with
  | nil => rintro ⟨i, hi, _⟩; cases hi
  | cons x l ih =>
    rintro ⟨i, hi, hn⟩
    by_cases hx : p x
    · obtain ⟨a, j, b, e, h1, h2⟩ := ih ⟨i, by
        cases hi with
        | head => exact absurd hx hn
        | tail _ hm => exact hm, hn⟩
      exact ⟨x :: a, j, b, by rw [e]; rfl, h1, fun k hk => by
        cases hk with
        | head => exact hx
        | tail _ hm => exact h2 k hm⟩
    · exact ⟨[], x, l, rfl, hx, fun k hk => by cases hk⟩
theorem linearise_go {ops : Array Oper} {md : Region.Mode} (hL : Legal ops md) : ∀ (fuel t : Nat) (listed : Array Bool) (acc : List Nat), listed.size = ops.size → acc.Nodup → acc.length + fuel = ops.size → (∀ i, listed.getD i true = true ↔ (i ∈ acc ∨ ops.size ≤ i)) →
    (∀ i, i ∈ acc → i < ops.size) → Resp ops acc.reverse → Order ops (Region.linearise.go md ops fuel t listed acc) := by
  intro fuel
  induction fuel with
  | zero =>
    intro t listed acc hz hnd hlen hl hlt hr
    unfold Region.linearise.go
    refine ⟨List.pairwise_reverse.2 (hnd.imp fun h => Ne.symm h), fun i => ?_, hr⟩
    rw [List.mem_reverse]
    refine ⟨hlt i, fun hi => ?_⟩
    -- as many as there are
    have hsub : acc ⊆ List.range ops.size := fun j hj => List.mem_range.2 (hlt j hj)
    have hperm : ∀ (l r : List Nat), l.Nodup → r.Nodup → l ⊆ r → r.length ≤ l.length → r ⊆ l := by
      intro l
      induction l with
      | nil => intro r _ _ _ h; cases r with
        | nil => exact fun _ h => h
        | cons => simp at h
      | cons x l ih =>
        intro r hl hr hs hle y hy
        have hxr : x ∈ r := hs (by simp)
        by_cases e : y = x
        · rw [e]; simp
        · have : y ∈ l := ih (r.erase x) (List.nodup_cons.1 hl).2 (hr.erase x) (fun z hz => by
            have hne : z ≠ x := fun e => (List.nodup_cons.1 hl).1 (e ▸ hz)
            exact (List.mem_erase_of_ne hne).2 (hs (by simp [hz]))) (by
            rw [List.length_erase_of_mem hxr]; simp at hle; omega) ((List.mem_erase_of_ne e).2 hy)
          simp [this]
    exact hperm acc (List.range ops.size) hnd List.nodup_range hsub (by simp; omega) (List.mem_range.2 hi)
  | succ fuel ih =>
    intro t listed acc hz hnd hlen hl hlt hr
    unfold Region.linearise.go
    simp only []
    generalize hrs : ((List.range ops.size).filter fun i => !listed.getD i true && ((ops[i]?).map fun o => o.after.all fun e => !Region.binds md e || listed.getD e.on false).getD false) = rs
    have hmem : ∀ i, i ∈ rs → i < ops.size ∧ i ∉ acc ∧ ∀ o, ops[i]? = some o → ∀ e ∈ o.after.toList, Region.binds md e = true → e.on ∈ acc := by
      intro i hi
      rw [← hrs, List.mem_filter] at hi
      obtain ⟨h1, h2⟩ := hi
      have h1 := List.mem_range.1 h1
      rw [Bool.and_eq_true] at h2
      refine ⟨h1, fun hm => ?_, fun o ho e he hb => ?_⟩
      · have := (hl i).2 (.inl hm); rw [this] at h2; simp at h2
      · have h3 := h2.2
        rw [ho] at h3
        simp only [Option.map_some, Option.getD_some] at h3
        rw [← Array.all_toList] at h3
        have := List.all_eq_true.1 h3 e he
        rw [hb] at this
        have h4 : listed.getD e.on false = true := by simpa using this
        have h5 : e.on < ops.size := by
          rcases Nat.lt_or_ge e.on ops.size with k | k
          · exact k
          · have : listed.getD e.on false = false := by simp [Array.getD, hz]; omega
            rw [this] at h4; cases h4
        have h6 : listed.getD e.on true = true := by
          have e1 : listed.getD e.on true = listed[e.on] := by simp [Array.getD, hz, h5]
          have e2 : listed.getD e.on false = listed[e.on] := by simp [Array.getD, hz, h5]
          rw [e1, ← e2]; exact h4
        rcases (hl e.on).1 h6 with k | k
        · exact k
        · omega
    have hne : rs ≠ [] := by
      obtain ⟨L, l1, l2⟩ := hL
      have hmiss : ∃ i ∈ L, ¬ i ∈ acc := by
        by_cases hex : ∃ i, i < ops.size ∧ i ∉ acc
        · obtain ⟨i, hi, hn⟩ := hex
          exact ⟨i, l2 i hi, hn⟩
        · exfalso
          have hall : ∀ i, i < ops.size → i ∈ acc := fun i hi => Classical.byContradiction fun k => hex ⟨i, hi, k⟩
          have hs : List.range ops.size ⊆ acc := fun i hi => hall i (List.mem_range.1 hi)
          have hcard : ∀ (l r : List Nat), l.Nodup → l ⊆ r → l.length ≤ r.length := by
            intro l
            induction l with
            | nil => intro r _ _; simp
            | cons x l ih =>
              intro r hl hs
              have hxr : x ∈ r := hs (by simp)
              have := ih (r.erase x) (List.nodup_cons.1 hl).2 (fun z hz => by
                have hne : z ≠ x := fun e => (List.nodup_cons.1 hl).1 (e ▸ hz)
                exact (List.mem_erase_of_ne hne).2 (hs (by simp [hz])))
              rw [List.length_erase_of_mem hxr] at this
              have : 0 < r.length := List.length_pos_of_mem hxr
              simp; omega
          have := hcard _ _ List.nodup_range hs
          simp at this; omega
      obtain ⟨a, i, b, e, hni, hall⟩ := first_missing (p := fun i => i ∈ acc) L hmiss
      obtain ⟨o, ho, k⟩ := l1 a i b e
      have hi : i < ops.size := by
        rcases Nat.lt_or_ge i ops.size with k | k
        · exact k
        · rw [Array.getElem?_eq_none k] at ho; cases ho
      have : i ∈ rs := by
        rw [← hrs, List.mem_filter]
        refine ⟨List.mem_range.2 hi, ?_⟩
        rw [Bool.and_eq_true]
        constructor
        · cases hg : listed.getD i true with
          | false => rfl
          | true => rcases (hl i).1 hg with k | k
                    · exact absurd k hni
                    · omega
        · rw [ho]
          simp only [Option.map_some, Option.getD_some]
          rw [← Array.all_toList]
          refine List.all_eq_true.2 fun e he => ?_
          cases hb : Region.binds md e with
          | false => rfl
          | true =>
            have hin := hall _ (k e he hb)
            have h5 := hlt _ hin
            have h6 := (hl e.on).2 (.inl hin)
            have e1 : listed.getD e.on true = listed[e.on] := by simp [Array.getD, hz, h5]
            have e2 : listed.getD e.on false = listed[e.on] := by simp [Array.getD, hz, h5]
            simp only [Bool.not_true, Bool.false_or]
            rw [e2, ← e1]; exact h6
      intro e'; rw [e'] at this; cases this
    have hlen' : 0 < rs.length := List.length_pos_iff.2 hne
    have hidx : t % rs.length < rs.length := Nat.mod_lt _ hlen'
    rw [List.getElem?_eq_getElem hidx]
    simp only []
    generalize hi : rs[t % rs.length] = i
    have him : i ∈ rs := by rw [← hi]; exact List.getElem_mem _
    obtain ⟨m1, m2, m3⟩ := hmem i him
    refine ih _ _ (i :: acc) (by simp [hz]) (List.nodup_cons.2 ⟨m2, hnd⟩) (by simp; omega) (fun j => ?_) (fun j hj => ?_) ?_
    · by_cases e : j = i
      · subst e; simp [Array.getD, hz, m1]
      · have : (listed.setIfInBounds i true).getD j true = listed.getD j true := by
          simp only [Array.getD_eq_getD_getElem?, Array.getElem?_setIfInBounds_ne (Ne.symm e)]
        rw [this, hl j]; simp [e]
    · cases hj with
      | head => exact m1
      | tail _ hm => exact hlt j hm
    · intro a k b hab o ho e he hb
      rw [List.reverse_cons] at hab
      rcases List.eq_nil_or_concat b with rfl | ⟨b', y, rfl⟩
      · have := List.append_inj' hab (by simp)
        obtain ⟨h1, h2⟩ := this
        simp at h2; subst h2
        rw [← h1, List.mem_reverse]
        exact m3 o ho e he (binds_any hb)
      · have hab' : acc.reverse ++ [i] = (a ++ k :: b') ++ [y] := by rw [hab]; simp
        have := List.append_inj' hab' (by simp)
        exact hr a k b' this.1 o ho e he hb
theorem linearise_order {ops : Array Oper} {md : Region.Mode} (hL : Legal ops md) (t : Nat) : Order ops (Region.linearise md ops t) := by
  unfold Region.linearise
  refine linearise_go hL ops.size t _ [] (by simp) List.nodup_nil (by simp) (fun i => ?_) (fun i hi => by cases hi) (fun a i b e => by simp at e)
  by_cases hi : i < ops.size
  · simp [Array.getD, hi]
  · simp [Array.getD, hi]; omega
theorem schedule_order {ops : Array Oper} (ht : Legal ops .text) (hg : Region.departs ops = true → Legal ops .gc) (mixed : Bool) (t : Nat) : Order ops (Region.schedule mixed ops t) := by
  unfold Region.schedule
  split
  · exact linearise_order (legal_any ht) t
  · rename_i h
    have hd : Region.departs ops = true := by
      cases hd : Region.departs ops with
      | true => rfl
      | false => rw [hd] at h; simp at h
    split
    · exact linearise_order ht _
    · exact linearise_order (hg hd) _

-- plans
def plI (l : List PI) : List Nat := l.map PI.i
/-- Each comes once, behind those that must come before it; what comes behind a heavy one must. -/
def PlanP : List PI → Prop
  | [] => True
  | p :: l => p.i ∉ plI l ∧ (∀ i, Nat.testBit p.mask i = true → i ∉ plI (p :: l)) ∧ (p.heavy = true → ∀ q ∈ l, Nat.testBit q.mask p.i = true) ∧ PlanP l
theorem planOk_P : ∀ (l : List PI) (em hm e : Nat), planOk l em hm = some e →
    (∀ q ∈ l, Nat.testBit em q.i = false) ∧ (∀ q ∈ l, ∀ i, Nat.testBit hm i = true → Nat.testBit q.mask i = true) ∧ (∀ i, Nat.testBit e i = true → Nat.testBit em i = true ∨ i ∈ plI l) ∧ PlanP l := by
  intro l
  induction l with
  | nil => intro em hm e h; cases h; exact ⟨fun q hq => (by cases hq), fun q hq => (by cases hq), fun i hi => .inl hi, trivial⟩
  | cons p l ih =>
    intro em hm e h
    unfold planOk at h
    split at h
    · rename_i h1 h2 h3
      obtain ⟨k1, k2, k3, k4⟩ := ih _ _ _ h
      have hin : ∀ q ∈ l, Nat.testBit em q.i = false ∧ p.i ≠ q.i := by
        intro q hq
        have := k1 q hq
        rw [bit_lor, bit_pow] at this
        simp only [Bool.or_eq_false_iff, decide_eq_false_iff_not] at this
        exact this
      have hnot : p.i ∉ plI l := by
        intro hm'
        obtain ⟨q, hq, e⟩ := List.mem_map.1 hm'
        exact (hin q hq).2 e.symm
      refine ⟨fun q hq => ?_, fun q hq i hi => ?_, fun i hi => ?_, hnot, fun i hi => ?_, fun hp q hq => ?_, k4⟩
      · cases hq with
        | head => exact h1
        | tail _ hm' => exact (hin q hm').1
      · cases hq with
        | head => exact sub_bits h3 i hi
        | tail _ hm' =>
          refine k2 q hm' i ?_
          cases p.heavy with
          | true => simp only [bit_lor, hi, Bool.true_or]
          | false => exact hi
      · rcases k3 i hi with k | k
        · rw [bit_lor, bit_pow] at k
          simp only [Bool.or_eq_true, decide_eq_true_eq] at k
          rcases k with k | k
          · exact .inl k
          · exact .inr (by simp [plI, k])
        · exact .inr (by simp only [plI, List.map_cons, List.mem_cons]; exact .inr k)
      · have hem := sub_bits h2 i hi
        intro hm'
        simp only [plI, List.map_cons, List.mem_cons] at hm'
        rcases hm' with rfl | hm'
        · rw [h1] at hem; cases hem
        · obtain ⟨q, hq, e⟩ := List.mem_map.1 hm'
          rw [← e, (hin q hq).1] at hem; cases hem
      · refine k2 q hq p.i ?_
        rw [hp]
        simp only [bit_lor, bit_pow, decide_true, Bool.or_true]
    · cases h
theorem items_spec : ∀ (os : List Oper) (ms : List Nat) (k : Nat) (p : PI), p ∈ items os ms k → ∃ j, p.i = k + j ∧ os[j]? = some p.o ∧ ms[j]? = some p.mask := by
  intro os
  induction os with
  | nil => intro ms k p hp; cases ms <;> (simp [items] at hp)
  | cons o os ih =>
    intro ms k p hp
    cases ms with
    | nil => simp [items] at hp
    | cons m ms =>
      unfold items at hp
      cases hp with
      | head => exact ⟨0, rfl, rfl, rfl⟩
      | tail _ hm =>
        obtain ⟨j, h1, h2, h3⟩ := ih ms _ p hm
        exact ⟨j + 1, by rw [h1]; omega, by simpa using h2, by simpa using h3⟩
theorem orderP_mem (H : Nat) : ∀ (hs pend : List PI) (hm : Nat) (p : PI), p ∈ orderP H hs pend hm → p ∈ hs ∨ p ∈ pend := by
  intro hs
  induction hs with
  | nil => intro pend hm p hp; exact .inr hp
  | cons h hs ih =>
    intro pend hm p hp
    unfold orderP at hp
    rcases List.mem_append.1 hp with k | k
    · exact .inr (List.mem_filter.1 k).1
    · cases k with
      | head => exact .inl (by simp)
      | tail _ hm' =>
        rcases ih _ _ _ hm' with k | k
        · exact .inl (by simp [k])
        · exact .inr (List.mem_filter.1 k).1
theorem planned_mem {l : List PI} {p : PI} (h : p ∈ planned l) : p ∈ l := by
  rcases orderP_mem _ _ _ _ _ h with k | k
  · exact (List.mem_filter.1 k).1
  · exact (List.mem_filter.1 k).1
/-- Each slot has one writer, and whoever reads it is ordered with that one. -/
structure SlotP (ops : Array Oper) (ms : List Nat) (W : List (Tmp × Nat)) : Prop where
  own : ∀ j o, ops[j]? = some o → ∀ d, o.dst = some d → findW d W = some j
  reads : ∀ j o, ops[j]? = some o → ∀ t ∈ tmpsOf o.op, apartW ms j (findW t W) = true
  guard : ∀ j o, ops[j]? = some o → ∀ g, o.guard = some g → Nat.testBit (ms.getD j 0) g.1 = true
theorem slotsOk_P (all : List Oper) (ms : List Nat) (W : List (Tmp × Nat)) : ∀ (l : List Oper) (k : Nat), slotsOk all ms W l k = true → ∀ j o, l[j]? = some o →
    (∀ d, o.dst = some d → findW d W = some (k + j)) ∧ (∀ t ∈ tmpsOf o.op, apartW ms (k + j) (findW t W) = true) ∧ ∀ g, o.guard = some g → Nat.testBit (ms.getD (k + j) 0) g.1 = true := by
  intro l
  induction l with
  | nil => intro k _ j o h; simp at h
  | cons x l ih =>
    intro k h j o hj
    unfold slotsOk at h
    simp only [Bool.and_eq_true] at h
    obtain ⟨⟨⟨h1, h2⟩, h3⟩, h4⟩ := h
    cases j with
    | zero =>
      simp at hj; subst hj
      refine ⟨fun d hd => ?_, fun t ht => List.all_eq_true.1 h2 t ht, fun g hg => ?_⟩
      · rw [hd] at h1
        simp only [] at h1
        cases hf : findW d W with
        | none => rw [hf] at h1; cases h1
        | some i => rw [hf] at h1; rw [Nat.eq_of_beq_eq_true h1]; rfl
      · unfold guardOk at h3; rw [hg] at h3; exact h3
    | succ j =>
      have := ih _ h4 j o (by simpa using hj)
      rw [show Nat.succ k + j = k + (j + 1) by omega] at this
      exact this
structure Plan (ops : Array Oper) (pl : List PI) : Prop where
  mem : ∀ p ∈ pl, ops[p.i]? = some p.o ∧ (masks ops.toList []).getD p.i 0 = p.mask
  all : ∀ i, i < ops.size → i ∈ plI pl
  plan : PlanP pl
  slots : SlotP ops (masks ops.toList []) (writers ops.toList 0)
  order : ∀ mixed t, Order ops (Region.schedule mixed ops t)
theorem plan_some {ops : Array Oper} {pl : List PI} (h : plan ops = some pl) : Plan ops pl := by
  unfold plan planL planB at h
  split at h
  · rename_i hc
    cases h
    simp only [Bool.and_eq_true] at hc
    obtain ⟨⟨⟨h1, h2⟩, h3⟩, h4⟩ := hc
    have hmem : ∀ p ∈ planned (items ops.toList (masks ops.toList []) 0), ops[p.i]? = some p.o ∧ (masks ops.toList []).getD p.i 0 = p.mask := by
      intro p hp
      obtain ⟨j, k1, k2, k3⟩ := items_spec _ _ _ _ (planned_mem hp)
      rw [Nat.zero_add] at k1
      rw [k1]
      refine ⟨by simpa using k2, ?_⟩
      rw [List.getD_eq_getElem?_getD, k3]; rfl
    unfold planE at h1
    split at h1
    · rename_i m hm
      obtain ⟨k1, k2, k3, k4⟩ := planOk_P _ _ _ _ hm
      have hsl := slotsOk_P ops.toList _ _ ops.toList 0 h2
      refine ⟨hmem, fun i hi => ?_, k4, ⟨fun j o ho => ?_, fun j o ho => ?_, fun j o ho => ?_⟩, schedule_order (legal_of h3) fun hd => ?_⟩
      · have : m = Nat.sub (Nat.pow 2 ops.toList.length) 1 := Nat.eq_of_beq_eq_true h1
        rcases k3 i (by rw [this, bit_full]; simpa using hi) with k | k
        · simp at k
        · exact k
      · have := (hsl j o (by simpa using ho)).1; rw [Nat.zero_add] at this; exact this
      · have := (hsl j o (by simpa using ho)).2.1; rw [Nat.zero_add] at this; exact this
      · have := (hsl j o (by simpa using ho)).2.2; rw [Nat.zero_add] at this; exact this
      · unfold departOk at h4; rw [hd] at h4; exact legal_of h4
    · cases h1
  · cases h
end Go.Play
