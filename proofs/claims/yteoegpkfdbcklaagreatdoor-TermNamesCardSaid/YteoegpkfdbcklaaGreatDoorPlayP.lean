/- Play: frames, what stays to do, stacks; what a result says of a machine. -/
import Derived.Test.YteoegpkfdbcklaaGreatDoorPlayO
import Derived.Calls
namespace Go.Play
set_option linter.unusedVariables false
set_option linter.unusedSimpArgs false

/-- What stays to do, in a frame of n slots. -/
inductive IR (ρ : Env) (n : Nat) : SI → Item → Prop
  | code {c : Code} (h : okCode c n = true) : IR ρ n (.code c) (.code c)
  | inBlock (id : Nat) : IR ρ n (.inBlock id) (.inBlock id)
  | inLoop {c : Code} (h : okCode c n = true) : IR ρ n (.inLoop c) (.inLoop c)
  | inScope {c : Code} (h : okCode c n = true) : IR ρ n (.inScope c) (.inScope c)
  | inReg {ops : Array Oper} {l : List Oper} {is : List Nat} (h : is.map (ops[·]?) = l.map some) (ho : okOps l n = true) : IR ρ n (.inReg ops l) (.inRegion ops is)
  | inRF {o : Pa} {b : Loc} (h : ρ o = some b) : IR ρ n (.inRF o) (.inRangeFunc b.block)
  | endRF {o : Pa} {b : Loc} (h : ρ o = some b) : IR ρ n (.endRF o) (.endRangeFunc b.block)
  | beginRound : IR ρ n .beginRound .beginRound
inductive IL (ρ : Env) (n : Nat) : List SI → List Item → Prop
  | nil : IL ρ n [] []
  | cons {i : SI} {x : Item} {l : List SI} {k : List Item} (h : IR ρ n i x) (t : IL ρ n l k) : IL ρ n (i :: l) (x :: k)
inductive CR (ρ : Env) : List (SV × Bool) → List PanicEntry → Prop
  | nil : CR ρ [] []
  | cons {v : SV} {x : Value} {r : Bool} {l : List (SV × Bool)} {es : List PanicEntry} (h : VR ρ v x) (t : CR ρ l es) : CR ρ ((v, r) :: l) ({ v := x, recovered := r } :: es)
inductive MR (ρ : Env) : SMode → FrameMode → Prop
  | run : MR ρ .run .run
  | ret : MR ρ .ret .returning
  | pan {l : List (SV × Bool)} {es : List PanicEntry} (h : CR ρ l es) : MR ρ (.pan l) (.panicking es)
def RoR (ρ : Env) : Option Pa → Option Nat → Prop
  | none, r => r = none
  | some l, r => ∃ b, ρ l = some b ∧ r = some b.block
def FIR (ρ : Env) : FI → Frame → Prop
  | .mk fn kind ro, fr => fr.fn = fn ∧ fr.kind = kind ∧ RoR ρ ro fr.roundOf
structure FR (ρ : Env) (fi : FI) (tm : T SV) (todo : List SI) (de : List SDef) (mode : SMode) (fr : Frame) : Prop where
  fi : FIR ρ fi fr
  tmps : TR ρ tm fr.tmps
  todo : IL ρ fr.tmps.size todo fr.todo
  defers : DRL ρ de fr.defers
  mode : MR ρ mode fr.mode
def SFR (ρ : Env) : SF → Frame → Prop
  | .mk fi tm todo de mode, fr => FR ρ fi tm todo de mode fr
def fiOf : SF → FI | .mk fi _ _ _ _ => fi
/-- A stack: the last frame is the one that f0 was called with, base lies below it. -/
inductive SR (ρ : Env) (f0 : FuncId) (base : List Frame) : SF → List SF → Frame → List Frame → Prop
  | last {f : SF} {fr : Frame} (h : SFR ρ f fr) (hf : fiOf f = .mk f0 .normal none) : SR ρ f0 base f [] fr base
  | cons {f g : SF} {cs : List SF} {fr gr : Frame} {crs : List Frame} (h : SFR ρ f fr) (t : SR ρ f0 base g cs gr crs) : SR ρ f0 base f (g :: cs) fr (gr :: crs)

theorem okOps_mono {l : List Oper} {n m : Nat} (hnm : n ≤ m) (h : okOps l n = true) : okOps l m = true := by
  induction l with
  | nil => rfl
  | cons o l ih =>
    change andB (okDst (dstOf o) n) (okOps l n) = true at h
    show andB (okDst (dstOf o) m) (okOps l m) = true
    rw [andB_eq, Bool.and_eq_true] at h ⊢
    refine ⟨?_, ih h.2⟩
    have h1 := h.1
    cases hd : dstOf o with
    | none => rfl
    | some d =>
      rw [hd] at h1
      exact Nat.ble_eq_true_of_le (Nat.le_trans (Nat.le_of_ble_eq_true h1) hnm)
theorem okTmps_mono {l : List Tmp} {n m : Nat} (hnm : n ≤ m) (h : okTmps l n = true) : okTmps l m = true := by
  induction l with
  | nil => rfl
  | cons o l ih =>
    change andB (Nat.ble (Nat.succ o) n) (okTmps l n) = true at h
    show andB (Nat.ble (Nat.succ o) m) (okTmps l m) = true
    rw [andB_eq, Bool.and_eq_true] at h ⊢
    exact ⟨Nat.ble_eq_true_of_le (Nat.le_trans (Nat.le_of_ble_eq_true h.1) hnm), ih h.2⟩
theorem okCode_seq (a b : Code) (n : Nat) : okCode (.seq a b) n = (okCode a n && okCode b n) := (andB_eq _ _)
theorem okCode_cond (c : Operand) (a b : Code) (n : Nat) : okCode (.cond c a b) n = (okCode a n && okCode b n) := (andB_eq _ _)
theorem okCode_rf (f : Operand) (ps : Array Tmp) (a b : Code) (n : Nat) : okCode (.rangeFunc f ps a b) n = (okTmps ps.toList n && (okCode a n && okCode b n)) := by
  show andB _ (andB _ _) = _
  rw [andB_eq, andB_eq]; rfl
theorem okCode_mono {n m : Nat} (hnm : n ≤ m) : ∀ {c : Code}, okCode c n = true → okCode c m = true := by
  intro c
  induction c with
  | region id ops d => exact okOps_mono hnm
  | seq a b iha ihb => intro h; rw [okCode_seq, Bool.and_eq_true] at h ⊢; exact ⟨iha h.1, ihb h.2⟩
  | cond c a b iha ihb => intro h; rw [okCode_cond, Bool.and_eq_true] at h ⊢; exact ⟨iha h.1, ihb h.2⟩
  | block id a ih => exact ih
  | loop a ih => exact ih
  | rangeFunc f ps a b iha ihb => intro h; rw [okCode_rf, Bool.and_eq_true, Bool.and_eq_true] at h ⊢; exact ⟨okTmps_mono hnm h.1, iha h.2.1, ihb h.2.2⟩
  | scope a ih => exact ih
  | _ => intro _; rfl
theorem findLabel_ok {n : Nat} (l : Nat) : ∀ {c rest : Code}, findLabel c l = some rest → okCode c n = true → okCode rest n = true := by
  intro c
  induction c with
  | seq a b iha ihb =>
    intro rest hf hc
    rw [okCode_seq, Bool.and_eq_true] at hc
    unfold findLabel at hf
    cases ha : findLabel a l with
    | some r => rw [ha] at hf; cases hf; rw [okCode_seq, iha ha hc.1, hc.2]; rfl
    | none => rw [ha] at hf; exact ihb hf hc.2
  | label l' =>
    intro rest hf hc
    unfold findLabel at hf
    split at hf
    · cases hf; rfl
    · cases hf
  | _ => intro rest hf hc; unfold findLabel at hf; cases hf

section
variable {ρ ρ' : Env}
theorem IR.mono (hle : Env.le ρ ρ') {n m : Nat} (hnm : n ≤ m) {i : SI} {x : Item} (h : IR ρ n i x) : IR ρ' m i x := by
  cases h with
  | code h => exact .code (okCode_mono hnm h)
  | inBlock id => exact .inBlock id
  | inLoop h => exact .inLoop (okCode_mono hnm h)
  | inScope h => exact .inScope (okCode_mono hnm h)
  | inReg h ho => exact .inReg h (okOps_mono hnm ho)
  | inRF h => exact .inRF (hle _ _ h)
  | endRF h => exact .endRF (hle _ _ h)
  | beginRound => exact .beginRound
theorem IL.mono (hle : Env.le ρ ρ') {n m : Nat} (hnm : n ≤ m) {l : List SI} {k : List Item} (h : IL ρ n l k) : IL ρ' m l k := by
  induction h with
  | nil => exact .nil
  | cons h _ ih => exact .cons (h.mono hle hnm) ih
theorem CR.mono (hle : Env.le ρ ρ') {l : List (SV × Bool)} {es : List PanicEntry} (h : CR ρ l es) : CR ρ' l es := by
  induction h with
  | nil => exact .nil
  | cons h _ ih => exact .cons (h.mono hle) ih
theorem CR.append {l m : List (SV × Bool)} {es fs : List PanicEntry} (h : CR ρ l es) (k : CR ρ m fs) : CR ρ (l ++ m) (es ++ fs) := by
  induction h with
  | nil => exact k
  | cons h _ ih => exact .cons h ih
theorem CR.quiet {l : List (SV × Bool)} {es : List PanicEntry} (h : CR ρ l es) : ∀ e ∈ es, e.goexit = false := by
  induction h with
  | nil => intro e he; cases he
  | cons h _ ih => intro e he; cases he with
    | head => rfl
    | tail _ hm => exact ih e hm
theorem MR.mono (hle : Env.le ρ ρ') {m : SMode} {x : FrameMode} (h : MR ρ m x) : MR ρ' m x := by
  cases h with
  | run => exact .run
  | ret => exact .ret
  | pan h => exact .pan (h.mono hle)
theorem RoR.mono (hle : Env.le ρ ρ') {o : Option Pa} {r : Option Nat} (h : RoR ρ o r) : RoR ρ' o r := by
  cases o with
  | none => exact h
  | some l => obtain ⟨b, h1, h2⟩ := h; exact ⟨b, hle _ _ h1, h2⟩
theorem FIR.mono (hle : Env.le ρ ρ') {fi : FI} {fr : Frame} (h : FIR ρ fi fr) : FIR ρ' fi fr := by
  obtain ⟨fn, kind, ro⟩ := fi
  exact ⟨h.1, h.2.1, h.2.2.mono hle⟩
theorem FR.mono (hle : Env.le ρ ρ') {fi : FI} {tm : T SV} {todo : List SI} {de : List SDef} {mode : SMode} {fr : Frame} (h : FR ρ fi tm todo de mode fr) : FR ρ' fi tm todo de mode fr :=
  ⟨h.fi.mono hle, h.tmps.mono hle, h.todo.mono hle (Nat.le_refl _), h.defers.mono hle, h.mode.mono hle⟩
theorem SFR.mono (hle : Env.le ρ ρ') {f : SF} {fr : Frame} (h : SFR ρ f fr) : SFR ρ' f fr := by
  obtain ⟨fi, tm, todo, de, mode⟩ := f
  exact FR.mono hle h
theorem SR.mono (hle : Env.le ρ ρ') {f0 : FuncId} {base : List Frame} {f : SF} {cs : List SF} {fr : Frame} {crs : List Frame} (h : SR ρ f0 base f cs fr crs) : SR ρ' f0 base f cs fr crs := by
  induction h with
  | last h hf => exact .last (h.mono hle) hf
  | cons h _ ih => exact .cons (h.mono hle) ih
theorem SR.top {f0 : FuncId} {base : List Frame} {f : SF} {cs : List SF} {fr : Frame} {crs : List Frame} (h : SR ρ f0 base f cs fr crs) : SFR ρ f fr := by
  cases h with
  | last h _ => exact h
  | cons h _ => exact h
/-- Another frame on top of the same callers. -/
theorem SR.re {f0 : FuncId} {base : List Frame} {f f' : SF} {cs : List SF} {fr fr' : Frame} {crs : List Frame} (h : SR ρ f0 base f cs fr crs) (hle : Env.le ρ ρ') (hf : SFR ρ' f' fr') (hfi : fiOf f' = fiOf f) : SR ρ' f0 base f' cs fr' crs := by
  cases h with
  | last _ h2 => exact .last hf (hfi.trans h2)
  | cons _ t => exact .cons hf (t.mono hle)

-- slots
theorem TR.set {tm : T SV} {ts : Array Value} (h : TR ρ tm ts) {d : Tmp} (hd : d < ts.size) {v : SV} {x : Value} (hv : VR ρ v x) : TR ρ (sset' (pa d) v tm) (ts.setIfInBounds d x) := by
  intro i
  rw [sget_set]
  by_cases hi : i = d
  · subst hi
    rw [if_pos rfl]
    have : (ts.setIfInBounds i x).getD i undef = x := by simp [Array.getD, hd]
    rw [this]; exact hv
  · rw [if_neg fun e => hi (pa_inj e)]
    have : (ts.setIfInBounds d x).getD i undef = ts.getD i undef := by
      simp only [Array.getD_eq_getD_getElem?, Array.getElem?_setIfInBounds_ne (Ne.symm hi)]
    rw [this]; exact h i
theorem dstOf_eq (o : Oper) : dstOf o = o.dst := by cases o; rfl
theorem okOps_cons {o : Oper} {l : List Oper} {n : Nat} (h : okOps (o :: l) n = true) : (∀ d, o.dst = some d → d < n) ∧ okOps l n = true := by
  change andB (okDst (dstOf o) n) (okOps l n) = true at h
  rw [andB_eq, Bool.and_eq_true] at h
  refine ⟨fun d hd => ?_, h.2⟩
  have h1 := h.1
  rw [dstOf_eq, hd] at h1
  exact Nat.le_of_ble_eq_true h1
/-- A value is laid into an operation's slot. -/
theorem setO_ok {o : Oper} {tm : T SV} {ts : Array Value} (h : TR ρ tm ts) (hd : ∀ d, o.dst = some d → d < ts.size) {v : SV} {x : Value} (hv : VR ρ v x) (K : T SV → Res) :
    ∃ tm', setO (dstOf o) v tm K = K tm' ∧ TR ρ tm' (match o.dst with | some d => ts.setIfInBounds d x | none => ts) := by
  rw [dstOf_eq]
  cases hdst : o.dst with
  | none => exact ⟨tm, rfl, h⟩
  | some d => exact ⟨sset' (pa d) v tm, sset_eq _ _ _ _, h.set (hd d hdst) hv⟩
theorem size_set (o : Oper) (ts : Array Value) (x : Value) : (match o.dst with | some d => ts.setIfInBounds d x | none => ts).size = ts.size := by
  cases o.dst with
  | none => rfl
  | some d => simp

/-- The head of what is to do waits for a value. -/
theorem finish_ok {f : SF} {fr : Frame} {v : SV} {x : Value} (hf : SFR ρ f fr) (hv : VR ρ v x) {K : SF → Res} {Q : Res → Prop} (hbad : Q .bad) (hK : ∀ f', SFR ρ f' (fr.finish x) → fiOf f' = fiOf f → Q (K f')) : Q (finishK f v K) := by
  obtain ⟨fi, tm, todo, de, mode⟩ := f
  obtain ⟨h1, h2, h3, h4, h5⟩ := hf
  show Q (finish1 todo fi tm de mode v K)
  cases todo with
  | nil => exact hbad
  | cons i k =>
    show Q (finish2 i fi tm k de mode v K)
    generalize hft : fr.todo = ft at h3
    cases h3 with
    | @cons _ _ _ fk hi hk =>
      cases hi with
      | @inReg ops l is h ho =>
        show Q (finish3 l ops fi tm k de mode v K)
        cases l with
        | nil => exact hbad
        | cons o rest =>
          cases is with
          | nil => cases h
          | cons j js =>
            simp only [List.map_cons, List.cons.injEq] at h
            obtain ⟨hd, ho'⟩ := okOps_cons ho
            obtain ⟨tm', e, ht⟩ := setO_ok h2 hd hv (fun tm => K (.mk fi tm (.inReg ops rest :: k) de mode))
            show Q (setO (dstOf o) v tm _)
            rw [e]
            refine hK _ ?_ rfl
            have hfin : fr.finish x = { fr with tmps := (match o.dst with | some d => fr.tmps.setIfInBounds d x | none => fr.tmps), todo := .inRegion ops js :: fk } := by
              simp only [Frame.finish, hft, h.1, Option.bind_some]
              cases o.dst <;> rfl
            rw [hfin]
            have hz := size_set o fr.tmps x
            refine ⟨?_, ht, ?_, h4, h5⟩
            · cases fi; exact h1
            · simp only [hz]; exact .cons (.inReg h.2 ho') hk
      | @inRF l b h =>
        refine hK _ ?_ rfl
        have hfin : fr.finish x = { fr with todo := .endRangeFunc b.block :: fk } := by simp only [Frame.finish, hft]
        rw [hfin]
        exact ⟨by cases fi; exact h1, h2, .cons (.endRF h) hk, h4, h5⟩
      | _ => exact hbad
theorem raise_ok {f : SF} {fr : Frame} {c : List (SV × Bool)} {es : List PanicEntry} (hf : SFR ρ f fr) (hc : CR ρ c es) : SFR ρ (raise f c) (fr.raise es) ∧ fiOf (raise f c) = fiOf f := by
  obtain ⟨fi, tm, todo, de, mode⟩ := f
  obtain ⟨h1, h2, h3, h4, h5⟩ := hf
  generalize hm : fr.mode = fm at h5
  have hfi : ∀ m, FIR ρ fi { fr with mode := m } := by cases fi; exact fun _ => h1
  cases h5 with
  | run => simp only [raise, Frame.raise, hm]; exact ⟨⟨hfi _, h2, h3, h4, .pan hc⟩, rfl⟩
  | ret => simp only [raise, Frame.raise, hm]; exact ⟨⟨hfi _, h2, h3, h4, .pan hc⟩, rfl⟩
  | pan h => simp only [raise, Frame.raise, hm]; exact ⟨⟨hfi _, h2, h3, h4, .pan (hc.append h)⟩, rfl⟩
theorem exit_ok {n id : Nat} {l : List SI} {k : List Item} (h : IL ρ n l k) : match exitS l id with
    | none => exitTo id k = none
    | some l' => ∃ k', exitTo id k = some k' ∧ IL ρ n l' k' := by
  induction h with
  | nil => rfl
  | @cons i x l k hi ht ih =>
    show match exit2 i id l (exitS l id) with | none => _ | some l' => _
    cases hi with
    | inBlock id' =>
      show match exit1 (Nat.beq id' id) l (exitS l id) with | none => _ | some l' => _
      cases hb : Nat.beq id' id with
      | true =>
        have : (id' == id) = true := by rw [beq_iff_eq]; exact Nat.eq_of_beq_eq_true hb
        exact ⟨k, by simp [exitTo, this], ht⟩
      | false =>
        have : (id' == id) = false := by
          rw [beq_eq_false_iff_ne]; intro e; rw [e] at hb; simp at hb
        simp only [exitTo, this]; exact ih
    | _ => simp only [exitTo]; exact ih
theorem goto_ok {n lb : Nat} {l : List SI} {k : List Item} (h : IL ρ n l k) : match gotoS lb l with
    | none => gotoIn lb k = none
    | some l' => ∃ k', gotoIn lb k = some k' ∧ IL ρ n l' k' := by
  induction h with
  | nil => rfl
  | @cons i x l k hi ht ih =>
    cases hi with
    | @inScope c hc =>
      simp only [gotoS, gotoIn]
      cases hfl : findLabel c lb with
      | none => exact ih
      | some rest => exact ⟨_, rfl, .cons (.code (findLabel_ok lb hfl hc)) (.cons (.inScope hc) ht)⟩
    | _ => simp only [gotoS, gotoIn]; exact ih
/-- What an operation gave, as a guard sees it. -/
theorem yielded_ok {tm : T SV} {ts : Array Value} (h : TR ρ tm ts) (ops : Array Oper) (j : Nat) : syielded ops tm j = yielded ops ts j := by
  have key : ∀ d : Nat, boolOf (sget (pa d) tm) = match ts[d]? with | some (.bool b) => some b | _ => none := by
    intro d
    have hd := h d
    have hget : ts.getD d undef = (ts[d]?).getD undef := by rw [Array.getD_eq_getD_getElem?]
    rw [hget] at hd
    generalize hv : sget (pa d) tm = v at hd
    cases ht : ts[d]? with
    | none => rw [ht] at hd; cases hd <;> rfl
    | some x =>
      rw [ht] at hd
      simp only [Option.getD_some] at hd
      cases hd with
      | lit => cases x <;> rfl
      | any h => cases x <;> first | (cases h; done) | rfl
      | _ => rfl
  unfold syielded yielded
  rw [nthO_eq, Array.getElem?_toList]
  cases ops[j]? with
  | none => rfl
  | some o =>
    show yield2 (dstOf o) tm = _
    rw [dstOf_eq]
    simp only [Option.bind_some]
    cases o.dst with
    | none => rfl
    | some d => exact key d
end
end Go.Play
