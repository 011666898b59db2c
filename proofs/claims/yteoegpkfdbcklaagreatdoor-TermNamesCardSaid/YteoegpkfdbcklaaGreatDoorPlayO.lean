/- Play: the operations: calls; every operation. -/
import Derived.Test.YteoegpkfdbcklaaGreatDoorPlayN
import Derived.KernelRfl
namespace Go.Play
set_option linter.unusedVariables false
set_option linter.unusedSimpArgs false
section
variable {P : Program} {G : Glob} {M : Nat → Prop} {ρ : Env} {h : H} {w : World}

theorem ev_rel {tm : T SV} {ts : Array Value} (ht : TR ρ tm ts) {f : Operand → Value} (hf : ∀ i, f (.tmp i) = ts.getD i undef) (hc : ∀ v, f (.const v) = v) (hg : ∀ g, f (.global g) = .pointer (some ⟨g, 0, none⟩)) (hu : ∀ g, f (.func g) = .func (.func g) #[] #[]) (x : Operand) : VR ρ (ev x tm) (f x) := by
  cases x with
  | tmp i => rw [hf]; exact ht i
  | const v => rw [hc]; exact .lit v
  | global g => rw [hg]; exact .lit _
  | func g => rw [hu]; exact .fn .nil .nil
theorem evL_rel {tm : T SV} {f : Operand → Value} (hev : ∀ x, VR ρ (ev x tm) (f x)) : ∀ l : List Operand, VRL ρ (evL l tm) (l.map f) := by
  intro l
  induction l with
  | nil => exact .nil
  | cons x l ih => exact .cons (hev x) ih

-- calls
theorem next_names : Extern.allNextRows.lookup "internal/abi.NoEscape" = none := by kernel_rfl
theorem next_empty : Extern.allNextRows.lookup "" = none := by kernel_rfl
theorem generic_names : Extern.allGenericRows.lookup "internal/abi.NoEscape" = none := by kernel_rfl
theorem typed_names : Extern.allTypedRows.lookup "internal/abi.NoEscape" = none := by kernel_rfl
theorem all_names : Extern.allRows.lookup "internal/abi.NoEscape" = some Extern.AbiNoEscape.same := by kernel_rfl
theorem run_callFunc_escape {f : FuncId} {fn : Func} (hf : P.funcs[f]? = some fn) (hb : fn.body = none) (hn : fn.name = "internal/abi.NoEscape") (ho : fn.origin = "") (y : Value) : (callFunc f #[y]).run P w = .ok (.value y) w := by
  have h1 : (fn.name == "runtime.NumGoroutine") = false := by rw [hn]; decide
  have h2 : Extern.findNext fn = none := by simp only [Extern.findNext, hn, ho, next_names, next_empty]; rfl
  have h3 : Extern.find fn = some Extern.AbiNoEscape.same := by simp only [Extern.find, hn, ho, generic_names, typed_names, all_names]; rfl
  simp only [callFunc, Sem.run_bind, run_program, Result.andThen_ok, hf, h1, Bool.false_eq_true, if_false, hb, Option.isNone_none, if_true, h2, h3, Sem.run_pure, mark, Sem.run]
  rfl
theorem EffOK.next (s : Sim P G M ρ h w) (q : Sem Next) : EffOK P G M ρ h w (q.run P w) (nextVal P h q) := by
  unfold nextVal
  cases hq : Play.still P q with
  | ok a =>
    cases a with
    | value v => exact .quiet s (still_ok hq) (.lit v)
    | _ => trivial
  | panic v => exact ⟨v, still_panic hq, .lit v⟩
  | no => trivial
theorem call1_ok (s : Sim P G M ρ h w) {f : FuncId} {l : List SV} {xs : Array Value} (hl : VRL ρ l xs.toList) : EffOK P G M ρ h w ((callFunc f xs).run P w) (call1 (funcO P f) P h f l) := by
  cases hf : funcO P f with
  | none => trivial
  | some fn =>
    rw [funcO_eq] at hf
    change EffOK P G M ρ h w _ (call2 fn.body P h f fn l)
    cases hb : fn.body with
    | none =>
      change EffOK P G M ρ h w _ (call3 (lits l) P h f fn l)
      cases hv : lits l with
      | none =>
        change EffOK P G M ρ h w _ (escape fn l h)
        unfold escape
        split
        · rename_i v
          split
          · rename_i hnm
            rw [Bool.and_eq_true, beq_iff_eq, beq_iff_eq] at hnm
            obtain ⟨ys⟩ := xs
            simp only at hl
            cases hl with
            | @cons _ y _ _ hy t =>
              cases t
              exact .quiet s (run_callFunc_escape hf hb hnm.1 hnm.2 y) hy
          · trivial
        · trivial
      | some vs =>
        have := lits_some hv hl
        have e : xs = vs.toArray := by rw [← this]
        subst e
        exact .next s _
    | some c =>
      change EffOK P G M ρ h w _ (call2b (fn.name == "runtime.NumGoroutine") f l)
      cases hn : fn.name == "runtime.NumGoroutine" with
      | true => trivial
      | false =>
        refine ⟨xs, ?_, hl⟩
        simp only [callFunc, Sem.run_bind, run_program, Result.andThen_ok, hf, hn, Bool.false_eq_true, if_false, hb, Option.isNone_some, Sem.run_pure]
theorem callV_ok (s : Sim P G M ρ h w) {g : SV} {g' : Value} (hg : VR ρ g g') {l : List SV} {xs : Array Value} (hl : VRL ρ l xs.toList) :
    EffOK P G M ρ h w ((do let d ← Deferred.ofValue g' xs; invoke d.target d.args : Sem Next).run P w) (callV g P h l) := by
  cases g with
  | fn f a b =>
    cases hg with
    | @fn _ _ _ a' b' ha hb =>
      have hrel : VRL ρ (appS (appS a l) b) ((a' ++ xs) ++ b').toList := by
        rw [appS_eq, appS_eq, Array.toList_append, Array.toList_append]
        exact (ha.append hl).append hb
      exact call1_ok s hrel
  | yld o =>
    cases hg with
    | @yld _ b hb =>
      refine ⟨b, xs, hb, ?_, hl⟩
      simp only [Deferred.ofValue, Sem.run_bind, Sem.run_pure, Result.andThen_ok, invoke, Array.empty_append]
  | _ => trivial
theorem deferV_ok (s : Sim P G M ρ h w) {g : SV} {g' : Value} (hg : VR ρ g g') {l : List SV} {xs : Array Value} (hl : VRL ρ l xs.toList) :
    EffOK P G M ρ h w ((do pure (.defer (← Deferred.ofValue g' xs)) : Sem Next).run P w) (deferV g l) := by
  cases g with
  | fn f a b =>
    cases hg with
    | @fn _ _ _ a' b' ha hb =>
      refine ⟨{ target := .fn (.func f) b', args := a' ++ xs }, rfl, .call ?_⟩
      rw [appS_eq, appS_eq, Array.toList_append, Array.toList_append]
      exact (ha.append hl).append hb
  | _ => trivial
theorem opPanic_ok (s : Sim P G M ρ h w) {x : SV} {y : Value} (hx : VR ρ x y) : EffOK P G M ρ h w ((do pure (Next.value (← Instr.panic y)) : Sem Next).run P w) (opPanic x) := by
  unfold opPanic
  split
  · cases hx with | ifc t hv => exact ⟨_, rfl, .ifc _ hv⟩
  · cases hx; exact ⟨_, rfl, .lit _⟩
  · trivial

-- builtins
theorem arg1_ok {l : List SV} {xs : Array Value} (hl : VRL ρ l xs.toList) {K : SV → Eff} {Q : Eff → Prop} (hbad : Q .bad) (hK : ∀ v y, xs = #[y] → VR ρ v y → Q (K v)) : Q (arg1 l K) := by
  obtain ⟨ys⟩ := xs
  simp only at hl
  cases hl with
  | nil => exact hbad
  | @cons v y l ys h t =>
    cases t with
    | nil => exact hK v y rfl h
    | cons h2 t2 => exact hbad
theorem arg2_ok {l : List SV} {xs : Array Value} (hl : VRL ρ l xs.toList) {K : SV → SV → Eff} {Q : Eff → Prop} (hbad : Q .bad) (hK : ∀ u v x y, xs = #[x, y] → VR ρ u x → VR ρ v y → Q (K u v)) : Q (arg2 l K) := by
  obtain ⟨ys⟩ := xs
  simp only at hl
  cases hl with
  | nil => exact hbad
  | @cons v y l ys h t =>
    cases t with
    | nil => exact hbad
    | cons h2 t2 =>
      cases t2 with
      | nil => exact hK _ _ _ _ rfl h h2
      | cons h3 t3 => exact hbad
theorem litB_ok {l : List SV} {xs : Array Value} (hl : VRL ρ l xs.toList) {K : Array Value → Eff} {Q : Eff → Prop} (hbad : Q .bad) (hK : Q (K xs)) : Q (litB (lits l) K) := by
  cases hv : lits l with
  | none => exact hbad
  | some vs =>
    have := lits_some hv hl
    have e : xs = vs.toArray := by rw [← this]
    rw [e] at hK
    exact hK
theorem builtin_ok (s : Sim P G M ρ h w) (b : Builtin) (ts : Array TypeId) (ty : TypeId) (cs : Array Bool) {l : List SV} {xs : Array Value} (hl : VRL ρ l xs.toList) :
    EffOK P G M ρ h w ((builtin b ts ty cs xs).run P w) (builtinOp b P h ts ty l) := by
  cases b with
  | append => exact arg2_ok (Q := EffOK P G M ρ h w _) hl trivial fun u v x y e hu hv => by rw [e]; exact (append_ok s ts ty hu hv).eff
  | len => exact arg1_ok (Q := EffOK P G M ρ h w _) hl trivial fun v y e hv => by rw [e]; exact (len_ok s ts ty hv).eff
  | copy => exact arg2_ok (Q := EffOK P G M ρ h w _) hl trivial fun u v x y e hu hv => by rw [e]; exact (copy_ok s ts ty hu hv).eff
  | unsafeSliceData => exact arg1_ok (Q := EffOK P G M ρ h w _) hl trivial fun v y e hv => by rw [e]; exact (sliceData_ok s ts ty hv).eff
  | unsafeString => exact arg2_ok (Q := EffOK P G M ρ h w _) hl trivial fun u v x y e hu hv => by rw [e]; exact (unsafeS_ok s ts ty hu hv).eff
  | recover => rfl
  | max => exact litB_ok (Q := EffOK P G M ρ h w _) hl trivial (ValOK.still s _).eff
  | min => exact litB_ok (Q := EffOK P G M ρ h w _) hl trivial (ValOK.still s _).eff
  | cap => exact litB_ok (Q := EffOK P G M ρ h w _) hl trivial (ValOK.still s _).eff
  | _ => trivial
theorem opCall_ok (s : Sim P G M ρ h w) (c : Call) (ty : TypeId) {tm : T SV} {f : Operand → Value} (hev : ∀ x, VR ρ (ev x tm) (f x)) :
    EffOK P G M ρ h w ((do let d ← resolve f c ty; invoke d.target d.args : Sem Next).run P w) (opCall c.callee P tm h ty c.argTypes c.args.toList) := by
  obtain ⟨callee, args, argTypes⟩ := c
  have hl : VRL ρ (evL args.toList tm) (args.map f).toList := by rw [Array.toList_map]; exact evL_rel hev _
  cases callee with
  | value g => exact callV_ok s (hev g) hl
  | invoke r n => trivial
  | builtin b =>
    have := builtin_ok s b argTypes ty (args.map fun | .const _ => true | _ => false) hl
    exact this
theorem opDefer_ok (s : Sim P G M ρ h w) (c : Call) (ty : TypeId) {tm : T SV} {f : Operand → Value} (hev : ∀ x, VR ρ (ev x tm) (f x)) :
    EffOK P G M ρ h w ((do pure (.defer (← resolve f c ty)) : Sem Next).run P w) (opDefer c.callee tm c.args.toList) := by
  obtain ⟨callee, args, argTypes⟩ := c
  have hl : VRL ρ (evL args.toList tm) (args.map f).toList := by rw [Array.toList_map]; exact evL_rel hev _
  cases callee with
  | value g => exact deferV_ok s (hev g) hl
  | _ => trivial

/-- Every operation. -/
theorem sop_ok (s : Sim P G M ρ h w) (o : Oper) {tm : T SV} {f : Operand → Value} (hev : ∀ x, VR ρ (ev x tm) (f x)) :
    EffOK P G M ρ h w ((execOp f o).run P w) (sop o.op o.type P G tm h) := by
  obtain ⟨dst, op, ty, pos, after, guard⟩ := o
  cases op with
  | move x => exact .quiet s rfl (hev x)
  | assign x => exact .quiet s rfl (hev x)
  | pick c a b =>
    refine boolV_ok (Q := EffOK P G M ρ h w _) (hev c) trivial fun t ht => ?_
    refine .quiet s (x := if t then f a else f b) ?_ ?_
    · simp only [execOp, Sem.run_bind, ht, asBool, Sem.run_pure, Result.andThen_ok]
    · cases t with
      | false => exact hev b
      | true => exact hev a
  | alloc el => exact (alloc_ok s el).eff
  | box el x => exact (box_ok s el (hev x)).eff
  | build t p => exact (build_ok s t hev p).eff
  | buildSlice t n p => exact (buildSlice_ok s t n hev p).eff
  | load t a => exact (load_ok s t (hev a)).eff
  | store t a x => exact (store_ok s t (hev a) (hev x)).eff
  | nilCheck x => exact nilCheck_ok s (hev x) rfl rfl
  | binOp op xT x y yT => exact (bin_ok s op xT x y (hev x) (hev y)).eff
  | unOp op xT x => exact (un_ok s op (hev x)).eff
  | convert a b x => exact (conv_ok s a b (hev x)).eff
  | makeInterface t x => exact (makeInterface_ok s t (hev x)).eff
  | makeFunc fn a b =>
    refine (makeFunc_ok s fn (a' := a.map f) (b' := b.map f) ?_ ?_).eff
    · rw [Array.toList_map]; exact evL_rel hev _
    · rw [Array.toList_map]; exact evL_rel hev _
  | makeMap t r => exact (makeMap_ok s t r f).eff
  | makeSlice t l c => exact (makeSlice_ok s t (hev l) (hev c)).eff
  | slice t x lo hi mx => exact (slc_ok s t (hev x) hev lo hi mx).eff
  | fieldAddr t x i => exact (fieldAddr_ok s t (hev x) i).eff
  | field t x i => exact (field_ok s t (hev x) i).eff
  | indexAddr t x i => exact (indexAddr_ok s t (hev x) (hev i)).eff
  | index t x i => exact (index_ok s t (hev x) (hev i)).eff
  | lookup t m k ok => exact (lookup_ok s t (hev m) (hev k) ok).eff
  | mapUpdate t m k v => exact (mapUpdate_ok s t (hev m) (hev k) (hev v)).eff
  | insert t m k v => exact (mapUpdate_ok s t (hev m) (hev k) (hev v)).eff
  | range t x => exact (range_ok s t (hev x)).eff
  | next it isS => exact (next_ok s (hev it) isS ty).eff
  | entry it => exact (entry_ok s (hev it)).eff
  | extract x i => exact (extract_ok s (hev x) i).eff
  | call c => exact opCall_ok s c ty hev
  | defer c => exact opDefer_ok s c ty hev
  | panic x => exact opPanic_ok s (hev x)
  | typeAssert x xT a ok => exact (typeAssert_ok s (hev x) xT a ok).eff
  | _ => trivial
end
end Go.Play
