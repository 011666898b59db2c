/- Play: names that lie below a bound; an operation looks at its operands only. -/
import Derived.Test.YteoegpkfdbcklaaGreatDoorPlayT
namespace Go.Play
set_option linter.unusedVariables false
set_option linter.unusedSimpArgs false

/-- The names below a bound. -/
def Env.below (ρ : Env) (N : Nat) : Env := fun o => if o.num < N then ρ o else none
theorem below_le (ρ : Env) (N : Nat) : Env.le (ρ.below N) ρ := fun o b h => by
  unfold Env.below at h
  split at h
  · exact h
  · cases h
theorem below_at {ρ : Env} {N : Nat} {o : Pa} {b : Loc} (h : ρ o = some b) (hN : o.num < N) : ρ.below N o = some b := by
  unfold Env.below; rw [if_pos hN]; exact h
theorem below_dom {ρ : Env} {N : Nat} {o : Pa} {b : Loc} (h : ρ.below N o = some b) : o.num < N ∧ ρ o = some b := by
  unfold Env.below at h
  split at h
  · rename_i hn; exact ⟨hn, h⟩
  · cases h
mutual
/-- What names objects below a bound needs no others. -/
theorem VR.cut {ρ0 : Env} {N : Nat} (hN : ∀ o b, ρ0 o = some b → o.num < N) : ∀ {v : SV} {x0 : Value}, VR ρ0 v x0 → ∀ {ρ : Env} {x : Value}, VR ρ v x → VR (ρ.below N) v x
  | _, _, .lit _, _, _, h => by cases h; exact .lit _
  | _, _, .ptr off k, _, _, h => by cases h with | ptr _ h => exact .ptr off (below_at h (hN _ _ k))
  | _, _, .slc _ _ _ _ _ k _ _ _, _, _, h => by cases h with | slc _ _ _ _ _ h f g i => exact .slc _ _ _ _ _ (below_at h (hN _ _ k)) f g i
  | _, _, .eslc _ _, _, _, h => by cases h; exact .eslc _ _
  | _, _, .mapv k, _, _, h => by cases h with | mapv h => exact .mapv (below_at h (hN _ _ k))
  | _, _, .fn ka kb, _, _, h => by cases h with | fn ha hb => exact .fn (VRL.cut hN ka ha) (VRL.cut hN kb hb)
  | _, _, .yld k, _, _, h => by cases h with | yld h => exact .yld (below_at h (hN _ _ k))
  | _, _, .ifc t k, _, _, h => by cases h with | ifc _ h => exact .ifc t (VR.cut hN k h)
  | _, _, .agg k, _, _, h => by cases h with | agg h => exact .agg (VRL.cut hN k h)
  | _, _, .tup k, _, _, h => by cases h with | tup h => exact .tup (VRL.cut hN k h)
  | _, _, .any _, _, _, h => by cases h with | any h => exact .any h
theorem VRL.cut {ρ0 : Env} {N : Nat} (hN : ∀ o b, ρ0 o = some b → o.num < N) : ∀ {v : List SV} {x0 : List Value}, VRL ρ0 v x0 → ∀ {ρ : Env} {x : List Value}, VRL ρ v x → VRL (ρ.below N) v x
  | _, _, .nil, _, _, h => by cases h; exact .nil
  | _, _, .cons k t, _, _, h => by cases h with | cons h s => exact .cons (VR.cut hN k h) (VRL.cut hN t s)
end
/-- The names in a value lie below a bound. -/
def NS (N : Nat) (v : SV) : Prop := ∀ ρ x, VR ρ v x → VR (ρ.below N) v x
theorem VR.ns {ρ0 : Env} {N : Nat} (hN : ∀ o b, ρ0 o = some b → o.num < N) {v : SV} {x : Value} (h : VR ρ0 v x) : NS N v := fun _ _ k => h.cut hN k
theorem ER.cut {ρ0 : Env} {N : Nat} (hN : ∀ o b, ρ0 o = some b → o.num < N) {es : List (SV × SV × Nat)} {ms : List MapEntry} (h : ER ρ0 es ms) : ∀ {ρ : Env} {ns : List MapEntry}, ER ρ es ns → ER (ρ.below N) es ns := by
  induction h with
  | nil => intro ρ ns k; cases k; exact .nil
  | cons hk h _ ih => intro ρ ns k; cases k with | cons kk k t => exact .cons (hk.cut hN kk) (h.cut hN k) (ih t)
/-- The names in an object, as a light operation sees it, lie below a bound. -/
def OS (P : Program) (N : Nat) (ob : SO) : Prop := ∀ ρ b o, OR P ρ ob b o → OR P (ρ.below N) (dimO false ob) b o
theorem OR.dim {P : Program} {ρ : Env} {hide : Bool} {ob : SO} {b : Loc} {o : Option Obj} (h : OR P ρ ob b o) : OR P ρ (dimO hide ob) b o := by
  cases hide with
  | true => exact .none _ _
  | false =>
    cases h with
    | cells hs hm hf hr hl hv => exact .cells hs hm (fun e => by cases e) hr hl hv
    | mapo h => exact .mapo h
    | _ => exact .none _ _
theorem OR.os {P : Program} {ρ0 : Env} {N : Nat} (hN : ∀ o b, ρ0 o = some b → o.num < N) {ob : SO} {b0 : Loc} {o0 : Option Obj} (h0 : OR P ρ0 ob b0 o0) : OS P N ob := by
  intro ρ b o h
  cases h with
  | cells hs hm hf hr hl hv =>
    cases h0 with
    | cells hs0 hm0 hf0 hr0 hl0 hv0 =>
      refine .cells hs hm (fun e => by cases e) hr hl fun i v hi => ?_
      obtain ⟨x, hx, hvx⟩ := hv i v hi
      obtain ⟨x0, _, hvx0⟩ := hv0 i v hi
      exact ⟨x, hx, hvx0.cut hN hvx⟩
  | mapo h =>
    cases h0 with
    | mapo h0 => exact .mapo (h0.cut hN h)
  | _ => exact .none _ _
theorem mineO_dim (hide : Bool) (ob : SO) : mineO (dimO hide ob) = false := by cases hide <;> cases ob <;> rfl

-- operands
theorem mem_tmpsOf {op : Op} {t : Tmp} (h : Operand.tmp t ∈ op.operands.toList) : t ∈ tmpsOf op := by
  unfold tmpsOf
  exact List.mem_filterMap.2 ⟨.tmp t, h, rfl⟩
theorem evL_congr {tm tm' : T SV} : ∀ (l : List Operand), (∀ x ∈ l, ev x tm = ev x tm') → evL l tm = evL l tm' := by
  intro l
  induction l with
  | nil => intro _; rfl
  | cons x l ih =>
    intro h
    show ev x tm :: evL l tm = ev x tm' :: evL l tm'
    rw [h x (by simp), ih fun y hy => h y (by simp [hy])]
theorem fill_congr {tm tm' : T SV} {place : Nat → Option (Nat × Nat)} : ∀ (l : List (Nat × Operand)) (cs : List SV), (∀ p ∈ l, ev p.2 tm = ev p.2 tm') → fill l tm place cs = fill l tm' place cs := by
  intro l
  induction l with
  | nil => intro _ _; rfl
  | cons p l ih =>
    intro cs h
    show fill1 (place p.1) (cellsOf (ev p.2 tm)) cs (fill l tm place) = fill1 (place p.1) (cellsOf (ev p.2 tm')) cs (fill l tm' place)
    rw [h p (by simp)]
    have : fill l tm place = fill l tm' place := funext fun c => ih c fun q hq => h q (by simp [hq])
    rw [this]
theorem optN_congr {tm tm' : T SV} {x : Option Operand} (h : ∀ y, x = some y → ev y tm = ev y tm') (d : Nat) : optN x d tm = optN x d tm' := by
  cases x with
  | none => rfl
  | some y => show asN (ev y tm) = asN (ev y tm'); rw [h y rfl]
theorem optV_congr {tm tm' : T SV} {x : Option Operand} (h : ∀ y, x = some y → ev y tm = ev y tm') : optV x tm = optV x tm' := by
  cases x with
  | none => rfl
  | some y => show someO (litO (ev y tm)) = someO (litO (ev y tm')); rw [h y rfl]
theorem slc1_congr {P : Program} {tm tm' : T SV} {h : H} {ty : TypeId} {v : SV} {lo hi mx : Option Operand} (hl : ∀ y, lo = some y → ev y tm = ev y tm') (hh : ∀ y, hi = some y → ev y tm = ev y tm') (hm : ∀ y, mx = some y → ev y tm = ev y tm') :
    slc1 v P tm h ty lo hi mx = slc1 v P tm' h ty lo hi mx := by
  cases v with
  | slc o off n cap ex =>
    show slcS P tm h o off n cap ex ty lo hi mx = slcS P tm' h o off n cap ex ty lo hi mx
    unfold slcS
    rw [optN_congr hl, optN_congr hh, optN_congr hm]
  | ptr o off =>
    show slcA P tm h o off ty lo hi mx = slcA P tm' h o off ty lo hi mx
    unfold slcA
    split <;> first | rfl | rw [optN_congr hl, optN_congr hh, optN_congr hm]
  | lit w =>
    show slcL P h ty w (optV lo tm) (optV hi tm) (optV mx tm) = slcL P h ty w (optV lo tm') (optV hi tm') (optV mx tm')
    rw [optV_congr hl, optV_congr hh, optV_congr hm]
  | _ => rfl
theorem build_congr {P : Program} {tm tm' : T SV} {h : H} {ty : TypeId} {l : List (Nat × Operand)} (hl : ∀ p ∈ l, ev p.2 tm = ev p.2 tm') : build1 (zeroO P ty) ty P tm h l = build1 (zeroO P ty) ty P tm' h l := by
  cases zeroO P ty with
  | none => rfl
  | some z =>
    show build2 (undO P ty) P tm h l (litCells z) = build2 (undO P ty) P tm' h l (litCells z)
    cases undO P ty with
    | none => rfl
    | some d =>
      cases d with
      | struct fields => simp only [build2, fill_congr l _ hl]
      | array n el =>
        show build3 (sizeO P el) tm h l (litCells z) = build3 (sizeO P el) tm' h l (litCells z)
        cases sizeO P el with
        | none => rfl
        | some n => simp only [build3, fill_congr l _ hl]
      | _ => rfl
theorem bslice_congr {P : Program} {tm tm' : T SV} {h : H} {e : Option TypeId} {n : Nat} {l : List (Nat × Operand)} (hl : ∀ p ∈ l, ev p.2 tm = ev p.2 tm') : bslice1 e n P tm h l = bslice1 e n P tm' h l := by
  cases e with
  | none => rfl
  | some el =>
    show bslice2 (zeroO P el) (sizeO P el) el n tm h l = bslice2 (zeroO P el) (sizeO P el) el n tm' h l
    cases zeroO P el with
    | none => rfl
    | some z =>
      cases sizeO P el with
      | none => rfl
      | some k => simp only [bslice2, fill_congr l _ hl]
theorem opCall_congr {P : Program} {tm tm' : T SV} {h : H} {ty : TypeId} {c : Call} (hc : ∀ x ∈ c.operands.toList, ev x tm = ev x tm') : opCall c.callee P tm h ty c.argTypes c.args.toList = opCall c.callee P tm' h ty c.argTypes c.args.toList := by
  obtain ⟨callee, args, ts⟩ := c
  have hl : evL args.toList tm = evL args.toList tm' := evL_congr _ fun x hx => hc x (by simp [Call.operands]; exact .inr (by simpa using hx))
  cases callee with
  | value f =>
    show callV (ev f tm) P h (evL args.toList tm) = callV (ev f tm') P h (evL args.toList tm')
    rw [hl, hc f (by simp [Call.operands])]
  | builtin b =>
    show builtinOp b P h ts ty (evL args.toList tm) = builtinOp b P h ts ty (evL args.toList tm')
    rw [hl]
  | invoke r n => rfl
theorem opDefer_congr {tm tm' : T SV} {c : Call} (hc : ∀ x ∈ c.operands.toList, ev x tm = ev x tm') : opDefer c.callee tm c.args.toList = opDefer c.callee tm' c.args.toList := by
  obtain ⟨callee, args, ts⟩ := c
  have hl : evL args.toList tm = evL args.toList tm' := evL_congr _ fun x hx => hc x (by simp [Call.operands]; exact .inr (by simpa using hx))
  cases callee with
  | value f =>
    show deferV (ev f tm) (evL args.toList tm) = deferV (ev f tm') (evL args.toList tm')
    rw [hl, hc f (by simp [Call.operands])]
  | _ => rfl
theorem ev_congr {op : Op} {tm tm' : T SV} (h : ∀ t ∈ tmpsOf op, sget (pa t) tm = sget (pa t) tm') : ∀ x ∈ op.operands.toList, ev x tm = ev x tm' := by
  intro x hx
  cases x with
  | tmp t => exact h t (mem_tmpsOf hx)
  | _ => rfl
/-- An operation looks at its operands only. -/
theorem sop_congr {P : Program} {G : Glob} {op : Op} {ty : TypeId} {tm tm' : T SV} {h : H} (ht : ∀ t ∈ tmpsOf op, sget (pa t) tm = sget (pa t) tm') : sop op ty P G tm h = sop op ty P G tm' h := by
  have hx := ev_congr ht
  clear ht
  have e1 : ∀ x, x ∈ op.operands.toList → ev x tm = ev x tm' := hx
  cases op with
  | move x => show Eff.val (ev x tm) h = .val (ev x tm') h; rw [e1 x (by simp [Op.operands])]
  | assign x => show Eff.val (ev x tm) h = .val (ev x tm') h; rw [e1 x (by simp [Op.operands])]
  | pick c a b => show boolV (ev c tm) (fun c => .val (pickB c (ev a tm) (ev b tm)) h) = boolV (ev c tm') (fun c => .val (pickB c (ev a tm') (ev b tm')) h); rw [e1 c (by simp [Op.operands]), e1 a (by simp [Op.operands]), e1 b (by simp [Op.operands])]
  | alloc el => rfl
  | box el x => show newE h (.cells (cellsOf (ev x tm)) el true) (fun i h => .val (.ptr i 0) h) = newE h (.cells (cellsOf (ev x tm')) el true) (fun i h => .val (.ptr i 0) h); rw [e1 x (by simp [Op.operands])]
  | build t p => exact build_congr fun q hq => e1 q.2 (by simp [Op.operands]; exact ⟨q.1, by simpa using hq⟩)
  | buildSlice t n p => exact bslice_congr fun q hq => e1 q.2 (by simp [Op.operands]; exact ⟨q.1, by simpa using hq⟩)
  | load t a => show loadE (loadN (sizeO P t) (ev a tm) G h) (aggT P t) h = loadE (loadN (sizeO P t) (ev a tm') G h) (aggT P t) h; rw [e1 a (by simp [Op.operands])]
  | store t a x => show storeS (sizeO P t) (ev a tm) h (cellsOf (ev x tm)) = storeS (sizeO P t) (ev a tm') h (cellsOf (ev x tm')); rw [e1 a (by simp [Op.operands]), e1 x (by simp [Op.operands])]
  | nilCheck x => show nilCheckV (ev x tm) P h = nilCheckV (ev x tm') P h; rw [e1 x (by simp [Op.operands])]
  | binOp op xT x y yT => show bin1 (ev x tm) (ev x tm) P h op xT x y (ev y tm) = bin1 (ev x tm') (ev x tm') P h op xT x y (ev y tm'); rw [e1 x (by simp [Op.operands]), e1 y (by simp [Op.operands])]
  | unOp op t x => show un1 (ev x tm) P h op = un1 (ev x tm') P h op; rw [e1 x (by simp [Op.operands])]
  | convert a b x => show conv1 (ev x tm) P h a b = conv1 (ev x tm') P h a b; rw [e1 x (by simp [Op.operands])]
  | makeInterface t x => show ifB (concrete (undO P t)) (.val (ifaceV (ev x tm) (ev x tm) t) h) = ifB (concrete (undO P t)) (.val (ifaceV (ev x tm') (ev x tm') t) h); rw [e1 x (by simp [Op.operands])]
  | makeFunc fn a b =>
    show makeFn fn h (evL a.toList tm) (evL b.toList tm) = makeFn fn h (evL a.toList tm') (evL b.toList tm')
    rw [evL_congr a.toList fun x hx => e1 x (by simp [Op.operands]; exact .inl (by simpa using hx)), evL_congr b.toList fun x hx => e1 x (by simp [Op.operands]; exact .inr (by simpa using hx))]
  | makeMap t r => rfl
  | makeSlice t l c => show makeSlice1 P h t (ev l tm) (ev c tm) = makeSlice1 P h t (ev l tm') (ev c tm'); rw [e1 l (by simp [Op.operands]), e1 c (by simp [Op.operands])]
  | slice t x lo hi mx =>
    show slc1 (ev x tm) P tm h t lo hi mx = slc1 (ev x tm') P tm' h t lo hi mx
    rw [e1 x (by simp [Op.operands])]
    exact slc1_congr (fun y e => e1 y (by simp [Op.operands, e])) (fun y e => e1 y (by simp [Op.operands, e])) (fun y e => e1 y (by simp [Op.operands, e]))
  | fieldAddr t x i => show fieldAddr1 (ev x tm) P h t i = fieldAddr1 (ev x tm') P h t i; rw [e1 x (by simp [Op.operands])]
  | field t x i => show field0 (aggCells (ev x tm)) P h t i = field0 (aggCells (ev x tm')) P h t i; rw [e1 x (by simp [Op.operands])]
  | indexAddr t x i => show idx1 (ev x tm) P h t (ev i tm) = idx1 (ev x tm') P h t (ev i tm'); rw [e1 x (by simp [Op.operands]), e1 i (by simp [Op.operands])]
  | index t x i => show index1 (asN (ev i tm)) (ev x tm) P h t = index1 (asN (ev i tm')) (ev x tm') P h t; rw [e1 x (by simp [Op.operands]), e1 i (by simp [Op.operands])]
  | lookup t m k ok => show lookup1 P h t (ev m tm) (ev k tm) ok = lookup1 P h t (ev m tm') (ev k tm') ok; rw [e1 m (by simp [Op.operands]), e1 k (by simp [Op.operands])]
  | mapUpdate t m k v => show mapUpdate1 P h t (ev m tm) (ev k tm) (ev v tm) = mapUpdate1 P h t (ev m tm') (ev k tm') (ev v tm'); rw [e1 m (by simp [Op.operands]), e1 k (by simp [Op.operands]), e1 v (by simp [Op.operands])]
  | insert t m k v => show mapUpdate1 P h t (ev m tm) (ev k tm) (ev v tm) = mapUpdate1 P h t (ev m tm') (ev k tm') (ev v tm'); rw [e1 m (by simp [Op.operands]), e1 k (by simp [Op.operands]), e1 v (by simp [Op.operands])]
  | range t x => show range1 P h t (ev x tm) = range1 P h t (ev x tm'); rw [e1 x (by simp [Op.operands])]
  | next it isS => show next1 h (ev it tm) isS = next1 h (ev it tm') isS; rw [e1 it (by simp [Op.operands])]
  | entry it => show entry1 h (ev it tm) = entry1 h (ev it tm'); rw [e1 it (by simp [Op.operands])]
  | extract x i => show extract1 (ev x tm) h i = extract1 (ev x tm') h i; rw [e1 x (by simp [Op.operands])]
  | call c => exact opCall_congr fun x hx => e1 x (by simpa [Op.operands] using hx)
  | defer c => exact opDefer_congr fun x hx => e1 x (by simpa [Op.operands] using hx)
  | panic x => show opPanic (ev x tm) = opPanic (ev x tm'); rw [e1 x (by simp [Op.operands])]
  | typeAssert x xT a ok => show typeAssert1 P h a ok (ev x tm) = typeAssert1 P h a ok (ev x tm'); rw [e1 x (by simp [Op.operands])]
  | _ => rfl
theorem readsO_congr {op : Op} {tm tm' : T SV} (ht : ∀ t ∈ tmpsOf op, sget (pa t) tm = sget (pa t) tm') : readsO op tm = readsO op tm' := by
  have e1 := ev_congr ht
  cases op with
  | load t a => show ptrO (ev a tm) = ptrO (ev a tm'); rw [e1 a (by simp [Op.operands])]
  | convert a b x => show ptrO (ev x tm) = ptrO (ev x tm'); rw [e1 x (by simp [Op.operands])]
  | call c =>
    show headO c.args.toList tm = headO c.args.toList tm'
    cases hc : c.args.toList with
    | nil => rfl
    | cons x l =>
      show ptrO (ev x tm) = ptrO (ev x tm')
      rw [e1 x (by
        simp only [Op.operands, Call.operands, Array.toList_append, hc]
        simp)]
  | _ => rfl
/-- What a light operation reads is named by its operands. -/
theorem readsO_named {op : Op} {tm : T SV} {ρ : Env} {f : Operand → Value} (hev : ∀ x, VR ρ (ev x tm) (f x)) {o : Pa} (h : readsO op tm = some o) : ∃ b, ρ o = some b := by
  have key : ∀ x, ptrO (ev x tm) = some o → ∃ b, ρ o = some b := by
    intro x hx
    have hv := hev x
    generalize ev x tm = v at hx hv
    generalize f x = y at hv
    cases v with
    | ptr o' off => cases hx; cases hv with | ptr _ hb => exact ⟨_, hb⟩
    | slc o' a b c d => cases hx; cases hv with | slc _ _ _ _ _ hb => exact ⟨_, hb⟩
    | mapv o' => cases hx; cases hv with | mapv hb => exact ⟨_, hb⟩
    | _ => cases hx
  cases op with
  | load t a => exact key a h
  | convert a b x => exact key x h
  | call c =>
    change headO c.args.toList tm = some o at h
    cases hc : c.args.toList with
    | nil => rw [hc] at h; cases h
    | cons x l => rw [hc] at h; exact key x h
  | _ => cases h

/-- Slots that are told in part: the others are as they are. -/
theorem slots_some (ts : Array Value) (T0 : List Tmp) {ρ : Env} {tm : T SV} (h : ∀ t ∈ T0, VR ρ (sget (pa t) tm) (ts.getD t undef)) : ∃ tm', TR ρ tm' ts ∧ ∀ t ∈ T0, sget (pa t) tm' = sget (pa t) tm := by
  have base : ∃ t0 : T SV, ∀ i, sget (pa i) t0 = .lit (ts.getD i undef) := by
    have : ∀ n, ∃ t0 : T SV, (∀ i, i < n → sget (pa i) t0 = .lit (ts.getD i undef)) ∧ ∀ i, n ≤ i → sget (pa i) t0 = undefS := by
      intro n
      induction n with
      | zero => exact ⟨.nil, fun i hi => by omega, fun i _ => sget_nil _⟩
      | succ n ih =>
        obtain ⟨t0, h1, h2⟩ := ih
        refine ⟨sset' (pa n) (.lit (ts.getD n undef)) t0, fun i hi => ?_, fun i hi => ?_⟩
        · rw [sget_set]
          by_cases e : i = n
          · rw [e, if_pos rfl]
          · rw [if_neg fun e' => e (pa_inj e')]; exact h1 i (by omega)
        · rw [sget_set, if_neg fun e' => by have := pa_inj e'; omega]; exact h2 i (by omega)
    obtain ⟨t0, h1, h2⟩ := this ts.size
    refine ⟨t0, fun i => ?_⟩
    by_cases hi : i < ts.size
    · exact h1 i hi
    · rw [h2 i (by omega)]
      have : ts.getD i undef = undef := by simp [Array.getD, hi]
      rw [this]; rfl
  obtain ⟨t0, h0⟩ := base
  have : ∀ l : List Tmp, (∀ t ∈ l, t ∈ T0) → ∃ tm', (∀ i, sget (pa i) tm' = sget (pa i) tm ∧ i ∈ T0 ∨ sget (pa i) tm' = .lit (ts.getD i undef)) ∧ ∀ t ∈ l, sget (pa t) tm' = sget (pa t) tm := by
    intro l
    induction l with
    | nil => intro _; exact ⟨t0, fun i => .inr (h0 i), fun t ht => by cases ht⟩
    | cons t l ih =>
      intro hl
      obtain ⟨t1, h1, h2⟩ := ih fun u hu => hl u (by simp [hu])
      refine ⟨sset' (pa t) (sget (pa t) tm) t1, fun i => ?_, fun u hu => ?_⟩
      · rw [sget_set]
        by_cases e : i = t
        · rw [e, if_pos rfl]; exact .inl ⟨rfl, hl t (by simp)⟩
        · rw [if_neg fun e' => e (pa_inj e')]; exact h1 i
      · rw [sget_set]
        by_cases e : u = t
        · rw [e, if_pos rfl]
        · rw [if_neg fun e' => e (pa_inj e')]
          refine h2 u ?_
          cases hu with
          | head => exact absurd rfl e
          | tail _ hm => exact hm
  obtain ⟨tm', h1, h2⟩ := this T0 fun _ h => h
  refine ⟨tm', fun i => ?_, h2⟩
  rcases h1 i with ⟨e, hi⟩ | e
  · rw [e]; exact h i hi
  · rw [e]; exact .lit _
end Go.Play
