/- Play: what a symbolic value, object and heap say of a world. -/
import Derived.Test.YteoegpkfdbcklaaGreatDoorPlayA
import Derived.Laws.Cells
namespace Go.Play
set_option linter.unusedVariables false

/-- Where an object lies: its block, the place of its first cell, how many cells there are from there on, the size of its elements. -/
structure Loc where
  block : Nat
  off : Nat
  room : Nat
  esz : Nat
abbrev Env := Pa → Option Loc
def Env.le (ρ ρ' : Env) : Prop := ∀ o b, ρ o = some b → ρ' o = some b
theorem Env.le.refl (ρ : Env) : Env.le ρ ρ := fun _ _ h => h
theorem Env.le.trans {a b c : Env} (h : Env.le a b) (k : Env.le b c) : Env.le a c := fun o l e => k o l (h o l e)

/-- May a value be forgotten? -/
def anyOk : Value → Bool
  | .bool _ | .agg _ | .tuple _ => false
  | _ => true
mutual
inductive VR (ρ : Env) : SV → Value → Prop
  | lit (v : Value) : VR ρ (.lit v) v
  | ptr {o : Pa} {b : Loc} (off : Nat) (h : ρ o = some b) : VR ρ (.ptr o off) (.pointer (some ⟨b.block, b.off + off, none⟩))
  | slc {o : Pa} {b : Loc} (off len cap : Nat) (ex : Bool) (cap' : Nat) (h : ρ o = some b) (hc : cap ≤ cap') (he : ex = true → cap' = cap)
      (hr : ex = false → off + cap' * b.esz ≤ b.room) : VR ρ (.slc o off len cap ex) (.slice (some ⟨b.block, b.off + off, none⟩) len cap')
  | eslc (a : Addr) (c : Nat) : VR ρ .eslc (.slice (some a) 0 c)
  | mapv {o : Pa} {b : Loc} (h : ρ o = some b) : VR ρ (.mapv o) (.map (some b.block))
  | fn {f : FuncId} {a b : List SV} {a' b' : Array Value} (ha : VRL ρ a a'.toList) (hb : VRL ρ b b'.toList) : VR ρ (.fn f a b) (.func (.func f) a' b')
  | yld {o : Pa} {b : Loc} (h : ρ o = some b) : VR ρ (.yld o) (.func (.yield b.block) #[] #[])
  | ifc (t : TypeId) {v : SV} {x : Value} (h : VR ρ v x) : VR ρ (.ifc t v) (.iface t x)
  | agg {l : List SV} {xs : Array Value} (h : VRL ρ l xs.toList) : VR ρ (.agg l) (.agg xs)
  | tup {l : List SV} {xs : Array Value} (h : VRL ρ l xs.toList) : VR ρ (.tup l) (.tuple xs)
  | any {x : Value} (h : anyOk x = true) : VR ρ .any x
inductive VRL (ρ : Env) : List SV → List Value → Prop
  | nil : VRL ρ [] []
  | cons {v : SV} {x : Value} {l : List SV} {xs : List Value} (h : VR ρ v x) (t : VRL ρ l xs) : VRL ρ (v :: l) (x :: xs)
end

mutual
theorem VR.mono {ρ ρ' : Env} (hle : Env.le ρ ρ') : ∀ {v : SV} {x : Value}, VR ρ v x → VR ρ' v x
  | _, _, .lit v => .lit v
  | _, _, .ptr off h => .ptr off (hle _ _ h)
  | _, _, .slc off len cap ex cap' h hc he hr => .slc off len cap ex cap' (hle _ _ h) hc he hr
  | _, _, .eslc a c => .eslc a c
  | _, _, .mapv h => .mapv (hle _ _ h)
  | _, _, .fn ha hb => .fn (VRL.mono hle ha) (VRL.mono hle hb)
  | _, _, .yld h => .yld (hle _ _ h)
  | _, _, .ifc t h => .ifc t (VR.mono hle h)
  | _, _, .agg h => .agg (VRL.mono hle h)
  | _, _, .tup h => .tup (VRL.mono hle h)
  | _, _, .any h => .any h
theorem VRL.mono {ρ ρ' : Env} (hle : Env.le ρ ρ') : ∀ {l : List SV} {xs : List Value}, VRL ρ l xs → VRL ρ' l xs
  | _, _, .nil => .nil
  | _, _, .cons h t => .cons (VR.mono hle h) (VRL.mono hle t)
end

section
variable {ρ : Env}
theorem VRL.length {l : List SV} : ∀ {xs : List Value}, VRL ρ l xs → l.length = xs.length := by
  induction l with
  | nil => intro xs h; cases h; rfl
  | cons v l ih => intro xs h; cases h with | cons h t => simp [ih t]
theorem VRL.get {l : List SV} : ∀ {xs : List Value}, VRL ρ l xs → ∀ (i : Nat) (v : SV), l[i]? = some v → ∃ x, xs[i]? = some x ∧ VR ρ v x := by
  induction l with
  | nil => intro xs h i v hv; simp at hv
  | cons u l ih =>
    intro xs h i v hv
    cases h with
    | cons h t =>
      cases i with
      | zero => simp at hv; subst hv; exact ⟨_, rfl, h⟩
      | succ i => simpa using ih t i v (by simpa using hv)
theorem VRL.of_get {l : List SV} : ∀ {xs : List Value}, l.length = xs.length → (∀ (i : Nat) (v : SV), l[i]? = some v → ∃ x, xs[i]? = some x ∧ VR ρ v x) → VRL ρ l xs := by
  induction l with
  | nil => intro xs hl h; cases xs with
    | nil => exact .nil
    | cons => simp at hl
  | cons u l ih =>
    intro xs hl h
    cases xs with
    | nil => simp at hl
    | cons x xs =>
      obtain ⟨y, hy, hv⟩ := h 0 u rfl
      simp at hy; subst hy
      exact .cons hv (ih (by simpa using hl) fun i v hi => by simpa using h (i + 1) v (by simpa using hi))
theorem VRL.append {l m : List SV} : ∀ {xs ys : List Value}, VRL ρ l xs → VRL ρ m ys → VRL ρ (l ++ m) (xs ++ ys) := by
  induction l with
  | nil => intro xs ys h k; cases h; exact k
  | cons v l ih => intro xs ys h k; cases h with | cons h t => exact .cons h (ih t k)
theorem VRL.take {l : List SV} : ∀ {xs : List Value} (n : Nat), VRL ρ l xs → VRL ρ (l.take n) (xs.take n) := by
  induction l with
  | nil => intro xs n h; cases h; simp; exact .nil
  | cons v l ih => intro xs n h; cases h with | cons h t => cases n with
    | zero => exact .nil
    | succ n => exact .cons h (ih n t)
theorem VRL.drop {l : List SV} : ∀ {xs : List Value} (n : Nat), VRL ρ l xs → VRL ρ (l.drop n) (xs.drop n) := by
  induction l with
  | nil => intro xs n h; cases h; simp; exact .nil
  | cons v l ih => intro xs n h; cases h with | cons h t => cases n with
    | zero => exact .cons h t
    | succ n => exact ih n t
theorem VRL.lits (xs : List Value) : VRL ρ (xs.map .lit) xs := by
  induction xs with
  | nil => exact .nil
  | cons x xs ih => exact .cons (.lit x) ih
theorem VRL.flatten_replicate {l : List SV} {xs : List Value} (h : VRL ρ l xs) (n : Nat) : VRL ρ (List.replicate n l).flatten (List.replicate n xs).flatten := by
  induction n with
  | zero => exact .nil
  | succ n ih => rw [List.replicate_succ, List.replicate_succ, List.flatten_cons, List.flatten_cons]; exact h.append ih
theorem lits_some {l : List SV} : ∀ {vs : List Value} {xs : List Value}, lits l = some vs → VRL ρ l xs → xs = vs := by
  induction l with
  | nil => intro vs xs h k; cases h; cases k; rfl
  | cons v l ih =>
    intro vs xs h k
    cases k with
    | cons hv t =>
      cases v with
      | lit x =>
        change consV (Play.lits l) x = some vs at h
        cases hl : Play.lits l with
        | none => rw [hl] at h; cases h
        | some q => rw [hl] at h; cases h; cases hv; rw [ih hl t]
      | _ => cases h
theorem litCells_rel (v : Value) : VRL ρ (litCells v) v.cells.toList := by
  cases v with
  | agg cs => exact VRL.lits _
  | _ => exact .cons (.lit _) .nil
theorem cellsOf_rel {v : SV} {x : Value} (h : VR ρ v x) : VRL ρ (cellsOf v) x.cells.toList := by
  cases h with
  | lit => exact litCells_rel _
  | agg h => exact h
  | ptr off h => exact .cons (.ptr off h) .nil
  | slc off len cap ex cap' h hc he hr => exact .cons (.slc off len cap ex cap' h hc he hr) .nil
  | eslc a c => exact .cons (.eslc a c) .nil
  | mapv h => exact .cons (.mapv h) .nil
  | fn ha hb => exact .cons (.fn ha hb) .nil
  | yld h => exact .cons (.yld h) .nil
  | ifc t h => exact .cons (.ifc t h) .nil
  | tup h => exact .cons (.tup h) .nil
  | @any x h => cases x <;> first | (cases h; done) | exact .cons (.any rfl) .nil
theorem oneW_eq (v : Value) : oneW v = v.oneCell' := by cases v <;> rfl
theorem oneV_rel {v : SV} {x : Value} (h : VR ρ v x) (k : oneV v = true) : x.oneCell' = true := by
  cases h with
  | lit => have h2 : oneW x = true := k; rwa [oneW_eq] at h2
  | agg h => cases k
  | tup h => cases k
  | any h => cases x <;> first | (cases h; done) | rfl
  | _ => rfl
theorem oneL_rel {l : List SV} : ∀ {xs : List Value}, VRL ρ l xs → oneL l = true → ∀ x ∈ xs, x.oneCell' = true := by
  induction l with
  | nil => intro xs h k x hx; cases h; cases hx
  | cons v l ih =>
    intro xs h k x hx
    cases h with
    | cons h t =>
      change andB (oneV v) (oneL l) = true at k
      rw [andB_eq, Bool.and_eq_true] at k
      cases hx with
      | head => exact oneV_rel h k.1
      | tail _ hm => exact ih t k.2 x hm
end

-- deferred calls, loops, objects
inductive DR (ρ : Env) : SDef → Deferred → Prop
  | call {f : FuncId} {l : List SV} {args cap : Array Value} (h : VRL ρ l (args ++ cap).toList) : DR ρ (.call f l) { target := .fn (.func f) cap, args }
  | collected {o : Pa} {b : Loc} (h : ρ o = some b) : DR ρ (.collected o) { target := .collected b.block, args := #[] }
inductive DRL (ρ : Env) : List SDef → List Deferred → Prop
  | nil : DRL ρ [] []
  | cons {d : SDef} {e : Deferred} {l : List SDef} {m : List Deferred} (h : DR ρ d e) (t : DRL ρ l m) : DRL ρ (d :: l) (e :: m)
theorem DR.mono {ρ ρ' : Env} (hle : Env.le ρ ρ') {d : SDef} {e : Deferred} (h : DR ρ d e) : DR ρ' d e := by
  cases h with
  | call h => exact .call (h.mono hle)
  | collected h => exact .collected (hle _ _ h)
theorem DRL.mono {ρ ρ' : Env} (hle : Env.le ρ ρ') {l : List SDef} {m : List Deferred} (h : DRL ρ l m) : DRL ρ' l m := by
  induction h with
  | nil => exact .nil
  | cons h _ ih => exact .cons (h.mono hle) ih
theorem DRL.append {ρ : Env} {l l' : List SDef} {m m' : List Deferred} (h : DRL ρ l m) (k : DRL ρ l' m') : DRL ρ (l ++ l') (m ++ m') := by
  induction h with
  | nil => exact k
  | cons h _ ih => exact .cons h ih

/-- The slots: nothing is said of those beyond the frame's. -/
def TR (ρ : Env) (tm : T SV) (ts : Array Value) : Prop := ∀ i, VR ρ (sget (pa i) tm) (ts.getD i undef)
theorem TR.mono {ρ ρ' : Env} (hle : Env.le ρ ρ') {tm : T SV} {ts : Array Value} (h : TR ρ tm ts) : TR ρ' tm ts := fun i => (h i).mono hle
inductive ER (ρ : Env) : List (SV × SV × Nat) → List MapEntry → Prop
  | nil : ER ρ [] []
  | cons {k : SV} {key : Value} {v : SV} {x : Value} {b : Nat} {l : List (SV × SV × Nat)} {m : List MapEntry} (hk : VR ρ k key) (h : VR ρ v x) (t : ER ρ l m) : ER ρ ((k, v, b) :: l) ({ key := key, val := x, born := b } :: m)
theorem ER.mono {ρ ρ' : Env} (hle : Env.le ρ ρ') {l : List (SV × SV × Nat)} {m : List MapEntry} (h : ER ρ l m) : ER ρ' l m := by
  induction h with
  | nil => exact .nil
  | cons hk h _ ih => exact .cons (hk.mono hle) (h.mono hle) ih

/-- What an object says of its block. -/
inductive OR (P : Program) (ρ : Env) : SO → Loc → Option Obj → Prop
  | none (b : Loc) (ob : Option Obj) : OR P ρ .none b ob
  | cells {vs : List SV} {e : TypeId} {own : Bool} {b : Loc} {c : Array Value} {fr : Nat × Nat} (hs : P.cellsOf e = b.esz) (hm : b.off % b.esz = 0)
      (hf : own = true → fr = (0, 0)) (hr : b.off + b.room ≤ c.size) (hl : vs.length ≤ b.room)
      (hv : ∀ i v, vs[i]? = some v → ∃ x, c[b.off + i]? = some x ∧ VR ρ v x) : OR P ρ (.cells vs e own) b (some (.cells c e fr))
  | mapo {es : List (SV × SV × Nat)} {k : Nat} {own : Bool} {b : Loc} {xs : Array MapEntry} (h : ER ρ es xs.toList) : OR P ρ (.mapo es k own) b (some (.map xs k))
  | sit {s : ByteArray} {pos : Nat} {b : Loc} (h : b.off = 0) : OR P ρ (.sit s pos) b (some (.stringIter s pos))
  | mitN {since st : Nat} {seen : List Nat} {b : Loc} (h : b.off = 0) : OR P ρ (.mit Option.none since seen st) b (some (.mapIter Option.none since seen.toArray st))
  | mitS {m : Pa} {bm : Loc} {since st : Nat} {seen : List Nat} {b : Loc} (h : b.off = 0) (hm : ρ m = some bm) : OR P ρ (.mit (some m) since seen st) b (some (.mapIter (some bm.block) since seen.toArray st))
  | loop {st : LoopState} {pend : Option Code} {fn : FuncId} {tm : T SV} {ts : Array Value} {ps : Array Tmp} {as bd : Code} {d : Pa} {bd' : Loc} {b : Loc}
      (ht : TR ρ tm ts) (hps : okTmps ps.toList ts.size = true) (has : okCode as ts.size = true) (hbd : okCode bd ts.size = true) (hpd : ∀ c, pend = some c → ∀ n, okCode c n = true) (hd : ρ d = some bd') :
      OR P ρ (.loop st pend fn tm ps as bd d) b (some (.loop { state := st, pending := pend, fn, tmps := ts, params := ps, assign := as, body := bd, defers := bd'.block }))
  | defN {b : Loc} : OR P ρ (.deferred Option.none) b (some (.deferred Option.none))
  | defS {l : List SDef} {m : List Deferred} {b : Loc} (h : DRL ρ l m) : OR P ρ (.deferred (some l)) b (some (.deferred (some m)))
theorem OR.mono {P : Program} {ρ ρ' : Env} (hle : Env.le ρ ρ') {ob : SO} {b : Loc} {o : Option Obj} (h : OR P ρ ob b o) : OR P ρ' ob b o := by
  cases h with
  | none => exact .none _ _
  | cells hs hm hf hr hl hv => exact .cells hs hm hf hr hl fun i v hi => let ⟨x, hx, k⟩ := hv i v hi; ⟨x, hx, k.mono hle⟩
  | mapo h => exact .mapo (h.mono hle)
  | sit h => exact .sit h
  | mitN h => exact .mitN h
  | mitS h hm => exact .mitS h (hle _ _ hm)
  | loop ht hps has hbd hpd hd => exact .loop (ht.mono hle) hps has hbd hpd (hle _ _ hd)
  | defN => exact .defN
  | defS h => exact .defS (h.mono hle)

/-- May the run write the object? -/
def mineO : SO → Bool
  | .none => false
  | .cells _ _ own => own
  | .mapo _ _ own => own
  | _ => true

structure Sim (P : Program) (G : Glob) (M : Nat → Prop) (ρ : Env) (h : H) (w : World) : Prop where
  live : ∀ o b, ρ o = some b → OR P ρ (hget h o) b w.heap[b.block]?
  size : ∀ o b, ρ o = some b → b.block < w.heap.size
  dom : ∀ o b, ρ o = some b → o.num < (nOf h).num
  apart : ∀ o o' b b', ρ o = some b → ρ o' = some b' → hget h o ≠ .none → hget h o' ≠ .none → b.block = b'.block → o = o'
  mine : ∀ o b, ρ o = some b → mineO (hget h o) = true → M b.block
  fresh : ∀ k, w.heap.size ≤ k → M k
  globs : ∀ g cs, gfind G g = some cs → ¬ M g ∧ ∃ (c : Array Value) (el : TypeId) (fr : Nat × Nat), w.heap[g]? = some (.cells c el fr) ∧ ∀ (i : Nat) (v : SV), cs[i]? = some v → ∃ x : Value, c[i]? = some x ∧ VR ρ v x

/-- How the world, what is known of it, and the names grow. -/
structure Grow (M : Nat → Prop) (ρ : Env) (h : H) (w : World) (ρ' : Env) (h' : H) (w' : World) : Prop where
  os : w'.os = w.os
  tape : w'.tape = w.tape
  output : w'.output = w.output
  size : w.heap.size ≤ w'.heap.size
  same : ∀ k, ¬ M k → w'.heap[k]? = w.heap[k]?
  nx : (nOf h).num ≤ (nOf h').num
  keep : Env.le ρ ρ'
  new : ∀ o, ρ o = none → ρ' o ≠ none → (nOf h).num ≤ o.num
  track : ∀ o b, ρ' o = some b → hget h' o ≠ .none → M b.block ∨ (ρ o = some b ∧ hget h o ≠ .none)

section
variable {P : Program} {G : Glob} {M : Nat → Prop} {ρ ρ' ρ'' : Env} {h h' h'' : H} {w w' w'' : World}
theorem Grow.refl : Grow M ρ h w ρ h w := ⟨rfl, rfl, rfl, Nat.le_refl _, fun _ _ => rfl, Nat.le_refl _, .refl _, fun o h0 h1 => absurd h0 h1, fun o b hb hn => .inr ⟨hb, hn⟩⟩
theorem Grow.trans (a : Grow M ρ h w ρ' h' w') (b : Grow M ρ' h' w' ρ'' h'' w'') : Grow M ρ h w ρ'' h'' w'' where
  os := b.os.trans a.os
  tape := b.tape.trans a.tape
  output := b.output.trans a.output
  size := Nat.le_trans a.size b.size
  same := fun k hk => (b.same k hk).trans (a.same k hk)
  nx := Nat.le_trans a.nx b.nx
  keep := a.keep.trans b.keep
  new := fun o h0 h1 => by
    cases hm : ρ' o with
    | none => exact Nat.le_trans a.nx (b.new o hm h1)
    | some l => exact a.new o h0 (by rw [hm]; simp)
  track := fun o l hl hn => by
    rcases b.track o l hl hn with h1 | ⟨h1, h2⟩
    · exact .inl h1
    · exact a.track o l h1 h2
/-- What changes nothing but how much has been drawn. -/
theorem Sim.drew (s : Sim P G M ρ h w) (hh : w'.heap = w.heap) : Sim P G M ρ h w' where
  live := fun o b hb => by rw [hh]; exact s.live o b hb
  size := fun o b hb => by rw [hh]; exact s.size o b hb
  dom := s.dom
  apart := s.apart
  mine := s.mine
  fresh := fun k hk => s.fresh k (by rw [← hh]; exact hk)
  globs := fun g cs hg => by rw [hh]; exact s.globs g cs hg
theorem Grow.drew (ho : w'.os = w.os) (ht : w'.tape = w.tape) (hu : w'.output = w.output) (hh : w'.heap = w.heap) : Grow M ρ h w ρ h w' :=
  ⟨ho, ht, hu, by rw [hh]; exact Nat.le_refl _, fun _ _ => by rw [hh], Nat.le_refl _, .refl _, fun o h0 h1 => absurd h0 h1, fun o b hb hn => .inr ⟨hb, hn⟩⟩

/-- An object that is the run's own is written. -/
theorem Sim.put (s : Sim P G M ρ h w) {o : Pa} {b : Loc} {ob : SO} (hb : ρ o = some b) (hm : mineO (hget h o) = true) (ho : w'.os = w.os) (ht : w'.tape = w.tape) (hu : w'.output = w.output)
    (hz : w'.heap.size = w.heap.size) (hk : ∀ k, k ≠ b.block → w'.heap[k]? = w.heap[k]?) (hob : OR P ρ ob b w'.heap[b.block]?) : Sim P G M ρ (hput h o ob) w' ∧ Grow M ρ h w ρ (hput h o ob) w' := by
  have hne : hget h o ≠ .none := fun e => by rw [e] at hm; cases hm
  have hM := s.mine o b hb hm
  refine ⟨⟨?_, ?_, ?_, ?_, ?_, ?_, ?_⟩, ⟨ho, ht, hu, Nat.le_of_eq hz.symm, ?_, ?_, .refl _, fun o h0 h1 => absurd h0 h1, ?_⟩⟩
  · intro o' b' hb'
    rw [hget_put]
    split
    · rename_i e; subst e; rw [hb] at hb'; cases hb'; exact hob
    · rename_i e
      by_cases hn : hget h o' = .none
      · rw [hn]; exact .none _ _
      · rw [hk b'.block fun e' => e (s.apart o' o b' b hb' hb hn hne e')]; exact s.live o' b' hb'
  · intro o' b' hb'; rw [hz]; exact s.size o' b' hb'
  · intro o' b' hb'; rw [nOf_put]; exact s.dom o' b' hb'
  · intro o1 o2 b1 b2 h1 h2 n1 n2 e
    rw [hget_put] at n1 n2
    have f1 : hget h o1 ≠ .none := by
      split at n1
      · rename_i e; rw [e]; exact hne
      · exact n1
    have f2 : hget h o2 ≠ .none := by
      split at n2
      · rename_i e; rw [e]; exact hne
      · exact n2
    exact s.apart o1 o2 b1 b2 h1 h2 f1 f2 e
  · intro o' b' hb' hm'
    rw [hget_put] at hm'
    split at hm'
    · rename_i e; subst e; rw [hb] at hb'; cases hb'; exact hM
    · exact s.mine o' b' hb' hm'
  · intro k hk'; exact s.fresh k (by rw [← hz]; exact hk')
  · intro g cs hg
    obtain ⟨h1, h2⟩ := s.globs g cs hg
    exact ⟨h1, by rw [hk g fun e => h1 (e ▸ hM)]; exact h2⟩
  · intro k hk'; exact hk k fun e => hk' (e ▸ hM)
  · rw [nOf_put]; exact Nat.le_refl _
  · intro o' b' hb' hn
    rw [hget_put] at hn
    split at hn
    · rename_i e; exact .inr ⟨hb', by rw [e]; exact hne⟩
    · exact .inr ⟨hb', hn⟩

noncomputable def Env.put (ρ : Env) (o : Pa) (b : Loc) : Env := fun o' => if o' = o then some b else ρ o'
theorem Env.put_self (ρ : Env) (o : Pa) (b : Loc) : ρ.put o b o = some b := by simp [Env.put]
theorem Env.put_le {ρ : Env} {o : Pa} (b : Loc) (h : ρ o = none) : Env.le ρ (ρ.put o b) := fun o' b' hb => by
  unfold Env.put
  split
  · rename_i e; rw [e, h] at hb; cases hb
  · exact hb
theorem Sim.none_at (s : Sim P G M ρ h w) : ρ (nOf h) = none := by
  cases hb : ρ (nOf h) with
  | none => rfl
  | some b => exact absurd (s.dom _ _ hb) (Nat.lt_irrefl _)

/-- A name gets a place, in a block that no object has (a new one, or one of the run's own); the symbolic heap may hold the object already. -/
theorem Sim.place (s : Sim P G M ρ h w) {o : Pa} {b : Loc} {ob : SO} (hh : ∀ o', o' ≠ o → hget h' o' = hget h o') (hn : ρ o = none) (hob' : hget h' o = ob) (hlt : o.num < (nOf h').num) (hnx : (nOf h).num ≤ (nOf h').num)
    (ho : w'.os = w.os) (ht : w'.tape = w.tape) (hu : w'.output = w.output)
    (hz : w.heap.size ≤ w'.heap.size) (hbz : b.block < w'.heap.size) (hk : ∀ k, k ≠ b.block → k < w.heap.size → w'.heap[k]? = w.heap[k]?) (hM : M b.block)
    (hap : ∀ o' b', ρ o' = some b' → hget h o' ≠ .none → b'.block ≠ b.block) (hob : OR P (ρ.put o b) ob b w'.heap[b.block]?) :
    Sim P G M (ρ.put o b) h' w' := by
  have hle : Env.le ρ (ρ.put o b) := Env.put_le b hn
  have hsplit : ∀ o' b', (ρ.put o b) o' = some b' → (o' = o ∧ b' = b) ∨ (o' ≠ o ∧ ρ o' = some b') := by
    intro o' b' hb
    unfold Env.put at hb
    split at hb
    · rename_i e; cases hb; exact .inl ⟨e, rfl⟩
    · rename_i e; exact .inr ⟨e, hb⟩
  refine ⟨?_, ?_, ?_, ?_, ?_, ?_, ?_⟩
  · intro o' b' hb'
    rcases hsplit o' b' hb' with ⟨rfl, rfl⟩ | ⟨hne, hb⟩
    · rw [hob']; exact hob
    · rw [hh o' hne]
      by_cases hn' : hget h o' = .none
      · rw [hn']; exact .none _ _
      · rw [hk _ (hap o' b' hb hn') (s.size o' b' hb)]; exact (s.live o' b' hb).mono hle
  · intro o' b' hb'
    rcases hsplit o' b' hb' with ⟨rfl, rfl⟩ | ⟨hne, hb⟩
    · exact hbz
    · exact Nat.lt_of_lt_of_le (s.size o' b' hb) hz
  · intro o' b' hb'
    rcases hsplit o' b' hb' with ⟨rfl, rfl⟩ | ⟨hne, hb⟩
    · exact hlt
    · exact Nat.lt_of_lt_of_le (s.dom o' b' hb) hnx
  · intro o1 o2 b1 b2 h1 h2 n1 n2 e
    rcases hsplit o1 b1 h1 with ⟨rfl, rfl⟩ | ⟨hne1, hb1⟩ <;> rcases hsplit o2 b2 h2 with ⟨rfl, rfl⟩ | ⟨hne2, hb2⟩
    · rfl
    · rw [hh o2 hne2] at n2; exact absurd e.symm (hap o2 b2 hb2 n2)
    · rw [hh o1 hne1] at n1; exact absurd e (hap o1 b1 hb1 n1)
    · rw [hh o1 hne1] at n1; rw [hh o2 hne2] at n2; exact s.apart o1 o2 b1 b2 hb1 hb2 n1 n2 e
  · intro o' b' hb' hm'
    rcases hsplit o' b' hb' with ⟨rfl, rfl⟩ | ⟨hne, hb⟩
    · exact hM
    · rw [hh o' hne] at hm'; exact s.mine o' b' hb hm'
  · intro k hk'; exact s.fresh k (Nat.le_trans hz hk')
  · intro g cs hg
    obtain ⟨h1, c, el, fr, h2, h3⟩ := s.globs g cs hg
    refine ⟨h1, c, el, fr, ?_, fun i v hi => let ⟨x, hx, hv⟩ := h3 i v hi; ⟨x, hx, hv.mono hle⟩⟩
    rw [hk g (fun e => h1 (e ▸ hM)) (by rcases Nat.lt_or_ge g w.heap.size with h | h; exact h; rw [Array.getElem?_eq_none h] at h2; cases h2)]
    exact h2
theorem Sim.push (s : Sim P G M ρ h w) {b : Loc} {ob : SO} (ho : w'.os = w.os) (ht : w'.tape = w.tape) (hu : w'.output = w.output)
    (hz : w.heap.size ≤ w'.heap.size) (hbz : b.block < w'.heap.size) (hk : ∀ k, k ≠ b.block → k < w.heap.size → w'.heap[k]? = w.heap[k]?) (hM : M b.block)
    (hap : ∀ o' b', ρ o' = some b' → hget h o' ≠ .none → b'.block ≠ b.block) (hob : OR P (ρ.put (nOf h) b) ob b w'.heap[b.block]?) :
    Sim P G M (ρ.put (nOf h) b) (hpush h ob) w' ∧ Grow M ρ h w (ρ.put (nOf h) b) (hpush h ob) w' := by
  have hn := s.none_at
  have hnx : (nOf h).num < (nOf (hpush h ob)).num := by rw [nOf_push, Pa.num_succ]; omega
  refine ⟨s.place (o := nOf h) (ob := ob) (fun o' hne => by rw [hget_push, if_neg hne]) hn (by rw [hget_push, if_pos rfl]) hnx (Nat.le_of_lt hnx) ho ht hu hz hbz hk hM hap hob, ⟨ho, ht, hu, hz, ?_, Nat.le_of_lt hnx, Env.put_le b hn, ?_, ?_⟩⟩
  · intro k hk'
    rcases Nat.lt_or_ge k w.heap.size with hl | hl
    · exact hk k (fun e => hk' (e ▸ hM)) hl
    · exact absurd (s.fresh k hl) hk'
  · intro o' h0 h1
    unfold Env.put at h1
    split at h1
    · rename_i e; rw [e]; exact Nat.le_refl _
    · exact absurd h0 h1
  · intro o' b' hb' hn'
    unfold Env.put at hb'
    split at hb'
    · cases hb'; exact .inl hM
    · rename_i e; rw [hget_push, if_neg e] at hn'; exact .inr ⟨hb', hn'⟩
/-- A new block. -/
theorem Sim.alloc (s : Sim P G M ρ h w) {b : Loc} {ob : SO} {obj : Obj} (hb : b.block = w.heap.size) (hob : OR P (ρ.put (nOf h) b) ob b (some obj)) :
    Sim P G M (ρ.put (nOf h) b) (hpush h ob) { w with heap := w.heap.push obj } ∧ Grow M ρ h w (ρ.put (nOf h) b) (hpush h ob) { w with heap := w.heap.push obj } := by
  refine s.push rfl rfl rfl (by simp) (by simp [hb]) (fun k hk hl => ?_) (s.fresh _ (by omega)) (fun o' b' hb' _ e => ?_) (by simpa [hb] using hob)
  · show (w.heap.push obj)[k]? = _; rw [Array.getElem?_push, if_neg (by omega)]
  · have := s.size o' b' hb'; omega
end
end Go.Play
