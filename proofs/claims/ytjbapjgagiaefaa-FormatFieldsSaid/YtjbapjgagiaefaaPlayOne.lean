/- Play, PlayOne. -/
import Derived.Test.YtjbapjgagiaefaaPlay
import Derived.Laws.Cells
import GoSem.Dispatch
/- Play: plain facts of the evaluator's trees and lists. -/
namespace Go.Play
set_option linter.unusedVariables false
deriving instance DecidableEq for Pa

-- names
def Pa.num : Pa → Nat
  | .e => 0
  | .l p => 2 * p.num + 1
  | .r p => 2 * p.num + 2
theorem Pa.num_inj : ∀ {p q : Pa}, p.num = q.num → p = q := by
  intro p
  induction p with
  | e => intro q h; cases q <;> simp only [Pa.num] at h <;> first | rfl | omega
  | l p ih => intro q h; cases q with
    | l q => simp only [Pa.num] at h; rw [ih (q := q) (by omega)]
    | e => simp only [Pa.num] at h; omega
    | r q => simp only [Pa.num] at h; omega
  | r p ih => intro q h; cases q with
    | r q => simp only [Pa.num] at h; rw [ih (q := q) (by omega)]
    | e => simp only [Pa.num] at h; omega
    | l q => simp only [Pa.num] at h; omega
theorem Pa.num_succ (p : Pa) : (Pa.succ p).num = p.num + 1 := by
  induction p with
  | e => rfl
  | l p ih => show (Pa.r p).num = _; simp only [Pa.num]
  | r p ih => show (Pa.l (Pa.succ p)).num = _; simp only [Pa.num, ih]; omega
theorem Pa.succ_ne (p : Pa) : Pa.succ p ≠ p := fun h => by have := congrArg Pa.num h; rw [Pa.num_succ] at this; omega
theorem num_paF : ∀ (f n : Nat), n ≤ f → (paF f n).num = n := by
  intro f
  induction f with
  | zero => intro n h; have h0 : n = 0 := by omega
            rw [h0]; rfl
  | succ f ih =>
    intro n h
    cases n with
    | zero => rfl
    | succ k =>
      show (Bool.rec (motive := fun _ => (Nat → Pa) → Nat → Pa) (fun ih k => .r (ih k)) (fun ih k => .l (ih k)) (Nat.beq (Nat.mod k 2) 0) (paF f) (Nat.div k 2)).num = k + 1
      have h2 := ih (k / 2) (by omega)
      have hk : Nat.div k 2 = k / 2 := rfl
      have hm : Nat.mod k 2 = k % 2 := rfl
      rw [hk, hm]
      rcases Nat.mod_two_eq_zero_or_one k with h0 | h0 <;> rw [h0]
      · show (Pa.l (paF f (k / 2))).num = _; simp only [Pa.num, h2]; omega
      · show (Pa.r (paF f (k / 2))).num = _; simp only [Pa.num, h2]; omega
theorem num_pa (n : Nat) : (pa n).num = n := num_paF n n (Nat.le_refl n)
theorem pa_inj {m n : Nat} (h : pa m = pa n) : m = n := by have := congrArg Pa.num h; simpa only [num_pa] using this
theorem Pa.beq_iff : ∀ (p q : Pa), Pa.beq p q = true ↔ p = q := by
  intro p
  induction p with
  | e => intro q; cases q <;> simp [Pa.beq]
  | l p ih => intro q; cases q with
    | l q => show Pa.beq p q = true ↔ _; rw [ih q]; simp
    | e => simp [Pa.beq]
    | r q => simp [Pa.beq]
  | r p ih => intro q; cases q with
    | r q => show Pa.beq p q = true ↔ _; rw [ih q]; simp
    | e => simp [Pa.beq]
    | l q => simp [Pa.beq]

-- trees of slots
def sset' : Pa → SV → T SV → T SV
  | .e, x, .nil => .node x .nil .nil
  | .e, x, .node _ l r => .node x l r
  | .l p, x, .nil => .node undefS (sset' p x .nil) .nil
  | .l p, x, .node v l r => .node v (sset' p x l) r
  | .r p, x, .nil => .node undefS .nil (sset' p x .nil)
  | .r p, x, .node v l r => .node v l (sset' p x r)
theorem sset_eq (p : Pa) : ∀ (x : SV) (t : T SV) (K : T SV → Res), sset p x t K = K (sset' p x t) := by
  induction p with
  | e => intro x t K; cases t <;> rfl
  | l p ih => intro x t K; cases t <;> (simp only [sset']; exact ih _ _ _)
  | r p ih => intro x t K; cases t <;> (simp only [sset']; exact ih _ _ _)
theorem sget_nil (p : Pa) : sget p .nil = undefS := by induction p <;> first | rfl | assumption
theorem sget_set (p : Pa) : ∀ (q : Pa) (x : SV) (t : T SV), sget p (sset' q x t) = if p = q then x else sget p t := by
  induction p with
  | e => intro q x t; cases q <;> cases t <;> rfl
  | l p ih =>
    intro q x t
    cases q with
    | e => cases t <;> rfl
    | l q =>
      have : sget (.l p) (sset' (.l q) x t) = sget p (sset' q x (slt t)) := by cases t <;> rfl
      rw [this, ih]
      by_cases h : p = q
      · rw [if_pos h, if_pos (by rw [h])]
      · rw [if_neg h, if_neg (by simp [h])]; rfl
    | r q =>
      have : sget (.l p) (sset' (.r q) x t) = sget p (slt t) := by cases t <;> rfl
      rw [this, if_neg (by simp)]; rfl
  | r p ih =>
    intro q x t
    cases q with
    | e => cases t <;> rfl
    | r q =>
      have : sget (.r p) (sset' (.r q) x t) = sget p (sset' q x (srt t)) := by cases t <;> rfl
      rw [this, ih]
      by_cases h : p = q
      · rw [if_pos h, if_pos (by rw [h])]
      · rw [if_neg h, if_neg (by simp [h])]; rfl
    | l q =>
      have : sget (.r p) (sset' (.l q) x t) = sget p (srt t) := by cases t <;> rfl
      rw [this, if_neg (by simp)]; rfl
-- trees of objects
def oset' : Pa → SO → T SO → T SO
  | .e, x, .nil => .node x .nil .nil
  | .e, x, .node _ l r => .node x l r
  | .l p, x, .nil => .node .none (oset' p x .nil) .nil
  | .l p, x, .node v l r => .node v (oset' p x l) r
  | .r p, x, .nil => .node .none .nil (oset' p x .nil)
  | .r p, x, .node v l r => .node v l (oset' p x r)
theorem oset_eq {R : Type} (p : Pa) : ∀ (x : SO) (t : T SO) (K : T SO → R), oset p x t K = K (oset' p x t) := by
  induction p with
  | e => intro x t K; cases t <;> rfl
  | l p ih => intro x t K; cases t <;> (simp only [oset']; exact ih _ _ _)
  | r p ih => intro x t K; cases t <;> (simp only [oset']; exact ih _ _ _)
theorem oget_set (p : Pa) : ∀ (q : Pa) (x : SO) (t : T SO), oget p (oset' q x t) = if p = q then x else oget p t := by
  induction p with
  | e => intro q x t; cases q <;> cases t <;> rfl
  | l p ih =>
    intro q x t
    cases q with
    | e => cases t <;> rfl
    | l q =>
      have : oget (.l p) (oset' (.l q) x t) = oget p (oset' q x (olt t)) := by cases t <;> rfl
      rw [this, ih]
      by_cases h : p = q
      · rw [if_pos h, if_pos (by rw [h])]
      · rw [if_neg h, if_neg (by simp [h])]; rfl
    | r q =>
      have : oget (.l p) (oset' (.r q) x t) = oget p (olt t) := by cases t <;> rfl
      rw [this, if_neg (by simp)]; rfl
  | r p ih =>
    intro q x t
    cases q with
    | e => cases t <;> rfl
    | r q =>
      have : oget (.r p) (oset' (.r q) x t) = oget p (oset' q x (ort t)) := by cases t <;> rfl
      rw [this, ih]
      by_cases h : p = q
      · rw [if_pos h, if_pos (by rw [h])]
      · rw [if_neg h, if_neg (by simp [h])]; rfl
    | l q =>
      have : oget (.r p) (oset' (.l q) x t) = oget p (ort t) := by cases t <;> rfl
      rw [this, if_neg (by simp)]; rfl
theorem oget_nil (p : Pa) : oget p .nil = .none := by induction p <;> first | rfl | assumption
-- the heap
def hput (h : H) (i : Pa) (o : SO) : H := match h with | .mk n ob => .mk n (oset' i o ob)
noncomputable def hpush (h : H) (o : SO) : H := match h with | .mk n ob => .mk (Pa.succ n) (oset' n o ob)
theorem newE_eq (h : H) (o : SO) (K : Pa → H → Eff) : newE h o K = K (nOf h) (hpush h o) := by cases h; exact oset_eq _ _ _ _
theorem putE_eq (h : H) (i : Pa) (o : SO) (K : H → Eff) : putE h i o K = K (hput h i o) := by cases h; exact oset_eq _ _ _ _
theorem newR_eq (h : H) (o : SO) (K : Pa → H → Res) : newR h o K = K (nOf h) (hpush h o) := by cases h; exact oset_eq _ _ _ _
theorem putR_eq (h : H) (i : Pa) (o : SO) (K : H → Res) : putR h i o K = K (hput h i o) := by cases h; exact oset_eq _ _ _ _
theorem hget_put (h : H) (i o : Pa) (ob : SO) : hget (hput h i ob) o = if o = i then ob else hget h o := by cases h; exact oget_set _ _ _ _
theorem hget_push (h : H) (o : Pa) (ob : SO) : hget (hpush h ob) o = if o = nOf h then ob else hget h o := by cases h; exact oget_set _ _ _ _
theorem nOf_put (h : H) (i : Pa) (ob : SO) : nOf (hput h i ob) = nOf h := by cases h; rfl
theorem nOf_push (h : H) (ob : SO) : nOf (hpush h ob) = Pa.succ (nOf h) := by cases h; rfl

-- lists
theorem andB_eq (a b : Bool) : andB a b = (a && b) := by cases a <;> rfl
theorem notB_eq (b : Bool) : notB b = !b := by cases b <;> rfl
theorem lenS_eq (l : List SV) : lenS l = l.length := by
  induction l with
  | nil => rfl
  | cons x l ih => show Nat.succ (lenS l) = _; rw [ih]; rfl
theorem dropS_eq (n : Nat) : ∀ l : List SV, dropS n l = l.drop n := by
  induction n with
  | zero => intro l; rfl
  | succ n ih => intro l; cases l with
    | nil => rfl
    | cons x l => show dropS n l = _; rw [ih]; rfl
theorem headS_eq (l : List SV) : headS l = l[0]? := by cases l <;> rfl
theorem nthS_eq (n : Nat) (l : List SV) : nthS n l = l[n]? := by
  show headS (dropS n l) = _; rw [headS_eq, dropS_eq]; simp
theorem takeS_some (n : Nat) : ∀ {l r : List SV}, takeS n l = some r → n ≤ l.length ∧ r = l.take n := by
  induction n with
  | zero => intro l r h; cases h; simp
  | succ n ih => intro l r h; cases l with
    | nil => cases h
    | cons x l =>
      change consS (takeS n l) x = some r at h
      cases ht : takeS n l with
      | none => rw [ht] at h; cases h
      | some q => rw [ht] at h; cases h; obtain ⟨h1, h2⟩ := ih ht; subst h2; simp; omega
theorem appS_eq (l : List SV) : ∀ m, appS l m = l ++ m := by
  induction l with
  | nil => intro m; rfl
  | cons x l ih => intro m; show x :: appS l m = _; rw [ih]; rfl
theorem appD_eq (l : List SDef) : ∀ m, appD l m = l ++ m := by
  induction l with
  | nil => intro m; rfl
  | cons x l ih => intro m; show x :: appD l m = _; rw [ih]; rfl
theorem appM_eq (l m : List (SV × SV × Nat)) : appM l m = l ++ m := by
  induction l with
  | nil => rfl
  | cons x l ih => show x :: appM l m = _; rw [ih]; rfl
theorem overS_some (xs : List SV) : ∀ {l r : List SV}, overS xs l = some r → xs.length ≤ l.length ∧ r = xs ++ l.drop xs.length := by
  induction xs with
  | nil => intro l r h; cases h; simp
  | cons x xs ih => intro l r h; cases l with
    | nil => cases h
    | cons y l =>
      change consS (overS xs l) x = some r at h
      cases ht : overS xs l with
      | none => rw [ht] at h; cases h
      | some q => rw [ht] at h; cases h; obtain ⟨h1, h2⟩ := ih ht; subst h2; simp; omega
theorem overAt_some (off : Nat) (xs : List SV) : ∀ {l r : List SV}, overAt off xs l = some r → off + xs.length ≤ l.length ∧ r = l.take off ++ xs ++ l.drop (off + xs.length) := by
  induction off with
  | zero => intro l r h; have := overS_some xs (show overS xs l = some r from h); simpa using this
  | succ off ih => intro l r h; cases l with
    | nil => cases h
    | cons y l =>
      change consS (overAt off xs l) y = some r at h
      cases ht : overAt off xs l with
      | none => rw [ht] at h; cases h
      | some q =>
        rw [ht] at h; cases h; obtain ⟨h1, h2⟩ := ih ht; subst h2
        refine ⟨by simp; omega, ?_⟩
        have : off + 1 + xs.length = (off + xs.length) + 1 := by omega
        rw [this]; simp
/-- What lies at a place of a list that was written over. -/
theorem overAt_get {off : Nat} {xs l r : List SV} (h : overAt off xs l = some r) (i : Nat) :
    r[i]? = if off ≤ i ∧ i < off + xs.length then xs[i - off]? else l[i]? := by
  obtain ⟨h1, rfl⟩ := overAt_some off xs h
  by_cases h2 : i < off
  · rw [if_neg (by omega), List.append_assoc, List.getElem?_append_left (by simp; omega)]
    simp [h2]
  · by_cases h3 : i < off + xs.length
    · rw [if_pos (by omega), List.append_assoc, List.getElem?_append_right (by simp; omega), List.getElem?_append_left (by simp; omega)]
      simp; congr 1; omega
    · rw [if_neg (by omega), List.append_assoc, List.getElem?_append_right (by simp; omega), List.getElem?_append_right (by simp; omega)]
      simp; congr 1; omega
theorem overAt_length {off : Nat} {xs l r : List SV} (h : overAt off xs l = some r) : r.length = l.length := by
  obtain ⟨h1, rfl⟩ := overAt_some off xs h
  simp; omega
theorem repS_eq (n : Nat) (l : List SV) : repS n l = (List.replicate n l).flatten := by
  induction n with
  | zero => rfl
  | succ n ih => show appS l (repS n l) = _; rw [appS_eq, ih, List.replicate_succ, List.flatten_cons]
theorem nthV_eq (n : Nat) : ∀ l : List Value, nthV n l = l[n]? := by
  induction n with
  | zero => intro l; cases l <;> rfl
  | succ n ih => intro l; cases l with
    | nil => rfl
    | cons x l => show nthV n l = _; rw [ih]; rfl
theorem nthB_eq (n : Nat) : ∀ l : List UInt8, nthB n l = l[n]? := by
  induction n with
  | zero => intro l; cases l <;> rfl
  | succ n ih => intro l; cases l with
    | nil => rfl
    | cons x l => show nthB n l = _; rw [ih]; rfl
theorem nthI_eq (n : Nat) : ∀ l : List TypeInfo, nthI n l = l[n]? := by
  induction n with
  | zero => intro l; cases l <;> rfl
  | succ n ih => intro l; cases l with
    | nil => rfl
    | cons x l => show nthI n l = _; rw [ih]; rfl
theorem nthF_eq (n : Nat) : ∀ l : List Func, nthF n l = l[n]? := by
  induction n with
  | zero => intro l; cases l <;> rfl
  | succ n ih => intro l; cases l with
    | nil => rfl
    | cons x l => show nthF n l = _; rw [ih]; rfl
theorem nthD_eq (n : Nat) : ∀ l : List Field, nthD n l = l[n]? := by
  induction n with
  | zero => intro l; cases l <;> rfl
  | succ n ih => intro l; cases l with
    | nil => rfl
    | cons x l => show nthD n l = _; rw [ih]; rfl
theorem nthO_eq (n : Nat) : ∀ l : List Oper, nthO n l = l[n]? := by
  induction n with
  | zero => intro l; cases l <;> rfl
  | succ n ih => intro l; cases l with
    | nil => rfl
    | cons x l => show nthO n l = _; rw [ih]; rfl

-- tables
theorem funcO_eq (P : Program) (f : FuncId) : funcO P f = P.funcs[f]? := by
  show nthF f P.funcs.toList = _; rw [nthF_eq]; simp
end Go.Play

/- Play: what a symbolic value, object and heap say of a world. -/
namespace Go.Play
set_option linter.unusedVariables false

/-- Where an object lies: its block, the place of its first cell, how many cells there are from there on, the size of its elements. -/
structure Loc where
  block : Nat
  off : Nat
  room : Nat
  esz : Nat
abbrev Env := Pa → Option Loc
def Env.le (ρ ρ' : Env) : Prop := ∀ o b, ρ o = some b → ρ' o = some b
theorem Env.le.refl (ρ : Env) : Env.le ρ ρ := fun _ _ h => h
theorem Env.le.trans {a b c : Env} (h : Env.le a b) (k : Env.le b c) : Env.le a c := fun o l e => k o l (h o l e)

mutual
inductive VR (ρ : Env) : SV → Value → Prop
  | lit (v : Value) : VR ρ (.lit v) v
  | ptr {o : Pa} {b : Loc} (off : Nat) (h : ρ o = some b) : VR ρ (.ptr o off) (.pointer (some ⟨b.block, b.off + off, none⟩))
  | slc {o : Pa} {b : Loc} (off len cap : Nat) (ex : Bool) (cap' : Nat) (h : ρ o = some b) (hc : cap ≤ cap') (he : ex = true → cap' = cap)
      (hr : ex = false → off + cap' * b.esz ≤ b.room) : VR ρ (.slc o off len cap ex) (.slice (some ⟨b.block, b.off + off, none⟩) len cap')
  | eslc (a : Addr) (c : Nat) : VR ρ .eslc (.slice (some a) 0 c)
  | mapv {o : Pa} {b : Loc} (h : ρ o = some b) : VR ρ (.mapv o) (.map (some b.block))
  | fn {f : FuncId} {a b : List SV} {a' b' : Array Value} (ha : VRL ρ a a'.toList) (hb : VRL ρ b b'.toList) : VR ρ (.fn f a b) (.func (.func f) a' b')
  | yld {o : Pa} {b : Loc} (h : ρ o = some b) : VR ρ (.yld o) (.func (.yield b.block) #[] #[])
  | ifc (t : TypeId) {v : SV} {x : Value} (h : VR ρ v x) : VR ρ (.ifc t v) (.iface t x)
  | agg {l : List SV} {xs : Array Value} (h : VRL ρ l xs.toList) : VR ρ (.agg l) (.agg xs)
  | tup {l : List SV} {xs : Array Value} (h : VRL ρ l xs.toList) : VR ρ (.tup l) (.tuple xs)
  | any {x : Value} (h : anyOk x = true) : VR ρ .any x
inductive VRL (ρ : Env) : List SV → List Value → Prop
  | nil : VRL ρ [] []
  | cons {v : SV} {x : Value} {l : List SV} {xs : List Value} (h : VR ρ v x) (t : VRL ρ l xs) : VRL ρ (v :: l) (x :: xs)
end

mutual
theorem VR.mono {ρ ρ' : Env} (hle : Env.le ρ ρ') : ∀ {v : SV} {x : Value}, VR ρ v x → VR ρ' v x
  | _, _, .lit v => .lit v
  | _, _, .ptr off h => .ptr off (hle _ _ h)
  | _, _, .slc off len cap ex cap' h hc he hr => .slc off len cap ex cap' (hle _ _ h) hc he hr
  | _, _, .eslc a c => .eslc a c
  | _, _, .mapv h => .mapv (hle _ _ h)
  | _, _, .fn ha hb => .fn (VRL.mono hle ha) (VRL.mono hle hb)
  | _, _, .yld h => .yld (hle _ _ h)
  | _, _, .ifc t h => .ifc t (VR.mono hle h)
  | _, _, .agg h => .agg (VRL.mono hle h)
  | _, _, .tup h => .tup (VRL.mono hle h)
  | _, _, .any h => .any h
theorem VRL.mono {ρ ρ' : Env} (hle : Env.le ρ ρ') : ∀ {l : List SV} {xs : List Value}, VRL ρ l xs → VRL ρ' l xs
  | _, _, .nil => .nil
  | _, _, .cons h t => .cons (VR.mono hle h) (VRL.mono hle t)
end

section
variable {ρ : Env}
theorem VRL.length {l : List SV} : ∀ {xs : List Value}, VRL ρ l xs → l.length = xs.length := by
  induction l with
  | nil => intro xs h; cases h; rfl
  | cons v l ih => intro xs h; cases h with | cons h t => simp [ih t]
theorem VRL.get {l : List SV} : ∀ {xs : List Value}, VRL ρ l xs → ∀ (i : Nat) (v : SV), l[i]? = some v → ∃ x, xs[i]? = some x ∧ VR ρ v x := by
  induction l with
  | nil => intro xs h i v hv; simp at hv
  | cons u l ih =>
    intro xs h i v hv
    cases h with
    | cons h t =>
      cases i with
      | zero => simp at hv; subst hv; exact ⟨_, rfl, h⟩
      | succ i => simpa using ih t i v (by simpa using hv)
theorem VRL.of_get {l : List SV} : ∀ {xs : List Value}, l.length = xs.length → (∀ (i : Nat) (v : SV), l[i]? = some v → ∃ x, xs[i]? = some x ∧ VR ρ v x) → VRL ρ l xs := by
  induction l with
  | nil => intro xs hl h; cases xs with
    | nil => exact .nil
    | cons => simp at hl
  | cons u l ih =>
    intro xs hl h
    cases xs with
    | nil => simp at hl
    | cons x xs =>
      obtain ⟨y, hy, hv⟩ := h 0 u rfl
      simp at hy; subst hy
      exact .cons hv (ih (by simpa using hl) fun i v hi => by simpa using h (i + 1) v (by simpa using hi))
theorem VRL.append {l m : List SV} : ∀ {xs ys : List Value}, VRL ρ l xs → VRL ρ m ys → VRL ρ (l ++ m) (xs ++ ys) := by
  induction l with
  | nil => intro xs ys h k; cases h; exact k
  | cons v l ih => intro xs ys h k; cases h with | cons h t => exact .cons h (ih t k)
theorem VRL.take {l : List SV} : ∀ {xs : List Value} (n : Nat), VRL ρ l xs → VRL ρ (l.take n) (xs.take n) := by
  induction l with
  | nil => intro xs n h; cases h; simp; exact .nil
  | cons v l ih => intro xs n h; cases h with | cons h t => cases n with
    | zero => exact .nil
    | succ n => exact .cons h (ih n t)
theorem VRL.drop {l : List SV} : ∀ {xs : List Value} (n : Nat), VRL ρ l xs → VRL ρ (l.drop n) (xs.drop n) := by
  induction l with
  | nil => intro xs n h; cases h; simp; exact .nil
  | cons v l ih => intro xs n h; cases h with | cons h t => cases n with
    | zero => exact .cons h t
    | succ n => exact ih n t
theorem VRL.lits (xs : List Value) : VRL ρ (xs.map .lit) xs := by
  induction xs with
  | nil => exact .nil
  | cons x xs ih => exact .cons (.lit x) ih
theorem VRL.flatten_replicate {l : List SV} {xs : List Value} (h : VRL ρ l xs) (n : Nat) : VRL ρ (List.replicate n l).flatten (List.replicate n xs).flatten := by
  induction n with
  | zero => exact .nil
  | succ n ih => rw [List.replicate_succ, List.replicate_succ, List.flatten_cons, List.flatten_cons]; exact h.append ih
theorem lits_some {l : List SV} : ∀ {vs : List Value} {xs : List Value}, lits l = some vs → VRL ρ l xs → xs = vs := by
  induction l with
  | nil => intro vs xs h k; cases h; cases k; rfl
  | cons v l ih =>
    intro vs xs h k
    cases k with
    | cons hv t =>
      cases v with
      | lit x =>
        change consV (Play.lits l) x = some vs at h
        cases hl : Play.lits l with
        | none => rw [hl] at h; cases h
        | some q => rw [hl] at h; cases h; cases hv; rw [ih hl t]
      | _ => cases h
theorem litCells_rel (v : Value) : VRL ρ (litCells v) v.cells.toList := by
  cases v with
  | agg cs => exact VRL.lits _
  | _ => exact .cons (.lit _) .nil
theorem cellsOf_rel {v : SV} {x : Value} (h : VR ρ v x) : VRL ρ (cellsOf v) x.cells.toList := by
  cases h with
  | lit => exact litCells_rel _
  | agg h => exact h
  | ptr off h => exact .cons (.ptr off h) .nil
  | slc off len cap ex cap' h hc he hr => exact .cons (.slc off len cap ex cap' h hc he hr) .nil
  | eslc a c => exact .cons (.eslc a c) .nil
  | mapv h => exact .cons (.mapv h) .nil
  | fn ha hb => exact .cons (.fn ha hb) .nil
  | yld h => exact .cons (.yld h) .nil
  | ifc t h => exact .cons (.ifc t h) .nil
  | tup h => exact .cons (.tup h) .nil
  | @any x h => cases x <;> first | (cases h; done) | exact .cons (.any rfl) .nil
theorem oneW_eq (v : Value) : oneW v = v.oneCell' := by cases v <;> rfl
theorem oneV_rel {v : SV} {x : Value} (h : VR ρ v x) (k : oneV v = true) : x.oneCell' = true := by
  cases h with
  | lit => have h2 : oneW x = true := k; rwa [oneW_eq] at h2
  | agg h => cases k
  | tup h => cases k
  | any h => cases x <;> first | (cases h; done) | rfl
  | _ => rfl
theorem oneL_rel {l : List SV} : ∀ {xs : List Value}, VRL ρ l xs → oneL l = true → ∀ x ∈ xs, x.oneCell' = true := by
  induction l with
  | nil => intro xs h k x hx; cases h; cases hx
  | cons v l ih =>
    intro xs h k x hx
    cases h with
    | cons h t =>
      change andB (oneV v) (oneL l) = true at k
      rw [andB_eq, Bool.and_eq_true] at k
      cases hx with
      | head => exact oneV_rel h k.1
      | tail _ hm => exact ih t k.2 x hm
end

-- deferred calls, loops, objects
inductive DR (ρ : Env) : SDef → Deferred → Prop
  | call {f : FuncId} {l : List SV} {args cap : Array Value} (h : VRL ρ l (args ++ cap).toList) : DR ρ (.call f l) { target := .fn (.func f) cap, args }
  | collected {o : Pa} {b : Loc} (h : ρ o = some b) : DR ρ (.collected o) { target := .collected b.block, args := #[] }
inductive DRL (ρ : Env) : List SDef → List Deferred → Prop
  | nil : DRL ρ [] []
  | cons {d : SDef} {e : Deferred} {l : List SDef} {m : List Deferred} (h : DR ρ d e) (t : DRL ρ l m) : DRL ρ (d :: l) (e :: m)
theorem DR.mono {ρ ρ' : Env} (hle : Env.le ρ ρ') {d : SDef} {e : Deferred} (h : DR ρ d e) : DR ρ' d e := by
  cases h with
  | call h => exact .call (h.mono hle)
  | collected h => exact .collected (hle _ _ h)
theorem DRL.mono {ρ ρ' : Env} (hle : Env.le ρ ρ') {l : List SDef} {m : List Deferred} (h : DRL ρ l m) : DRL ρ' l m := by
  induction h with
  | nil => exact .nil
  | cons h _ ih => exact .cons (h.mono hle) ih
theorem DRL.append {ρ : Env} {l l' : List SDef} {m m' : List Deferred} (h : DRL ρ l m) (k : DRL ρ l' m') : DRL ρ (l ++ l') (m ++ m') := by
  induction h with
  | nil => exact k
  | cons h _ ih => exact .cons h ih

/-- The slots: nothing is said of those beyond the frame's. -/
def TR (ρ : Env) (tm : T SV) (ts : Array Value) : Prop := ∀ i, VR ρ (sget (pa i) tm) (ts.getD i undef)
theorem TR.mono {ρ ρ' : Env} (hle : Env.le ρ ρ') {tm : T SV} {ts : Array Value} (h : TR ρ tm ts) : TR ρ' tm ts := fun i => (h i).mono hle
inductive ER (ρ : Env) : List (SV × SV × Nat) → List MapEntry → Prop
  | nil : ER ρ [] []
  | cons {k : SV} {key : Value} {v : SV} {x : Value} {b : Nat} {l : List (SV × SV × Nat)} {m : List MapEntry} (hk : VR ρ k key) (h : VR ρ v x) (t : ER ρ l m) : ER ρ ((k, v, b) :: l) ({ key := key, val := x, born := b } :: m)
theorem ER.mono {ρ ρ' : Env} (hle : Env.le ρ ρ') {l : List (SV × SV × Nat)} {m : List MapEntry} (h : ER ρ l m) : ER ρ' l m := by
  induction h with
  | nil => exact .nil
  | cons hk h _ ih => exact .cons (hk.mono hle) (h.mono hle) ih

/-- What an object says of its block. -/
inductive OR (P : Program) (ρ : Env) : SO → Loc → Option Obj → Prop
  | none (b : Loc) (ob : Option Obj) : OR P ρ .none b ob
  | cells {vs : List SV} {e : TypeId} {own : Bool} {b : Loc} {c : Array Value} {fr : Nat × Nat} (hs : P.cellsOf e = b.esz) (hm : b.off % b.esz = 0)
      (hf : own = true → fr = (0, 0)) (hr : b.off + b.room ≤ c.size) (hl : vs.length ≤ b.room)
      (hv : ∀ i v, vs[i]? = some v → ∃ x, c[b.off + i]? = some x ∧ VR ρ v x) : OR P ρ (.cells vs e own) b (some (.cells c e fr))
  | mapo {es : List (SV × SV × Nat)} {k : Nat} {own : Bool} {b : Loc} {xs : Array MapEntry} (h : ER ρ es xs.toList) : OR P ρ (.mapo es k own) b (some (.map xs k))
  | sit {s : ByteArray} {pos : Nat} {b : Loc} (h : b.off = 0) : OR P ρ (.sit s pos) b (some (.stringIter s pos))
  | mitN {since st : Nat} {seen : List Nat} {b : Loc} (h : b.off = 0) : OR P ρ (.mit Option.none since seen st) b (some (.mapIter Option.none since seen.toArray st))
  | mitS {m : Pa} {bm : Loc} {since st : Nat} {seen : List Nat} {b : Loc} (h : b.off = 0) (hm : ρ m = some bm) : OR P ρ (.mit (some m) since seen st) b (some (.mapIter (some bm.block) since seen.toArray st))
  | loop {st : LoopState} {pend : Option Code} {fn : FuncId} {tm : T SV} {ts : Array Value} {ps : Array Tmp} {as bd : Code} {d : Pa} {bd' : Loc} {b : Loc}
      (ht : TR ρ tm ts) (hps : okTmps ps.toList ts.size = true) (has : okCode as ts.size = true) (hbd : okCode bd ts.size = true) (hpd : ∀ c, pend = some c → ∀ n, okCode c n = true) (hd : ρ d = some bd') :
      OR P ρ (.loop st pend fn tm ps as bd d) b (some (.loop { state := st, pending := pend, fn, tmps := ts, params := ps, assign := as, body := bd, defers := bd'.block }))
  | defN {b : Loc} : OR P ρ (.deferred Option.none) b (some (.deferred Option.none))
  | defS {l : List SDef} {m : List Deferred} {b : Loc} (h : DRL ρ l m) : OR P ρ (.deferred (some l)) b (some (.deferred (some m)))
theorem OR.mono {P : Program} {ρ ρ' : Env} (hle : Env.le ρ ρ') {ob : SO} {b : Loc} {o : Option Obj} (h : OR P ρ ob b o) : OR P ρ' ob b o := by
  cases h with
  | none => exact .none _ _
  | cells hs hm hf hr hl hv => exact .cells hs hm hf hr hl fun i v hi => let ⟨x, hx, k⟩ := hv i v hi; ⟨x, hx, k.mono hle⟩
  | mapo h => exact .mapo (h.mono hle)
  | sit h => exact .sit h
  | mitN h => exact .mitN h
  | mitS h hm => exact .mitS h (hle _ _ hm)
  | loop ht hps has hbd hpd hd => exact .loop (ht.mono hle) hps has hbd hpd (hle _ _ hd)
  | defN => exact .defN
  | defS h => exact .defS (h.mono hle)

/-- May the run write the object? -/
def mineO : SO → Bool
  | .none => false
  | .cells _ _ own => own
  | .mapo _ _ own => own
  | _ => true

structure Sim (P : Program) (G : Glob) (M : Nat → Prop) (ρ : Env) (h : H) (w : World) : Prop where
  live : ∀ o b, ρ o = some b → OR P ρ (hget h o) b w.heap[b.block]?
  size : ∀ o b, ρ o = some b → b.block < w.heap.size
  dom : ∀ o b, ρ o = some b → o.num < (nOf h).num
  apart : ∀ o o' b b', ρ o = some b → ρ o' = some b' → hget h o ≠ .none → hget h o' ≠ .none → b.block = b'.block → o = o'
  mine : ∀ o b, ρ o = some b → mineO (hget h o) = true → M b.block
  fresh : ∀ k, w.heap.size ≤ k → M k
  globs : ∀ g cs, gfind G g = some cs → ¬ M g ∧ ∃ (c : Array Value) (el : TypeId) (fr : Nat × Nat), w.heap[g]? = some (.cells c el fr) ∧ ∀ (i : Nat) (v : SV), cs[i]? = some v → ∃ x : Value, c[i]? = some x ∧ VR ρ v x

/-- How the world, what is known of it, and the names grow. -/
structure Grow (M : Nat → Prop) (ρ : Env) (h : H) (w : World) (ρ' : Env) (h' : H) (w' : World) : Prop where
  os : w'.os = w.os
  tape : w'.tape = w.tape
  output : w'.output = w.output
  size : w.heap.size ≤ w'.heap.size
  same : ∀ k, ¬ M k → w'.heap[k]? = w.heap[k]?
  nx : (nOf h).num ≤ (nOf h').num
  keep : Env.le ρ ρ'
  new : ∀ o, ρ o = none → ρ' o ≠ none → (nOf h).num ≤ o.num
  track : ∀ o b, ρ' o = some b → hget h' o ≠ .none → M b.block ∨ (ρ o = some b ∧ hget h o ≠ .none)

section
variable {P : Program} {G : Glob} {M : Nat → Prop} {ρ ρ' ρ'' : Env} {h h' h'' : H} {w w' w'' : World}
theorem Grow.refl : Grow M ρ h w ρ h w := ⟨rfl, rfl, rfl, Nat.le_refl _, fun _ _ => rfl, Nat.le_refl _, .refl _, fun o h0 h1 => absurd h0 h1, fun o b hb hn => .inr ⟨hb, hn⟩⟩
theorem Grow.trans (a : Grow M ρ h w ρ' h' w') (b : Grow M ρ' h' w' ρ'' h'' w'') : Grow M ρ h w ρ'' h'' w'' where
  os := b.os.trans a.os
  tape := b.tape.trans a.tape
  output := b.output.trans a.output
  size := Nat.le_trans a.size b.size
  same := fun k hk => (b.same k hk).trans (a.same k hk)
  nx := Nat.le_trans a.nx b.nx
  keep := a.keep.trans b.keep
  new := fun o h0 h1 => by
    cases hm : ρ' o with
    | none => exact Nat.le_trans a.nx (b.new o hm h1)
    | some l => exact a.new o h0 (by rw [hm]; simp)
  track := fun o l hl hn => by
    rcases b.track o l hl hn with h1 | ⟨h1, h2⟩
    · exact .inl h1
    · exact a.track o l h1 h2
/-- What changes nothing but how much has been drawn. -/
theorem Sim.drew (s : Sim P G M ρ h w) (hh : w'.heap = w.heap) : Sim P G M ρ h w' where
  live := fun o b hb => by rw [hh]; exact s.live o b hb
  size := fun o b hb => by rw [hh]; exact s.size o b hb
  dom := s.dom
  apart := s.apart
  mine := s.mine
  fresh := fun k hk => s.fresh k (by rw [← hh]; exact hk)
  globs := fun g cs hg => by rw [hh]; exact s.globs g cs hg
theorem Grow.drew (ho : w'.os = w.os) (ht : w'.tape = w.tape) (hu : w'.output = w.output) (hh : w'.heap = w.heap) : Grow M ρ h w ρ h w' :=
  ⟨ho, ht, hu, by rw [hh]; exact Nat.le_refl _, fun _ _ => by rw [hh], Nat.le_refl _, .refl _, fun o h0 h1 => absurd h0 h1, fun o b hb hn => .inr ⟨hb, hn⟩⟩

/-- An object that is the run's own is written. -/
theorem Sim.put (s : Sim P G M ρ h w) {o : Pa} {b : Loc} {ob : SO} (hb : ρ o = some b) (hm : mineO (hget h o) = true) (ho : w'.os = w.os) (ht : w'.tape = w.tape) (hu : w'.output = w.output)
    (hz : w'.heap.size = w.heap.size) (hk : ∀ k, k ≠ b.block → w'.heap[k]? = w.heap[k]?) (hob : OR P ρ ob b w'.heap[b.block]?) : Sim P G M ρ (hput h o ob) w' ∧ Grow M ρ h w ρ (hput h o ob) w' := by
  have hne : hget h o ≠ .none := fun e => by rw [e] at hm; cases hm
  have hM := s.mine o b hb hm
  refine ⟨⟨?_, ?_, ?_, ?_, ?_, ?_, ?_⟩, ⟨ho, ht, hu, Nat.le_of_eq hz.symm, ?_, ?_, .refl _, fun o h0 h1 => absurd h0 h1, ?_⟩⟩
  · intro o' b' hb'
    rw [hget_put]
    split
    · rename_i e; subst e; rw [hb] at hb'; cases hb'; exact hob
    · rename_i e
      by_cases hn : hget h o' = .none
      · rw [hn]; exact .none _ _
      · rw [hk b'.block fun e' => e (s.apart o' o b' b hb' hb hn hne e')]; exact s.live o' b' hb'
  · intro o' b' hb'; rw [hz]; exact s.size o' b' hb'
  · intro o' b' hb'; rw [nOf_put]; exact s.dom o' b' hb'
  · intro o1 o2 b1 b2 h1 h2 n1 n2 e
    rw [hget_put] at n1 n2
    have f1 : hget h o1 ≠ .none := by
      split at n1
      · rename_i e; rw [e]; exact hne
      · exact n1
    have f2 : hget h o2 ≠ .none := by
      split at n2
      · rename_i e; rw [e]; exact hne
      · exact n2
    exact s.apart o1 o2 b1 b2 h1 h2 f1 f2 e
  · intro o' b' hb' hm'
    rw [hget_put] at hm'
    split at hm'
    · rename_i e; subst e; rw [hb] at hb'; cases hb'; exact hM
    · exact s.mine o' b' hb' hm'
  · intro k hk'; exact s.fresh k (by rw [← hz]; exact hk')
  · intro g cs hg
    obtain ⟨h1, h2⟩ := s.globs g cs hg
    exact ⟨h1, by rw [hk g fun e => h1 (e ▸ hM)]; exact h2⟩
  · intro k hk'; exact hk k fun e => hk' (e ▸ hM)
  · rw [nOf_put]; exact Nat.le_refl _
  · intro o' b' hb' hn
    rw [hget_put] at hn
    split at hn
    · rename_i e; exact .inr ⟨hb', by rw [e]; exact hne⟩
    · exact .inr ⟨hb', hn⟩

noncomputable def Env.put (ρ : Env) (o : Pa) (b : Loc) : Env := fun o' => if o' = o then some b else ρ o'
theorem Env.put_self (ρ : Env) (o : Pa) (b : Loc) : ρ.put o b o = some b := by simp [Env.put]
theorem Env.put_le {ρ : Env} {o : Pa} (b : Loc) (h : ρ o = none) : Env.le ρ (ρ.put o b) := fun o' b' hb => by
  unfold Env.put
  split
  · rename_i e; rw [e, h] at hb; cases hb
  · exact hb
theorem Sim.none_at (s : Sim P G M ρ h w) : ρ (nOf h) = none := by
  cases hb : ρ (nOf h) with
  | none => rfl
  | some b => exact absurd (s.dom _ _ hb) (Nat.lt_irrefl _)

/-- A name gets a place, in a block that no object has (a new one, or one of the run's own); the symbolic heap may hold the object already. -/
theorem Sim.place (s : Sim P G M ρ h w) {o : Pa} {b : Loc} {ob : SO} (hh : ∀ o', o' ≠ o → hget h' o' = hget h o') (hn : ρ o = none) (hob' : hget h' o = ob) (hlt : o.num < (nOf h').num) (hnx : (nOf h).num ≤ (nOf h').num)
    (ho : w'.os = w.os) (ht : w'.tape = w.tape) (hu : w'.output = w.output)
    (hz : w.heap.size ≤ w'.heap.size) (hbz : b.block < w'.heap.size) (hk : ∀ k, k ≠ b.block → k < w.heap.size → w'.heap[k]? = w.heap[k]?) (hM : M b.block)
    (hap : ∀ o' b', ρ o' = some b' → hget h o' ≠ .none → b'.block ≠ b.block) (hob : OR P (ρ.put o b) ob b w'.heap[b.block]?) :
    Sim P G M (ρ.put o b) h' w' := by
  have hle : Env.le ρ (ρ.put o b) := Env.put_le b hn
  have hsplit : ∀ o' b', (ρ.put o b) o' = some b' → (o' = o ∧ b' = b) ∨ (o' ≠ o ∧ ρ o' = some b') := by
    intro o' b' hb
    unfold Env.put at hb
    split at hb
    · rename_i e; cases hb; exact .inl ⟨e, rfl⟩
    · rename_i e; exact .inr ⟨e, hb⟩
  refine ⟨?_, ?_, ?_, ?_, ?_, ?_, ?_⟩
  · intro o' b' hb'
    rcases hsplit o' b' hb' with ⟨rfl, rfl⟩ | ⟨hne, hb⟩
    · rw [hob']; exact hob
    · rw [hh o' hne]
      by_cases hn' : hget h o' = .none
      · rw [hn']; exact .none _ _
      · rw [hk _ (hap o' b' hb hn') (s.size o' b' hb)]; exact (s.live o' b' hb).mono hle
  · intro o' b' hb'
    rcases hsplit o' b' hb' with ⟨rfl, rfl⟩ | ⟨hne, hb⟩
    · exact hbz
    · exact Nat.lt_of_lt_of_le (s.size o' b' hb) hz
  · intro o' b' hb'
    rcases hsplit o' b' hb' with ⟨rfl, rfl⟩ | ⟨hne, hb⟩
    · exact hlt
    · exact Nat.lt_of_lt_of_le (s.dom o' b' hb) hnx
  · intro o1 o2 b1 b2 h1 h2 n1 n2 e
    rcases hsplit o1 b1 h1 with ⟨rfl, rfl⟩ | ⟨hne1, hb1⟩ <;> rcases hsplit o2 b2 h2 with ⟨rfl, rfl⟩ | ⟨hne2, hb2⟩
    · rfl
    · rw [hh o2 hne2] at n2; exact absurd e.symm (hap o2 b2 hb2 n2)
    · rw [hh o1 hne1] at n1; exact absurd e (hap o1 b1 hb1 n1)
    · rw [hh o1 hne1] at n1; rw [hh o2 hne2] at n2; exact s.apart o1 o2 b1 b2 hb1 hb2 n1 n2 e
  · intro o' b' hb' hm'
    rcases hsplit o' b' hb' with ⟨rfl, rfl⟩ | ⟨hne, hb⟩
    · exact hM
    · rw [hh o' hne] at hm'; exact s.mine o' b' hb hm'
  · intro k hk'; exact s.fresh k (Nat.le_trans hz hk')
  · intro g cs hg
    obtain ⟨h1, c, el, fr, h2, h3⟩ := s.globs g cs hg
    refine ⟨h1, c, el, fr, ?_, fun i v hi => let ⟨x, hx, hv⟩ := h3 i v hi; ⟨x, hx, hv.mono hle⟩⟩
    rw [hk g (fun e => h1 (e ▸ hM)) (by rcases Nat.lt_or_ge g w.heap.size with h | h; exact h; rw [Array.getElem?_eq_none h] at h2; cases h2)]
    exact h2
theorem Sim.push (s : Sim P G M ρ h w) {b : Loc} {ob : SO} (ho : w'.os = w.os) (ht : w'.tape = w.tape) (hu : w'.output = w.output)
    (hz : w.heap.size ≤ w'.heap.size) (hbz : b.block < w'.heap.size) (hk : ∀ k, k ≠ b.block → k < w.heap.size → w'.heap[k]? = w.heap[k]?) (hM : M b.block)
    (hap : ∀ o' b', ρ o' = some b' → hget h o' ≠ .none → b'.block ≠ b.block) (hob : OR P (ρ.put (nOf h) b) ob b w'.heap[b.block]?) :
    Sim P G M (ρ.put (nOf h) b) (hpush h ob) w' ∧ Grow M ρ h w (ρ.put (nOf h) b) (hpush h ob) w' := by
  have hn := s.none_at
  have hnx : (nOf h).num < (nOf (hpush h ob)).num := by rw [nOf_push, Pa.num_succ]; omega
  refine ⟨s.place (o := nOf h) (ob := ob) (fun o' hne => by rw [hget_push, if_neg hne]) hn (by rw [hget_push, if_pos rfl]) hnx (Nat.le_of_lt hnx) ho ht hu hz hbz hk hM hap hob, ⟨ho, ht, hu, hz, ?_, Nat.le_of_lt hnx, Env.put_le b hn, ?_, ?_⟩⟩
  · intro k hk'
    rcases Nat.lt_or_ge k w.heap.size with hl | hl
    · exact hk k (fun e => hk' (e ▸ hM)) hl
    · exact absurd (s.fresh k hl) hk'
  · intro o' h0 h1
    unfold Env.put at h1
    split at h1
    · rename_i e; rw [e]; exact Nat.le_refl _
    · exact absurd h0 h1
  · intro o' b' hb' hn'
    unfold Env.put at hb'
    split at hb'
    · cases hb'; exact .inl hM
    · rename_i e; rw [hget_push, if_neg e] at hn'; exact .inr ⟨hb', hn'⟩
/-- A new block. -/
theorem Sim.alloc (s : Sim P G M ρ h w) {b : Loc} {ob : SO} {obj : Obj} (hb : b.block = w.heap.size) (hob : OR P (ρ.put (nOf h) b) ob b (some obj)) :
    Sim P G M (ρ.put (nOf h) b) (hpush h ob) { w with heap := w.heap.push obj } ∧ Grow M ρ h w (ρ.put (nOf h) b) (hpush h ob) { w with heap := w.heap.push obj } := by
  refine s.push rfl rfl rfl (by simp) (by simp [hb]) (fun k hk hl => ?_) (s.fresh _ (by omega)) (fun o' b' hb' _ e => ?_) (by simpa [hb] using hob)
  · show (w.heap.push obj)[k]? = _; rw [Array.getElem?_push, if_neg (by omega)]
  · have := s.size o' b' hb'; omega
end
end Go.Play

/- Play: what the model's small programs do in a world that is known in part; what an operation's effect says of its run. -/
namespace Go.Play
set_option linter.unusedVariables false
set_option linter.unusedSimpArgs false

-- blocks of cells
theorem cell_at {w : World} {b i : Nat} {c : Array Value} {e : TypeId} {fr : Nat × Nat} (h : w.heap[b]? = some (.cells c e fr)) : w.cell? ⟨b, i, none⟩ = c[i]? := by
  simp [World.cell?, h]
theorem add_at (b o i : Nat) : (⟨b, o, none⟩ : Addr).add i = ⟨b, o + i, none⟩ := by
  unfold Addr.add; split
  · rename_i h; subst h; rfl
  · rfl
theorem shape_at {w : World} {b : Nat} {c : Array Value} {e : TypeId} {fr : Nat × Nat} (h : w.heap[b]? = some (.cells c e fr)) : w.shape? b = some (e, c.size) := by
  simp [World.shape?, h]
theorem frozen_at {w : World} {b i : Nat} {c : Array Value} {e : TypeId} (h : w.heap[b]? = some (.cells c e (0, 0))) : w.frozen? ⟨b, i, none⟩ = false := by
  simp [World.frozen?, h]

/-- One block of the world has turned. -/
structure Turn (w w' : World) (b : Nat) (ob : Obj) : Prop where
  os : w'.os = w.os
  tape : w'.tape = w.tape
  output : w'.output = w.output
  size : w'.heap.size = w.heap.size
  other : ∀ k, k ≠ b → w'.heap[k]? = w.heap[k]?
  here : w'.heap[b]? = some ob
theorem Turn.trans {w w' w'' : World} {b : Nat} {ob ob' : Obj} (h : Turn w w' b ob) (k : Turn w' w'' b ob') : Turn w w'' b ob' :=
  ⟨k.os.trans h.os, k.tape.trans h.tape, k.output.trans h.output, k.size.trans h.size, fun i hi => (k.other i hi).trans (h.other i hi), k.here⟩
theorem turn_set {w : World} {b : Nat} {ob : Obj} (h : b < w.heap.size) : Turn w { w with heap := w.heap.setIfInBounds b ob } b ob :=
  ⟨rfl, rfl, rfl, by simp, fun k hk => by simp [Array.getElem?_setIfInBounds_ne (Ne.symm hk)], by simp [h]⟩
theorem lt_of_at {w : World} {b : Nat} {ob : Obj} (h : w.heap[b]? = some ob) : b < w.heap.size := by
  rcases Nat.lt_or_ge b w.heap.size with h' | h'
  · exact h'
  · rw [Array.getElem?_eq_none h'] at h; cases h
theorem turn_setCell {w : World} {b i : Nat} {c : Array Value} {e : TypeId} {fr : Nat × Nat} (h : w.heap[b]? = some (.cells c e fr)) (v : Value) :
    Turn w (w.setCell ⟨b, i, none⟩ v) b (.cells (c.setIfInBounds i v) e fr) := by
  have hlt := lt_of_at h
  refine ⟨rfl, rfl, rfl, by simp [World.setCell], fun k hk => ?_, ?_⟩
  · show (w.heap.modify b _)[k]? = _
    rw [Array.getElem?_modify, if_neg (Ne.symm hk)]
  · show (w.heap.modify b _)[b]? = _
    rw [Array.getElem?_modify, if_pos rfl, h]; rfl

theorem run_storeCells {P : Program} {b o : Nat} {e : TypeId} : ∀ (vs : List Value) (i : Nat) (c : Array Value) (w : World), w.heap[b]? = some (.cells c e (0, 0)) → o + i + vs.length ≤ c.size → (∀ v ∈ vs, v.oneCell' = true) →
    ∃ w' c', (storeCells ⟨b, o, none⟩ vs i).run P w = .ok () w' ∧ Turn w w' b (.cells c' e (0, 0)) ∧ c'.size = c.size ∧ ∀ j, c'[j]? = if o + i ≤ j ∧ j < o + i + vs.length then vs[j - (o + i)]? else c[j]? := by
  intro vs
  induction vs with
  | nil =>
    intro i c w h hs hv
    exact ⟨w, c, rfl, ⟨rfl, rfl, rfl, rfl, fun _ _ => rfl, h⟩, rfl, fun j => by rw [if_neg (by simp only [List.length_nil]; omega)]⟩
  | cons v vs ih =>
    intro i c w h hs hv
    simp only [List.length_cons] at hs
    have hlt : o + i < c.size := by omega
    have h1 : (store ((⟨b, o, none⟩ : Addr).add i) v).run P w = .ok () (w.setCell ⟨b, o + i, none⟩ v) := by
      rw [run_store P w _ v _ (hv v (by simp)), add_at, cell_at h, Array.getElem?_eq_getElem hlt]
      simp only [frozen_at h]; rfl
    have ht := turn_setCell (i := o + i) h v
    obtain ⟨w', c', hr, ht', hz, hc⟩ := ih (i + 1) (c.setIfInBounds (o + i) v) _ ht.here (by simp; omega) (fun x hx => hv x (by simp [hx]))
    refine ⟨w', c', ?_, ht.trans ht', by simpa using hz, fun j => ?_⟩
    · simp only [storeCells, Sem.run_bind, h1, Result.andThen_ok, hr]
    · rw [hc j]
      simp only [List.length_cons]
      by_cases hj : j = o + i
      · subst hj
        rw [if_neg (by omega), if_pos (by omega)]
        simp [hlt]
      · by_cases h2 : o + (i + 1) ≤ j ∧ j < o + (i + 1) + vs.length
        · rw [if_pos h2, if_pos (by omega)]
          obtain ⟨m, hm⟩ : ∃ m, j - (o + i) = m + 1 := ⟨j - (o + i) - 1, by omega⟩
          rw [hm, List.getElem?_cons_succ]; congr 1; omega
        · rw [if_neg h2, if_neg (by omega), Array.getElem?_setIfInBounds_ne (Ne.symm hj)]

-- types
theorem infoO_eq (P : Program) (t : TypeId) : infoO P t = P.types[t]? := by
  show nthI t P.types.toList = _; rw [nthI_eq]; simp
theorem infoO_some {P : Program} {t : TypeId} {i : TypeInfo} (h : infoO P t = some i) : P.info? t = some i := by
  rw [infoO_eq] at h
  have hlt : t < P.types.size := by
    rcases Nat.lt_or_ge t P.types.size with h' | h'
    · exact h'
    · rw [Array.getElem?_eq_none h'] at h; cases h
  show Tables.info? P.toTables t = some i
  unfold Tables.info?
  rw [if_pos hlt]; exact h
theorem sizeO_some {P : Program} {t : TypeId} {n : Nat} (h : sizeO P t = some n) : ∃ i, P.info? t = some i ∧ i.size = n := by
  unfold sizeO at h
  cases hi : infoO P t with
  | none => rw [hi] at h; cases h
  | some i => rw [hi] at h; cases h; exact ⟨i, infoO_some hi, rfl⟩
theorem sizeO_cellsOf {P : Program} {t : TypeId} {n : Nat} (h : sizeO P t = some n) : P.cellsOf t = n := by
  obtain ⟨i, hi, rfl⟩ := sizeO_some h
  show ((P.info? t).map (·.size)).getD 0 = _
  rw [hi]; rfl
theorem zeroO_some {P : Program} {t : TypeId} {z : Value} (h : zeroO P t = some z) : ∃ i, P.info? t = some i ∧ i.zero = some z := by
  unfold zeroO at h
  cases hi : infoO P t with
  | none => rw [hi] at h; cases h
  | some i => rw [hi] at h; exact ⟨i, infoO_some hi, h⟩
theorem undO_some {P : Program} {t : TypeId} {d : TypeDesc} (h : undO P t = some d) : P.underlying t = some d := by
  unfold undO at h
  unfold Program.underlying
  cases hi : infoO P t with
  | none => rw [hi] at h; cases h
  | some i =>
    rw [hi] at h
    rw [infoO_some hi]
    change undD i.desc i.desc P = some d at h
    obtain ⟨desc, str, size, bytes, hp, al, fa, zero, cmp, ms⟩ := i
    cases desc with
    | named n u =>
      change descI (infoO P u) = some d at h
      cases hu : infoO P u with
      | none => rw [hu] at h; cases h
      | some j => rw [hu] at h; show (P.info? u).map _ = _; rw [infoO_some hu]; exact h
    | _ => exact h

section
variable {P : Program} {w : World}
theorem run_und {t : TypeId} {d : TypeDesc} (h : undO P t = some d) : (underlying t).run P w = .ok d w := run_underlying (undO_some h) w
theorem run_info {t : TypeId} {i : TypeInfo} (h : P.info? t = some i) : (typeInfo t).run P w = .ok i w := by simp [typeInfo, h]
theorem run_size {t : TypeId} {n : Nat} (h : sizeO P t = some n) : (sizeOf t).run P w = .ok n w := by
  obtain ⟨i, hi, rfl⟩ := sizeO_some h
  simp [sizeOf, run_info hi]
theorem run_zero {t : TypeId} {z : Value} (h : zeroO P t = some z) : (zeroValue t).run P w = .ok z w := by
  obtain ⟨i, hi, hz⟩ := zeroO_some h
  simp [zeroValue, run_info hi, hz]
theorem run_agg {t : TypeId} {b : Bool} (h : aggT P t = some b) : (isAgg t).run P w = .ok b w := by
  unfold aggT at h
  cases hu : undO P t with
  | none => rw [hu] at h; cases h
  | some d =>
    rw [hu] at h
    change some (aggD d) = some b at h
    cases h
    simp only [isAgg, Sem.run_bind, run_und hu, Result.andThen_ok]
    cases d <;> rfl
theorem still_ok {α : Type} {s : Sem α} {a : α} (h : still P s = .ok a) : s.run P w = .ok a w := by
  induction s with
  | pure b => cases h; rfl
  | mark m k ih => exact ih h
  | program k ih => exact ih P h
  | halt x => cases x <;> cases h
  | _ => cases h
theorem still_panic {α : Type} {s : Sem α} {v : Value} (h : still P s = .panic v) : s.run P w = .halt (.panic v) w := by
  induction s with
  | pure b => cases h
  | mark m k ih => exact ih h
  | program k ih => exact ih P h
  | halt x => cases x <;> cases h; rfl
  | _ => cases h
end

/-- What an effect says of the run of a program that gives a value. -/
def ValOK (P : Program) (G : Glob) (M : Nat → Prop) (ρ : Env) (h : H) (w : World) (r : Result Value) : Eff → Prop
  | .val v h' => ∃ ρ' w' x, r = .ok x w' ∧ VR ρ' v x ∧ Sim P G M ρ' h' w' ∧ Grow M ρ h w ρ' h' w'
  | .panic v => ∃ x, r = .halt (.panic x) w ∧ VR ρ v x
  | .bad => True
  | _ => False
def UnitOK (P : Program) (G : Glob) (M : Nat → Prop) (ρ : Env) (h : H) (w : World) (r : Result Unit) : Eff → Prop
  | .val v h' => ∃ ρ' w', r = .ok () w' ∧ v = undefS ∧ Sim P G M ρ' h' w' ∧ Grow M ρ h w ρ' h' w'
  | .panic v => ∃ x, r = .halt (.panic x) w ∧ VR ρ v x
  | .bad => True
  | _ => False
/-- What an effect says of the run of an operation. -/
def EffOK (P : Program) (G : Glob) (M : Nat → Prop) (ρ : Env) (h : H) (w : World) (r : Result Next) : Eff → Prop
  | .val v h' => ∃ ρ' w', Sim P G M ρ' h' w' ∧ Grow M ρ h w ρ' h' w' ∧ ((∃ x, r = .ok (.value x) w' ∧ VR ρ' v x) ∨ (r = .ok .skip w' ∧ v = undefS))
  | .enter f args => ∃ args' : Array Value, r = .ok (.enter f args') w ∧ VRL ρ args args'.toList
  | .round l args => ∃ (b : Loc) (args' : Array Value), ρ l = some b ∧ r = (Instr.yield b.block args').run P w ∧ VRL ρ args args'.toList
  | .recover => r = .ok .recover w
  | .defer d => ∃ d', r = .ok (.defer d') w ∧ DR ρ d d'
  | .panic v => ∃ x, r = .halt (.panic x) w ∧ VR ρ v x
  | .bad => True

section
variable {P : Program} {G : Glob} {M : Nat → Prop} {ρ : Env} {h : H} {w : World}
theorem ValOK.eff {s : Sem Value} {e : Eff} (k : ValOK P G M ρ h w (s.run P w) e) : EffOK P G M ρ h w ((do pure (Next.value (← s)) : Sem Next).run P w) e := by
  cases e with
  | val v h' =>
    obtain ⟨ρ', w', x, hr, hv, hs, hg⟩ := k
    exact ⟨ρ', w', hs, hg, .inl ⟨x, by simp only [Sem.run_bind, hr, Result.andThen_ok, Sem.run_pure], hv⟩⟩
  | panic v =>
    obtain ⟨x, hr, hv⟩ := k
    exact ⟨x, by simp only [Sem.run_bind, hr, Result.andThen_halt], hv⟩
  | bad => trivial
  | _ => exact k.elim
theorem UnitOK.eff {s : Sem Unit} {e : Eff} (k : UnitOK P G M ρ h w (s.run P w) e) : EffOK P G M ρ h w ((do s; pure Next.skip : Sem Next).run P w) e := by
  cases e with
  | val v h' =>
    obtain ⟨ρ', w', hr, hv, hs, hg⟩ := k
    exact ⟨ρ', w', hs, hg, .inr ⟨by simp only [Sem.run_bind, hr, Result.andThen_ok, Sem.run_pure], hv⟩⟩
  | panic v =>
    obtain ⟨x, hr, hv⟩ := k
    exact ⟨x, by simp only [Sem.run_bind, hr, Result.andThen_halt], hv⟩
  | bad => trivial
  | _ => exact k.elim
/-- A value, and nothing else. -/
theorem ValOK.quiet (s : Sim P G M ρ h w) {v : SV} {x : Value} {r : Result Value} (hr : r = .ok x w) (hv : VR ρ v x) : ValOK P G M ρ h w r (.val v h) :=
  ⟨ρ, w, x, hr, hv, s, .refl⟩
theorem ValOK.bad {r : Result Value} : ValOK P G M ρ h w r .bad := trivial
theorem ValOK.still (s : Sim P G M ρ h w) (q : Sem Value) : ValOK P G M ρ h w (q.run P w) (stillVal P h q) := by
  unfold stillVal
  cases hq : Play.still P q with
  | ok a => exact .quiet s (still_ok hq) (.lit a)
  | panic v => exact ⟨v, still_panic hq, .lit v⟩
  | no => trivial
theorem ValOK.alloc (s : Sim P G M ρ h w) {vs : List SV} {el : TypeId} {own : Bool} {xs : Array Value} {V : SV} {f : Nat → Value} {r : Result Value}
    (hr : r = .ok (f w.heap.size) { w with heap := w.heap.push (.cells xs el) }) (hl : vs.length ≤ xs.size) (hx : ∀ (i : Nat) (v : SV), vs[i]? = some v → ∃ x : Value, xs[i]? = some x ∧ VR ρ v x)
    (hV : ∀ ρ' : Env, Env.le ρ ρ' → ρ' (nOf h) = some ⟨w.heap.size, 0, xs.size, P.cellsOf el⟩ → VR ρ' V (f w.heap.size)) :
    ValOK P G M ρ h w r (.val V (hpush h (.cells vs el own))) := by
  let b : Loc := ⟨w.heap.size, 0, xs.size, P.cellsOf el⟩
  have hle : Env.le ρ (ρ.put (nOf h) b) := Env.put_le b s.none_at
  obtain ⟨hs, hg⟩ := s.alloc (b := b) (ob := .cells vs el own) (obj := .cells xs el) rfl
    (.cells rfl (Nat.zero_mod _) (fun _ => rfl) (by simp [b]) (by simpa [b] using hl) fun i v hi => by
      obtain ⟨x, h1, h2⟩ := hx i v hi
      exact ⟨x, by simpa [b] using h1, h2.mono hle⟩)
  exact ⟨_, _, _, hr, hV _ hle (Env.put_self _ _ _), hs, hg⟩
end
end Go.Play

/- Play: the operations: loads, stores, addresses, parts. -/
namespace Go.Play
set_option linter.unusedVariables false
set_option linter.unusedSimpArgs false
section
variable {P : Program} {G : Glob} {M : Nat → Prop} {ρ : Env} {h : H} {w : World}

theorem cut_cells {vs : List SV} {c : Array Value} {k off n : Nat} {l : List SV} (hv : ∀ (i : Nat) (v : SV), vs[i]? = some v → ∃ x : Value, c[k + i]? = some x ∧ VR ρ v x)
    (hl : takeS n (dropS off vs) = some l) : ∃ xs : List Value, xs.length = n ∧ VRL ρ l xs ∧ ∀ (j : Nat) (v : Value), xs[j]? = some v → c[k + (off + j)]? = some v := by
  obtain ⟨h1, rfl⟩ := takeS_some n hl
  rw [dropS_eq] at h1 ⊢
  simp only [List.length_drop] at h1
  have hlen : k + (off + n) ≤ c.size ∨ n = 0 := by
    rcases Nat.eq_zero_or_pos n with h0 | h0
    · exact .inr h0
    · left
      have hlt : off + (n - 1) < vs.length := by omega
      obtain ⟨x, hx, _⟩ := hv (off + (n - 1)) _ (List.getElem?_eq_getElem hlt)
      rcases Nat.lt_or_ge (k + (off + (n - 1))) c.size with h2 | h2
      · omega
      · rw [Array.getElem?_eq_none h2] at hx; cases hx
  have hxl : ((c.toList.drop (k + off)).take n).length = n := by
    simp only [List.length_take, List.length_drop, Array.length_toList]; omega
  refine ⟨(c.toList.drop (k + off)).take n, hxl, VRL.of_get ?_ ?_, ?_⟩
  · rw [hxl]; simp only [List.length_take, List.length_drop]; omega
  · intro i v hi
    have hin : i < n := by
      rcases Nat.lt_or_ge i n with h2 | h2
      · exact h2
      · rw [List.getElem?_eq_none (by simp; omega)] at hi; cases hi
    rw [List.getElem?_take, if_pos hin, List.getElem?_drop] at hi
    obtain ⟨x, hx, hr⟩ := hv _ _ hi
    refine ⟨x, ?_, hr⟩
    rw [List.getElem?_take, if_pos hin, List.getElem?_drop, Array.getElem?_toList, Nat.add_assoc]; exact hx
  · intro j v hj
    have hin : j < n := by
      rcases Nat.lt_or_ge j n with h2 | h2
      · exact h2
      · rw [List.getElem?_eq_none (by rw [hxl]; exact h2)] at hj; cases hj
    rw [List.getElem?_take, if_pos hin, List.getElem?_drop, Array.getElem?_toList, Nat.add_assoc] at hj
    exact hj
/-- Cells of an object. -/
theorem obj_cells (s : Sim P G M ρ h w) {o : Pa} {b : Loc} {off n : Nat} {l : List SV} (hb : ρ o = some b) (hl : cellsAt (hget h o) off n = some l) :
    ∃ xs : List Value, xs.length = n ∧ VRL ρ l xs ∧ ∀ (j : Nat) (v : Value), xs[j]? = some v → w.cell? ⟨b.block, b.off + off + j, none⟩ = some v := by
  have hlive := s.live o b hb
  cases ho : hget h o with
  | cells vs e own =>
    rw [ho] at hl hlive
    cases hk : w.heap[b.block]? with
    | none => rw [hk] at hlive; cases hlive
    | some ob =>
      rw [hk] at hlive
      cases hlive with
      | cells hs hm hf hr hlen hv =>
        obtain ⟨xs, h1, h2, h3⟩ := cut_cells hv (show takeS n (dropS off vs) = some l from hl)
        exact ⟨xs, h1, h2, fun j v hj => by rw [cell_at hk, Nat.add_assoc]; exact h3 j v hj⟩
  | _ => rw [ho] at hl; cases hl
theorem load_cells (s : Sim P G M ρ h w) {a : SV} {x : Value} {n : Nat} {l : List SV} (ha : VR ρ a x) (hl : loadC a G h n = some l) :
    ∃ bk o, x = .pointer (some ⟨bk, o, none⟩) ∧ ∃ xs : List Value, xs.length = n ∧ VRL ρ l xs ∧ ∀ (j : Nat) (v : Value), xs[j]? = some v → w.cell? ⟨bk, o + j, none⟩ = some v := by
  cases a with
  | ptr o off =>
    cases ha with
    | ptr _ hb =>
      rename_i b
      exact ⟨b.block, b.off + off, rfl, obj_cells s hb hl⟩
  | lit v =>
    cases ha
    cases x with
    | pointer p =>
      cases p with
      | none => cases hl
      | some p =>
        obtain ⟨g, off, spot⟩ := p
        cases spot with
        | some _ => cases hl
        | none =>
          refine ⟨g, off, rfl, ?_⟩
          change globAt (gfind G g) off n = some l at hl
          cases hg : gfind G g with
          | none => rw [hg] at hl; cases hl
          | some cs =>
            rw [hg] at hl
            obtain ⟨_, c, el, fr, hk, hv⟩ := s.globs g cs hg
            obtain ⟨xs, h1, h2, h3⟩ := cut_cells (k := 0) (fun i v hi => by simpa using hv i v hi) (show takeS n (dropS off cs) = some l from hl)
            exact ⟨xs, h1, h2, fun j v hj => by rw [cell_at hk]; simpa using h3 j v hj⟩
    | _ => cases hl
  | _ => cases hl
theorem mkVal_rel {b : Bool} {l : List SV} {V : SV} {xs : List Value} (hl : VRL ρ l xs) (hV : mkVal (some b) l = some V) :
    (b = true ∧ VR ρ V (.agg xs.toArray)) ∨ (b = false ∧ ∃ x, xs = [x] ∧ VR ρ V x) := by
  cases b with
  | true => cases hV; exact .inl ⟨rfl, .agg (by simpa using hl)⟩
  | false =>
    right
    change single l = some V at hV
    cases hl with
    | nil => cases hV
    | cons h t =>
      cases t with
      | nil => cases hV; exact ⟨rfl, _, rfl, h⟩
      | cons _ _ => cases hV
theorem run_loadAt {t : TypeId} {bk o : Nat} {xs : List Value} {b : Bool} (hb : aggT P t = some b) (hn : sizeO P t = some xs.length) (hx : ∀ (j : Nat) (v : Value), xs[j]? = some v → w.cell? ⟨bk, o + j, none⟩ = some v) :
    (b = true → (loadVar t ⟨bk, o, none⟩).run P w = .ok (.agg xs.toArray) w) ∧ (b = false → ∀ x, xs = [x] → (loadVar t ⟨bk, o, none⟩).run P w = .ok x w) := by
  constructor
  · rintro rfl
    have := run_loadCells_list (P := P) w ⟨bk, o, none⟩ xs (fun j v hj => by rw [add_at]; exact hx j v hj)
    simp only [loadVar, Sem.run_bind, run_agg hb, Result.andThen_ok, if_true, run_size hn, this, Sem.run_pure]
  · rintro rfl x rfl
    have h0 := hx 0 x rfl
    simp only [Nat.add_zero] at h0
    simp only [loadVar, Sem.run_bind, run_agg hb, Result.andThen_ok, Bool.false_eq_true, if_false, run_load, h0]
theorem load_ok (s : Sim P G M ρ h w) (ty : TypeId) {a : SV} {x : Value} (ha : VR ρ a x) :
    ValOK P G M ρ h w ((Instr.loadAt ty x).run P w) (loadE (loadN (sizeO P ty) a G h) (aggT P ty) h) := by
  cases hn : sizeO P ty with
  | none => exact .bad
  | some n =>
    change ValOK P G M ρ h w _ (loadE (loadC a G h n) (aggT P ty) h)
    cases hl : loadC a G h n with
    | none => exact .bad
    | some l =>
      obtain ⟨bk, o, rfl, xs, hlen, hrel, hx⟩ := load_cells s ha hl
      change ValOK P G M ρ h w _ (valO (mkVal (aggT P ty) l) h)
      cases hb : aggT P ty with
      | none => exact .bad
      | some b =>
        cases hV : mkVal (some b) l with
        | none => exact .bad
        | some V =>
          obtain ⟨r1, r2⟩ := run_loadAt (b := b) hb (by rw [hn, hlen]) hx
          have e1 : ∀ y, (loadVar ty ⟨bk, o, none⟩).run P w = .ok y w → (Instr.loadAt ty (.pointer (some ⟨bk, o, none⟩))).run P w = .ok y w := fun y hy => by
            simp only [Instr.loadAt, Instr.sureAddr, Sem.run_bind, Sem.run_pure, Result.andThen_ok, hy]
          rcases mkVal_rel hrel hV with ⟨hb', hv⟩ | ⟨hb', y, hy, hv⟩
          · exact .quiet s (e1 _ (r1 hb')) hv
          · exact .quiet s (e1 _ (r2 hb' y hy)) hv

-- stores
theorem store_obj (s : Sim P G M ρ h w) {o : Pa} {b : Loc} {off : Nat} {xs : List SV} {ys : List Value} (hb : ρ o = some b) (hy : VRL ρ xs ys) {K : H → Eff}
    {Q : Eff → Prop} (hbad : Q .bad)
    (hK : ∀ h' w', (storeCells ⟨b.block, b.off + off, none⟩ ys).run P w = .ok () w' → Sim P G M ρ h' w' → Grow M ρ h w ρ h' w' → nOf h' = nOf h → Q (K h')) : Q (storeE h o off xs K) := by
  unfold storeE
  have hlive := s.live o b hb
  cases ho : hget h o with
  | cells vs e own =>
    rw [ho] at hlive
    change Q (store2 (andB own (oneL xs)) vs e h o off xs K)
    rw [andB_eq]
    cases own with
    | false => exact hbad
    | true =>
      cases h1 : oneL xs with
      | false => exact hbad
      | true =>
        change Q (store3 (overAt off xs vs) h o e K)
        cases hv : overAt off xs vs with
        | none => exact hbad
        | some vs' =>
          change Q (putE h o (.cells vs' e true) K)
          rw [putE_eq]
          cases hk : w.heap[b.block]? with
          | none => rw [hk] at hlive; cases hlive
          | some ob =>
            rw [hk] at hlive
            cases hlive with
            | @cells _ _ _ _ c fr hs hm hf hr hlen hvs =>
              obtain rfl : fr = (0, 0) := hf rfl
              have hov := overAt_some off xs hv
              have hyl := hy.length
              obtain ⟨w', c', hrun, ht, hz, hc⟩ := run_storeCells (P := P) (o := b.off + off) ys 0 c w hk (by omega) (oneL_rel hy h1)
              have hput := s.put (w' := w') (ob := .cells vs' e true) hb (by rw [ho]; rfl) ht.os ht.tape ht.output ht.size ht.other (by
                rw [ht.here]
                refine .cells hs hm (fun _ => rfl) (by rw [hz]; exact hr) (by rw [overAt_length hv]; exact hlen) fun i v hi => ?_
                rw [hc]
                rw [overAt_get hv] at hi
                by_cases hin : off ≤ i ∧ i < off + xs.length
                · rw [if_pos hin] at hi
                  rw [if_pos (by omega)]
                  obtain ⟨x, hx, hr⟩ := hy.get _ _ hi
                  exact ⟨x, by rw [← hx]; congr 1; omega, hr⟩
                · rw [if_neg hin] at hi
                  rw [if_neg (by omega)]
                  exact hvs i v hi)
              exact hK _ _ hrun hput.1 hput.2 (nOf_put _ _ _)
  | _ => exact hbad
theorem store_ok (s : Sim P G M ρ h w) (ty : TypeId) {a x : SV} {p y : Value} (ha : VR ρ a p) (hx : VR ρ x y) :
    UnitOK P G M ρ h w ((Instr.storeAt ty p y).run P w) (storeS (sizeO P ty) a h (cellsOf x)) := by
  cases hn : sizeO P ty with
  | none => exact trivial
  | some n =>
    change UnitOK P G M ρ h w _ (storeB (Nat.beq (lenS (cellsOf x)) n) a h (cellsOf x))
    cases hb : Nat.beq (lenS (cellsOf x)) n with
    | false => exact trivial
    | true =>
      have hlen : (cellsOf x).length = n := by have := Nat.eq_of_beq_eq_true hb; rwa [lenS_eq] at this
      change UnitOK P G M ρ h w _ (storeTo a h (cellsOf x))
      cases a with
      | ptr o off =>
        cases ha with
        | ptr _ hb =>
          have hrel := cellsOf_rel hx
          have hsz : y.cells.size = n := by rw [← Array.length_toList, ← hrel.length, hlen]
          refine store_obj (Q := UnitOK P G M ρ h w _) s hb hrel trivial fun h' w' hr hs hg _ => ⟨ρ, w', ?_, rfl, hs, hg⟩
          simp only [Instr.storeAt, Instr.sureAddr, Sem.run_bind, Sem.run_pure, Result.andThen_ok, storeVar, run_size hn, hsz, ne_eq, not_true_eq_false, if_false, hr]
      | _ => exact trivial

-- making a variable
theorem alloc_ok (s : Sim P G M ρ h w) (el : TypeId) : ValOK P G M ρ h w ((Instr.alloc el true (.tuple #[])).run P w) (allocE (zeroO P el) el h) := by
  cases hz : zeroO P el with
  | none => exact .bad
  | some z =>
    change ValOK P G M ρ h w _ (newE h (.cells (litCells z) el true) fun i h => .val (.ptr i 0) h)
    rw [newE_eq]
    have hrel : VRL ρ (litCells z) z.cells.toList := litCells_rel z
    refine .alloc (f := fun k => .pointer (some ⟨k, 0, none⟩)) (xs := z.cells) s ?_ ?_ (fun i v hi => by simpa using hrel.get i v hi) fun ρ' _ hn => .ptr 0 hn
    · simp only [Instr.alloc, Sem.run_bind, run_zero hz, Result.andThen_ok, newVar, newRow, run_newObj, Sem.run_pure]
    · rw [hrel.length]; simp
theorem box_ok (s : Sim P G M ρ h w) (el : TypeId) {x : SV} {y : Value} (hx : VR ρ x y) :
    ValOK P G M ρ h w ((Instr.box el y).run P w) (newE h (.cells (cellsOf x) el true) fun i h => .val (.ptr i 0) h) := by
  rw [newE_eq]
  have hrel := cellsOf_rel hx
  refine .alloc (f := fun k => .pointer (some ⟨k, 0, none⟩)) (xs := y.cells) s ?_ ?_ (fun i v hi => by simpa using hrel.get i v hi) fun ρ' _ hn => .ptr 0 hn
  · simp only [Instr.box, Sem.run_bind, Result.andThen_ok, newVar, newRow, run_newObj, Sem.run_pure]
  · rw [hrel.length]; simp
end
end Go.Play

/- Play: the operations: small ones, parts and places. -/
namespace Go.Play
set_option linter.unusedVariables false
set_option linter.unusedSimpArgs false
section
variable {P : Program} {G : Glob} {M : Nat → Prop} {ρ : Env} {h : H} {w : World}

theorem EffOK.quiet (s : Sim P G M ρ h w) {v : SV} {x : Value} {r : Result Next} (hr : r = .ok (.value x) w) (hv : VR ρ v x) : EffOK P G M ρ h w r (.val v h) :=
  ⟨ρ, w, s, .refl, .inl ⟨x, hr, hv⟩⟩
theorem EffOK.bad {r : Result Next} : EffOK P G M ρ h w r .bad := trivial
theorem boolV_ok {c : SV} {x : Value} (hc : VR ρ c x) {K : Bool → Eff} {Q : Eff → Prop} (hbad : Q .bad) (hK : ∀ b, x = .bool b → Q (K b)) : Q (boolV c K) := by
  cases c with
  | lit v =>
    cases hc
    cases x with
    | bool b => exact hK b rfl
    | _ => exact hbad
  | _ => exact hbad
theorem nilCheck_ok (s : Sim P G M ρ h w) {x : SV} {y : Value} (hx : VR ρ x y) {o : Oper} {ev : Operand → Value} {a : Operand} (ho : o.op = .nilCheck a) (hy : ev a = y) :
    EffOK P G M ρ h w ((execOp ev o).run P w) (nilCheckV x P h) := by
  cases x with
  | ptr o off => cases hx with | ptr _ hb => exact .quiet s (by simp only [execOp, ho, hy, Sem.run_pure]) (.ptr off hb)
  | fn f a b => cases hx with | fn ha hb => exact .quiet s (by simp only [execOp, ho, hy, Sem.run_pure]) (.fn ha hb)
  | yld l => cases hx with | yld hb => exact .quiet s (by simp only [execOp, ho, hy, Sem.run_pure]) (.yld hb)
  | lit v =>
    cases hx
    cases y with
    | pointer p =>
      cases p with
      | some p => exact .quiet s (by simp only [execOp, ho, hy, Sem.run_pure]) (.lit _)
      | none =>
        refine ⟨_, ?_, .lit _⟩
        simp only [execOp, ho, hy]
        rfl
    | _ => exact .bad
  | _ => exact .bad
theorem un_ok (s : Sim P G M ρ h w) (op : UnOp) {x : SV} {y : Value} (hx : VR ρ x y) : ValOK P G M ρ h w ((Op.unary op y).run P w) (un1 x P h op) := by
  cases x with
  | lit v => cases hx; exact .still s _
  | _ => exact .bad
theorem concrete_some {d : Option TypeDesc} (h : concrete d = true) : ∃ t, d = some t ∧ ∀ ms, t ≠ .interface ms := by
  cases d with
  | none => cases h
  | some t => exact ⟨t, rfl, fun ms e => by rw [e] at h; cases h⟩
theorem ifB_ok {b : Bool} {e : Eff} {Q : Eff → Prop} (hbad : Q .bad) (hK : b = true → Q e) : Q (ifB b e) := by
  cases b with
  | false => exact hbad
  | true => exact hK rfl
theorem ifaceV_rel {x : SV} {y : Value} (hx : VR ρ x y) (t : TypeId) : VR ρ (ifaceV x x t) (.iface t y) := by
  cases hx with
  | lit => exact .lit _
  | ptr off h => exact .ifc t (.ptr off h)
  | slc off len cap ex cap' h hc he hr => exact .ifc t (.slc off len cap ex cap' h hc he hr)
  | eslc a c => exact .ifc t (.eslc a c)
  | mapv h => exact .ifc t (.mapv h)
  | fn ha hb => exact .ifc t (.fn ha hb)
  | yld h => exact .ifc t (.yld h)
  | ifc t' h => exact .ifc t (.ifc t' h)
  | agg h => exact .ifc t (.agg h)
  | tup h => exact .ifc t (.tup h)
  | any h => exact .ifc t (.any h)
theorem makeInterface_ok (s : Sim P G M ρ h w) (ty : TypeId) {x : SV} {y : Value} (hx : VR ρ x y) :
    ValOK P G M ρ h w ((Instr.makeInterface ty y).run P w) (ifB (concrete (undO P ty)) (.val (ifaceV x x ty) h)) := by
  refine ifB_ok (Q := ValOK P G M ρ h w _) .bad fun hc => ?_
  obtain ⟨t, ht, hne⟩ := concrete_some hc
  refine .quiet s ?_ (ifaceV_rel hx ty)
  simp only [Instr.makeInterface, Sem.run_bind, run_und ht, Result.andThen_ok]
  cases t <;> first | rfl | exact absurd rfl (hne _)
theorem makeFunc_ok (s : Sim P G M ρ h w) (fn : Fn) {a b : List SV} {a' b' : Array Value} (ha : VRL ρ a a'.toList) (hb : VRL ρ b b'.toList) :
    ValOK P G M ρ h w ((Instr.makeFunc fn a' b').run P w) (makeFn fn h a b) := by
  cases fn with
  | func f => exact .quiet s rfl (.fn ha hb)
  | _ => exact .bad
theorem intS_some {x : SV} {y : Value} (hx : VR ρ x y) (h : intS x = true) : ∃ k z, y = .int k z := by
  cases x with
  | lit v =>
    cases hx
    cases y with
    | int k z => exact ⟨k, z, rfl⟩
    | _ => cases h
  | _ => cases h
theorem mapD_some {d : Option TypeDesc} (h : mapD d = true) : ∃ a b, d = some (.map a b) := by
  unfold mapD at h
  split at h
  · exact ⟨_, _, rfl⟩
  · cases h
theorem makeMap_ok (s : Sim P G M ρ h w) (t : TypeId) (r : Option Operand) {tm : T SV} {f : Operand → Value} (hev : ∀ x, VR ρ (Play.ev x tm) (f x)) : ValOK P G M ρ h w ((Instr.makeMap t (r.map f)).run P w) (makeMap1 r (mapD (undO P t)) tm h) := by
  cases r with
  | some x =>
    change ValOK P G M ρ h w _ (ifB (andB (mapD (undO P t)) (intS (Play.ev x tm))) (newE h (.mapo [] 0 true) fun i h => .val (.mapv i) h))
    refine ifB_ok (Q := ValOK P G M ρ h w _) .bad fun hc => ?_
    have hc2 : mapD (undO P t) = true ∧ intS (Play.ev x tm) = true := by
      cases h1 : mapD (undO P t) <;> cases h2 : intS (Play.ev x tm) <;> rw [h1, h2] at hc <;> first | exact ⟨rfl, rfl⟩ | cases hc
    obtain ⟨a, b', hd⟩ := mapD_some hc2.1
    obtain ⟨k, z, hz⟩ := intS_some (hev x) hc2.2
    rw [newE_eq]
    let b : Loc := ⟨w.heap.size, 0, 0, 0⟩
    obtain ⟨hs, hg⟩ := s.alloc (b := b) (ob := .mapo [] 0 true) (obj := .map #[] 0) rfl (.mapo .nil)
    refine ⟨_, _, _, ?_, .mapv (b := b) (Env.put_self _ _ _), hs, hg⟩
    simp only [Instr.makeMap, Option.map_some, Sem.run_bind, run_und hd, Result.andThen_ok, hz]
    rfl
  | none =>
    change ValOK P G M ρ h w _ (newE h (.mapo [] 0 true) fun i h => .val (.mapv i) h)
    rw [newE_eq]
    let b : Loc := ⟨w.heap.size, 0, 0, 0⟩
    obtain ⟨hs, hg⟩ := s.alloc (b := b) (ob := .mapo [] 0 true) (obj := .map #[] 0) rfl (.mapo .nil)
    exact ⟨_, _, _, rfl, .mapv (b := b) (Env.put_self _ _ _), hs, hg⟩
theorem asN_some {x : SV} {y : Value} {n : Nat} (hx : VR ρ x y) (h : asN x = some n) : ∃ k, y = .int k n := by
  cases x with
  | lit v =>
    cases hx
    cases y with
    | int k z =>
      cases z with
      | ofNat m => cases h; exact ⟨k, rfl⟩
      | negSucc m => cases h
    | _ => cases h
  | _ => cases h
theorem flat_rep (xs : List Value) (hx : xs ≠ [] ) (c : Nat) : ∀ i, i < c * xs.length → (List.replicate c xs).flatten[i]? = xs[i % xs.length]? := by
  have hpos : 0 < xs.length := List.length_pos_iff.2 hx
  induction c with
  | zero => intro i hi; simp at hi
  | succ c ih =>
    intro i hi
    rw [List.replicate_succ, List.flatten_cons]
    by_cases h1 : i < xs.length
    · rw [List.getElem?_append_left h1, Nat.mod_eq_of_lt h1]
    · rw [List.getElem?_append_right (by omega), ih _ (by rw [Nat.add_mul, Nat.one_mul] at hi; omega)]
      rw [show i % xs.length = (i - xs.length) % xs.length from Nat.mod_eq_sub_mod (by omega)]
/-- Zero cells, as the model lays them. -/
theorem zeros_eq (z : Array Value) (c n : Nat) (hn : n = c * z.size) : ((Array.range n).map (z[· % z.size]!)).toList = (List.replicate c z.toList).flatten := by
  apply List.ext_getElem?
  intro i
  by_cases hi : i < n
  · have hz : z.toList ≠ [] := fun e => by
      have : z.size = 0 := by rw [← Array.length_toList, e]; rfl
      rw [this] at hn; simp at hn; omega
    have hp : 0 < z.size := by rw [← Array.length_toList]; exact List.length_pos_iff.2 hz
    rw [flat_rep z.toList hz c i (by rw [Array.length_toList, ← hn]; exact hi)]
    have hm : i % z.size < z.size := Nat.mod_lt _ hp
    rw [Array.length_toList]
    simp [hi, hm]
  · rw [List.getElem?_eq_none (by simp; omega), List.getElem?_eq_none]
    rw [List.length_flatten, List.map_replicate, List.sum_replicate_nat, Array.length_toList]; omega
theorem wrap_small {k : IntKind} (n : Nat) (hn : n ≤ 1000000000) : IntKind.i64.wrap (n : Int) = n := by
  unfold IntKind.wrap
  have : (IntKind.i64.bits) = 64 := rfl
  have e : IntKind.i64.signed = true := rfl
  simp only [this, e, Bool.true_and]
  have h1 : ((n : Int) % 2 ^ 64) = n := Int.emod_eq_of_lt (by omega) (by omega)
  rw [h1]
  rw [if_neg (by simp only [ge_iff_le, decide_eq_true_eq]; omega)]
theorem makeSlice_ok (s : Sim P G M ρ h w) (ty : TypeId) {l c : SV} {l' c' : Value} (hl : VR ρ l l') (hc : VR ρ c c') :
    ValOK P G M ρ h w ((Instr.makeSlice ty l' c').run P w) (makeSlice1 P h ty l c) := by
  unfold makeSlice1
  cases hu : undO P ty with
  | none => exact .bad
  | some d =>
    cases d with
    | slice el =>
      change ValOK P G M ρ h w _ (makeSlice2 (infoO P el) (asN l) (asN c) h el)
      cases hi : infoO P el with
      | none => exact .bad
      | some i =>
        cases hL : asN l with
        | none => exact .bad
        | some L =>
          cases hC : asN c with
          | none => exact .bad
          | some C =>
            unfold makeSlice2
            simp only []
            cases hz : i.zero with
            | none => exact .bad
            | some z =>
              simp only []
              refine ifB_ok (Q := ValOK P G M ρ h w _) .bad fun hk => ?_
              simp only [Bool.and_eq_true, Nat.beq_eq_true_eq, Nat.ble_eq] at hk
              obtain ⟨⟨⟨h1, h2⟩, h3⟩, h4⟩ := hk
              obtain ⟨k, rfl⟩ := asN_some hl hL
              obtain ⟨k', rfl⟩ := asN_some hc hC
              have hinfo := infoO_some hi
              have hrel : VRL ρ (litCells z) z.cells.toList := litCells_rel z
              have hzs : z.cells.size = i.size := by rw [← Array.length_toList, ← hrel.length, ← lenS_eq]; exact Nat.eq_of_beq_eq_true h4
              rw [newE_eq, repS_eq]
              have hs1 : sizeO P el = some i.size := by unfold sizeO; rw [hi]; rfl
              have hz1 : zeroO P el = some z := by unfold zeroO; rw [hi]; exact hz
              have hrr := hrel.flatten_replicate C
              let xs : Array Value := (Array.range (C * i.size)).map ((if C * i.size = 0 then #[] else z.cells)[· % (if C * i.size = 0 then #[] else z.cells).size]!)
              have hxl : xs.toList = (List.replicate C z.cells.toList).flatten := by
                show ((Array.range (C * i.size)).map _).toList = _
                by_cases h0 : C * i.size = 0
                · have e0 : ∀ f : Nat → Value, ((Array.range 0).map f).toList = [] := fun f => by simp
                  rw [if_pos h0, h0, e0]
                  rcases Nat.mul_eq_zero.1 h0 with h5 | h5
                  · rw [h5]; rfl
                  · have : z.cells.toList = [] := List.eq_nil_of_length_eq_zero (by rw [Array.length_toList, hzs, h5])
                    rw [this]; simp
                · rw [if_neg h0]; exact zeros_eq z.cells C _ (by rw [hzs])
              refine .alloc (f := fun k => .slice (some ⟨k, 0, none⟩) L C) (xs := xs) s ?_ ?_ ?_ ?_
              · simp only [Instr.makeSlice, Sem.run_bind, run_und hu, Result.andThen_ok, asInt, asIntOf, Sem.run_pure, run_info hinfo, wrap_small (k := .i64) C (by omega), wrap_small (k := .i64) L (by omega)]
                have hb : (i.bytes : Int) * (C : Int) ≤ 2 ^ 48 := by
                  have : i.bytes * C ≤ 100000 * 100000 := Nat.mul_le_mul h3 h2
                  have : ((i.bytes * C : Nat) : Int) ≤ 10000000000 := by omega
                  rw [Int.natCast_mul] at this; omega
                have hcond : ((decide ((C : Int) < 0) || decide ((i.bytes : Int) * (C : Int) > 2 ^ 48)) || decide ((L : Int) < 0) || decide ((L : Int) > (C : Int))) = false := by
                  simp only [Bool.or_eq_false_iff, decide_eq_false_iff_not]
                  omega
                rw [hcond]
                simp only [Bool.false_eq_true, if_false, Sem.run_bind, run_askRoom, Result.andThen_ok, run_size hs1, Sem.run_pure, Int.toNat_natCast]
                by_cases h0 : C * i.size = 0
                · simp only [xs, h0, if_true, Sem.run_bind, Sem.run_pure, Result.andThen_ok, newRow, run_newObj]
                · simp only [xs, h0, if_false, Sem.run_bind, run_zero hz1, Sem.run_pure, Result.andThen_ok, newRow, run_newObj]
              · rw [hrr.length, ← hxl, Array.length_toList]; exact Nat.le_refl _
              · intro j v hj
                obtain ⟨x, hx, hv⟩ := hrr.get j v hj
                exact ⟨x, by rw [← Array.getElem?_toList, hxl]; exact hx, hv⟩
              · intro ρ' _ hn
                have := VR.slc (ρ := ρ') 0 L C true C hn (Nat.le_refl _) (fun _ => rfl) (fun e => by cases e)
                simpa using this
    | _ => exact .bad
end
end Go.Play

/- Play: the operations: fields, elements, slices. -/
namespace Go.Play
set_option linter.unusedVariables false
set_option linter.unusedSimpArgs false
section
variable {P : Program} {G : Glob} {M : Nat → Prop} {ρ : Env} {h : H} {w : World}

theorem fieldsD_some {d : Option TypeDesc} {f : Nat} {fd : Field} (h : nthD f (fieldsD d) = some fd) : ∃ fs, d = some (.struct fs) ∧ fs[f]? = some fd := by
  cases d with
  | none => rw [nthD_eq] at h; cases h
  | some t =>
    cases t with
    | struct fs => rw [nthD_eq] at h; exact ⟨fs, rfl, by simpa [fieldsD] using h⟩
    | _ => rw [nthD_eq] at h; cases h
theorem fieldAddr_ok (s : Sim P G M ρ h w) (ty : TypeId) {x : SV} {y : Value} (hx : VR ρ x y) (f : Nat) :
    ValOK P G M ρ h w ((Instr.fieldAt ty y f).run P w) (fieldAddr1 x P h ty f) := by
  cases x with
  | ptr o off =>
    cases hx with
    | @ptr _ b _ hb =>
      change ValOK P G M ρ h w _ (fieldA2 (nthD f (fieldsD (undO P ty))) P h o off)
      cases hf : nthD f (fieldsD (undO P ty)) with
      | none => exact .bad
      | some fd =>
        obtain ⟨fs, hu, hfs⟩ := fieldsD_some hf
        change ValOK P G M ρ h w _ (fieldA3 (sizeO P fd.type) h o (off + fd.offset))
        cases hn : sizeO P fd.type with
        | none => exact .bad
        | some n =>
          cases n with
          | zero => exact .bad
          | succ n =>
            refine .quiet s (x := .pointer (some ⟨b.block, b.off + (off + fd.offset), none⟩)) ?_ (.ptr _ hb)
            simp only [Instr.fieldAt, Sem.run_bind, run_und hu, Result.andThen_ok, hfs, Instr.sureAddr, Sem.run_pure, fieldPlace, run_size hn, Nat.succ_ne_zero, if_false, Nat.add_eq_zero_iff, Nat.one_ne_zero, and_false, add_at, Nat.add_assoc]
  | lit v => cases hx; exact .still s _
  | _ => exact .bad
theorem part_ok {t : TypeId} {cs : List SV} {off : Nat} {V : SV} {xs : Array Value} (hV : Play.part P t cs off = some V) (hx : VRL ρ cs xs.toList) :
    ∃ x, (Go.part t xs off).run P w = .ok x w ∧ VR ρ V x := by
  unfold Play.part at hV
  cases hb : aggT P t with
  | none => rw [hb] at hV; cases hV
  | some b =>
    rw [hb] at hV
    cases b with
    | false =>
      change headS (dropS off cs) = some V at hV
      rw [← nthS, nthS_eq] at hV
      obtain ⟨x, h1, h2⟩ := hx.get _ _ hV
      refine ⟨x, ?_, h2⟩
      have h1' : xs[off]? = some x := by simpa using h1
      simp only [Go.part, Sem.run_bind, run_agg hb, Result.andThen_ok, Bool.false_eq_true, if_false, h1', Sem.run_pure]
    | true =>
      cases hn : sizeO P t with
      | none => rw [hn] at hV; cases hV
      | some n =>
        rw [hn] at hV
        change aggS (takeS n (dropS off cs)) = some V at hV
        cases ht : takeS n (dropS off cs) with
        | none => rw [ht] at hV; cases hV
        | some l =>
          rw [ht] at hV; cases hV
          obtain ⟨h1, rfl⟩ := takeS_some n ht
          refine ⟨.agg (xs.extract off (off + n)), ?_, .agg ?_⟩
          · simp only [Go.part, Sem.run_bind, run_agg hb, Result.andThen_ok, if_true, run_size hn, Sem.run_pure]
          · rw [dropS_eq, Array.toList_extract]
            simp only [List.extract_eq_take_drop, Nat.add_sub_cancel_left]
            exact (hx.drop off).take n
theorem aggCells_ok {x : SV} {y : Value} {cs : List SV} (hx : VR ρ x y) (hc : aggCells x = some cs) : ∃ xs : Array Value, y = .agg xs ∧ VRL ρ cs xs.toList := by
  cases x with
  | agg l => cases hc; cases hx with | @agg _ xs h => exact ⟨xs, rfl, h⟩
  | lit v =>
    cases hx
    cases y with
    | agg xs => cases hc; exact ⟨xs, rfl, VRL.lits _⟩
    | _ => cases hc
  | _ => cases hc
theorem field_ok (s : Sim P G M ρ h w) (ty : TypeId) {x : SV} {y : Value} (hx : VR ρ x y) (f : Nat) :
    ValOK P G M ρ h w ((Instr.field ty y f).run P w) (field0 (aggCells x) P h ty f) := by
  cases hc : aggCells x with
  | none => exact .bad
  | some cs =>
    obtain ⟨xs, rfl, hrel⟩ := aggCells_ok hx hc
    change ValOK P G M ρ h w _ (field2 (nthD f (fieldsD (undO P ty))) P h cs)
    cases hf : nthD f (fieldsD (undO P ty)) with
    | none => exact .bad
    | some fd =>
      obtain ⟨fs, hu, hfs⟩ := fieldsD_some hf
      change ValOK P G M ρ h w _ (valO (Play.part P fd.type cs fd.offset) h)
      cases hV : Play.part P fd.type cs fd.offset with
      | none => exact .bad
      | some V =>
        obtain ⟨z, hz, hv⟩ := part_ok (w := w) hV hrel
        refine .quiet s (x := z) ?_ hv
        simp only [Instr.field, Sem.run_bind, run_und hu, Result.andThen_ok, hfs, asAgg, Sem.run_pure, hz]
theorem sliceElem_some {d : Option TypeDesc} {e : TypeId} (h : sliceElem d = some e) : d = some (.slice e) := by
  cases d with
  | none => cases h
  | some t => cases t <;> cases h; rfl
theorem arrD_some {d : Option TypeDesc} {p : Nat × TypeId} (h : arrD d = some p) : d = some (.array p.1 p.2) := by
  cases d with
  | none => cases h
  | some t => cases t <;> cases h; rfl
theorem indexAddr_ok (s : Sim P G M ρ h w) (ty : TypeId) {x i : SV} {y j : Value} (hx : VR ρ x y) (hi : VR ρ i j) :
    ValOK P G M ρ h w ((Instr.indexAt ty y j).run P w) (idx1 x P h ty i) := by
  cases x with
  | slc o off n cap ex =>
    cases hx with
    | @slc _ b _ _ _ _ cap' hb hc he hr =>
      change ValOK P G M ρ h w _ (idxN (asN i) fun i => idxS (sliceElem (undO P ty)) P h o off n i)
      cases hN : asN i with
      | none => exact .bad
      | some i' =>
        obtain ⟨k, rfl⟩ := asN_some hi hN
        change ValOK P G M ρ h w _ (idxS (sliceElem (undO P ty)) P h o off n i')
        cases he' : sliceElem (undO P ty) with
        | none => exact .bad
        | some el =>
          have hu := sliceElem_some he'
          change ValOK P G M ρ h w _ (idxE (Nat.ble (Nat.succ i') n) (sizeO P el) h o off i')
          cases hlt : Nat.ble (Nat.succ i') n with
          | false => exact .bad
          | true =>
            have hlt' : i' < n := Nat.le_of_ble_eq_true hlt
            change ValOK P G M ρ h w _ (idxF (sizeO P el) h o off i')
            cases hn : sizeO P el with
            | none => exact .bad
            | some z =>
              refine .quiet s (x := .pointer (some ⟨b.block, b.off + (off + i' * z), none⟩)) ?_ (.ptr _ hb)
              have h0 : (0 : Int) ≤ (i' : Int) ∧ (i' : Int) < (n : Int) := by omega
              simp only [Instr.indexAt, Sem.run_bind, asIntOf, run_und hu, Result.andThen_ok, Sem.run_pure, h0, and_self, if_true, run_size hn, add_at, Int.toNat_natCast, Nat.add_assoc]
  | ptr o off =>
    cases hx with
    | @ptr _ b _ hb =>
      change ValOK P G M ρ h w _ (idxN (asN i) fun i => idxA (arrD (undO P ty)) P h o off i)
      cases hN : asN i with
      | none => exact .bad
      | some i' =>
        obtain ⟨k, rfl⟩ := asN_some hi hN
        change ValOK P G M ρ h w _ (idxA (arrD (undO P ty)) P h o off i')
        cases he' : arrD (undO P ty) with
        | none => exact .bad
        | some p =>
          have hu := arrD_some he'
          obtain ⟨n, el⟩ := p
          change ValOK P G M ρ h w _ (idxE (Nat.ble (Nat.succ i') n) (sizeO P el) h o off i')
          cases hlt : Nat.ble (Nat.succ i') n with
          | false => exact .bad
          | true =>
            have hlt' : i' < n := Nat.le_of_ble_eq_true hlt
            change ValOK P G M ρ h w _ (idxF (sizeO P el) h o off i')
            cases hn : sizeO P el with
            | none => exact .bad
            | some z =>
              refine .quiet s (x := .pointer (some ⟨b.block, b.off + (off + i' * z), none⟩)) ?_ (.ptr _ hb)
              have h0 : (0 : Int) ≤ (i' : Int) ∧ (i' : Int) < (n : Int) := by omega
              simp only [Instr.indexAt, Instr.sureAddr, Sem.run_bind, asIntOf, run_und hu, Result.andThen_ok, Sem.run_pure, h0, and_self, if_true, run_size hn, add_at, Int.toNat_natCast, Nat.add_assoc]
  | lit v =>
    cases hx
    change ValOK P G M ρ h w _ (idxL (litO i) P h ty y)
    cases i with
    | lit u => cases hi; exact .still s _
    | _ => exact .bad
  | _ => exact .bad
theorem isStr_some {d : Option TypeDesc} (h : isStr d = true) : d = some .string := by
  cases d with
  | none => cases h
  | some t => cases t <;> cases h; rfl
theorem index_agg (s : Sim P G M ρ h w) (ty : TypeId) {cs : List SV} {xs : Array Value} (hx : VRL ρ cs xs.toList) (k : IntKind) (i : Nat) :
    ValOK P G M ρ h w ((Instr.index ty (.agg xs) (.int k i)).run P w) (index2 (arrD (undO P ty)) P h i cs) := by
  cases he' : arrD (undO P ty) with
  | none => exact .bad
  | some p =>
    have hu := arrD_some he'
    obtain ⟨n, el⟩ := p
    refine ifB_ok (Q := ValOK P G M ρ h w _) (e := index4 (sizeO P el) P h el i cs) .bad fun hlt => ?_
    have hlt' : i < n := Nat.le_of_ble_eq_true hlt
    cases hn : sizeO P el with
    | none => exact .bad
    | some z =>
      change ValOK P G M ρ h w _ (valO (Play.part P el cs (i * z)) h)
      cases hV : Play.part P el cs (i * z) with
      | none => exact .bad
      | some V =>
        obtain ⟨y, hy, hv⟩ := part_ok (w := w) hV hx
        refine .quiet s (x := y) ?_ hv
        have h0 : (0 : Int) ≤ (i : Int) ∧ (i : Int) < (n : Int) := by omega
        simp only [Instr.index, Sem.run_bind, asIntOf, run_und hu, Result.andThen_ok, Sem.run_pure, h0, and_self, if_true, run_size hn, Int.toNat_natCast, hy]
theorem index_ok (s : Sim P G M ρ h w) (ty : TypeId) {x i : SV} {y j : Value} (hx : VR ρ x y) (hi : VR ρ i j) :
    ValOK P G M ρ h w ((Instr.index ty y j).run P w) (index1 (asN i) x P h ty) := by
  cases hN : asN i with
  | none => exact .bad
  | some i' =>
    obtain ⟨k, rfl⟩ := asN_some hi hN
    change ValOK P G M ρ h w _ (indexV x P h ty i')
    cases x with
    | agg l => cases hx with | @agg _ xs hl => exact index_agg s ty hl k i'
    | lit v =>
      cases hx
      cases y with
      | agg xs => exact index_agg s ty (VRL.lits _) k i'
      | string str =>
        refine ifB_ok (Q := ValOK P G M ρ h w _) (e := byteO (nthB i' str.data.toList) h) .bad fun hs => ?_
        have hu := isStr_some hs
        cases hb : nthB i' str.data.toList with
        | none => exact .bad
        | some b =>
          rw [nthB_eq] at hb
          refine .quiet s (x := .int .u8 b.toNat) ?_ (.lit _)
          have hlt : i' < str.data.size := by
            rcases Nat.lt_or_ge i' str.data.size with h1 | h1
            · exact h1
            · rw [List.getElem?_eq_none (by simpa using h1)] at hb; cases hb
          have e : str[i']? = some b := by
            have hsz : i' < str.size := hlt
            rw [getElem?_pos str i' hsz]
            rw [List.getElem?_eq_getElem (by simpa using hlt)] at hb
            have e2 : str[i'] = str.data[i'] := by obtain ⟨d⟩ := str; rfl
            rw [e2]; simpa using hb
          have h0 : (0 : Int) ≤ (i' : Int) := by omega
          simp only [Instr.index, Sem.run_bind, asIntOf, run_und hu, Result.andThen_ok, Sem.run_pure, h0, if_true, Int.toNat_natCast, e]
      | _ => exact .bad
    | _ => exact .bad
theorem extract_ok (s : Sim P G M ρ h w) {x : SV} {y : Value} (hx : VR ρ x y) (i : Nat) : ValOK P G M ρ h w ((Instr.extract y i).run P w) (extract1 x h i) := by
  cases x with
  | tup l =>
    cases hx with
    | @tup _ xs hl =>
      change ValOK P G M ρ h w _ (valO (nthS i l) h)
      cases hn : nthS i l with
      | none => exact .bad
      | some V =>
        rw [nthS_eq] at hn
        obtain ⟨z, hz, hv⟩ := hl.get _ _ hn
        have hz' : xs[i]? = some z := by simpa using hz
        exact .quiet s (by simp only [Instr.extract, hz', Sem.run_pure]) hv
  | lit v =>
    cases hx
    cases y with
    | tuple xs =>
      change ValOK P G M ρ h w _ (litE (nthV i xs.toList) h)
      cases hn : nthV i xs.toList with
      | none => exact .bad
      | some z =>
        rw [nthV_eq] at hn
        have hz' : xs[i]? = some z := by simpa using hn
        exact .quiet s (by simp only [Instr.extract, hz', Sem.run_pure]) (.lit z)
    | _ => exact .bad
  | _ => exact .bad
end
end Go.Play

/- Play: the operations: slices of slices, built values. -/
namespace Go.Play
set_option linter.unusedVariables false
set_option linter.unusedSimpArgs false
section
variable {P : Program} {G : Glob} {M : Nat → Prop} {ρ : Env} {h : H} {w : World}

theorem run_bound {k : IntKind} {i y : Nat} (hi : i ≤ y) (c : BoundsCode) : (Instr.sliceBound (.int k i) y c).run P w = .ok i w := by
  have h0 : (0 : Int) ≤ (i : Int) ∧ (i : Int) ≤ (y : Int) := by omega
  simp only [Instr.sliceBound, Sem.run_bind, asIntOf, Sem.run_pure, Result.andThen_ok, h0, and_self, if_true, Int.toNat_natCast]
theorem run_bounds (b : Bool) {len cap l hh m : Nat} {low high max : Option Value} (hl : (low = none ∧ l = 0) ∨ ∃ k, low = some (.int k l))
    (hh' : (high = none ∧ max = none ∧ hh = len) ∨ ∃ k, high = some (.int k hh)) (hm : (max = none ∧ m = cap) ∨ ∃ k, max = some (.int k m)) (h1 : l ≤ hh) (h2 : hh ≤ m) (h3 : m ≤ cap) :
    (Instr.sliceBounds b len cap low high max).run P w = .ok (l, hh, m) w := by
  rcases hm with ⟨rfl, rfl⟩ | ⟨k3, rfl⟩ <;> rcases hh' with ⟨rfl, hx, rfl⟩ | ⟨k2, rfl⟩ <;> rcases hl with ⟨rfl, rfl⟩ | ⟨k1, rfl⟩ <;>
    first
    | (cases hx; done)
    | simp only [Instr.sliceBounds, Sem.run_bind, Sem.run_pure, Result.andThen_ok, run_bound h1, run_bound h2, run_bound h3]
/-- A bound as the evaluator and the model read it. -/
theorem optN_some {x : Option Operand} {d n : Nat} {t : T SV} {ev : Operand → Value} (hev : ∀ x, VR ρ (Play.ev x t) (ev x)) (hx : optN x d t = some n) : (x.map ev = none ∧ x = none ∧ n = d) ∨ ∃ k, x.map ev = some (.int k n) ∧ x ≠ none := by
  cases x with
  | none => cases hx; exact .inl ⟨rfl, rfl, rfl⟩
  | some v => obtain ⟨k, hk⟩ := asN_some (hev v) hx; exact .inr ⟨k, by simp [hk], by simp⟩
theorem optV_some {x : Option Operand} {a : Option Value} {t : T SV} {ev : Operand → Value} (hev : ∀ x, VR ρ (Play.ev x t) (ev x)) (hx : optV x t = some a) : x.map ev = a := by
  cases x with
  | none => cases hx; rfl
  | some v =>
    have hv := hev v
    change someO (litO (Play.ev v t)) = some a at hx
    cases hy : Play.ev v t with
    | lit z => rw [hy] at hx hv; cases hx; cases hv; rfl
    | _ => rw [hy] at hx; cases hx
theorem slcB_some {l hh m : Option Nat} {K : Nat → Nat → Nat → Eff} {Q : Eff → Prop} (hbad : Q .bad) (hK : ∀ a b c, l = some a → hh = some b → m = some c → Q (K a b c)) : Q (slcB l hh m K) := by
  cases l with
  | none => exact hbad
  | some a => cases hh with
    | none => exact hbad
    | some b => cases m with
      | none => exact hbad
      | some c => exact hK a b c rfl rfl rfl
theorem boundsOk_some {hi mx : Option Operand} (h : boundsOk hi mx = true) : hi ≠ none ∨ mx = none := by
  cases hi with
  | some _ => exact .inl (by simp)
  | none => cases mx with
    | none => exact .inr rfl
    | some _ => cases h
theorem elemIs_esz (s : Sim P G M ρ h w) {o : Pa} {b : Loc} {t : TypeId} (hb : ρ o = some b) (he : elemIs (hget h o) t = true) : P.cellsOf t = b.esz := by
  have hlive := s.live o b hb
  cases ho : hget h o with
  | cells vs e own =>
    rw [ho] at he hlive
    have : e = t := Nat.eq_of_beq_eq_true he
    subst this
    cases hk : w.heap[b.block]? with
    | none => rw [hk] at hlive; cases hlive
    | some ob => rw [hk] at hlive; cases hlive with | cells hs => exact hs
  | _ => rw [ho] at he; cases he
theorem slc_ok (s : Sim P G M ρ h w) (ty : TypeId) {x : SV} {y : Value} (hx : VR ρ x y) {t : T SV} {ev : Operand → Value} (hev : ∀ x, VR ρ (Play.ev x t) (ev x)) (lo hi mx : Option Operand) :
    ValOK P G M ρ h w ((Instr.sliceAt ty y (lo.map ev) (hi.map ev) (mx.map ev)).run P w) (slc1 x P t h ty lo hi mx) := by
  cases x with
  | slc o off n cap ex =>
    cases hx with
    | @slc _ b _ _ _ _ cap' hb hc he hr =>
      change ValOK P G M ρ h w _ (slcS P t h o off n cap ex ty lo hi mx)
      unfold slcS
      cases hu : undO P ty with
      | none => exact .bad
      | some d =>
        cases d with
        | slice el =>
          simp only []
          refine ifB_ok (Q := ValOK P G M ρ h w _) .bad fun hbo => ?_
          refine slcB_some (Q := ValOK P G M ρ h w _) .bad fun l hh m hl hhh hm => ?_
          refine ifB_ok (Q := ValOK P G M ρ h w _) .bad fun hle => ?_
          simp only [Bool.and_eq_true, Nat.ble_eq] at hle
          obtain ⟨h1, h2, h3⟩ := hle
          refine ifB_ok (Q := ValOK P G M ρ h w _) .bad fun hok => ?_
          cases hn : sizeO P el with
          | none => exact .bad
          | some size =>
            have run : ∀ m', ((mx = none ∧ m' = cap') ∨ (mx ≠ none ∧ m' = m)) → hh ≤ m' → m' ≤ cap' →
                (Instr.sliceAt ty (.slice (some ⟨b.block, b.off + off, none⟩) n cap') (lo.map ev) (hi.map ev) (mx.map ev)).run P w =
                  .ok (.slice (if m' = l then some ⟨b.block, b.off + off, none⟩ else some ⟨b.block, b.off + (off + l * size), none⟩) (hh - l) (m' - l)) w := by
              intro m' hm' hle1 hle2
              have hb0 := run_bounds (P := P) (w := w) true (len := n) (cap := cap') (l := l) (hh := hh) (m := m') (low := lo.map ev) (high := hi.map ev) (max := mx.map ev)
                (by rcases optN_some hev hl with ⟨q1, _, q2⟩ | ⟨k, q, _⟩
                    · exact .inl ⟨q1, q2⟩
                    · exact .inr ⟨k, q⟩)
                (by rcases optN_some hev hhh with ⟨q1, q2, q3⟩ | ⟨k, q, _⟩
                    · refine .inl ⟨q1, ?_, q3⟩
                      rcases boundsOk_some hbo with q | q
                      · exact absurd q2 q
                      · rw [q]; rfl
                    · exact .inr ⟨k, q⟩)
                (by rcases hm' with ⟨q1, q2⟩ | ⟨q1, q2⟩
                    · exact .inl ⟨by rw [q1]; rfl, q2⟩
                    · rcases optN_some hev hm with ⟨_, q3, _⟩ | ⟨k, q, _⟩
                      · exact absurd q3 q1
                      · exact .inr ⟨k, by rw [q, q2]⟩) h1 hle1 hle2
              simp only [Instr.sliceAt, Instr.slice, Sem.run_bind, run_und hu, Result.andThen_ok, hb0, run_size hn, Sem.run_pure, Option.map_some, add_at, Nat.add_assoc]
            have exq : ∀ (q : Bool), (q = true → m = if mx = none then cap' else m) → ValOK P G M ρ h w ((Instr.sliceAt ty (.slice (some ⟨b.block, b.off + off, none⟩) n cap') (lo.map ev) (hi.map ev) (mx.map ev)).run P w)
                (slcN (some size) true h o off l hh m) ∨ q = false := by
              intro q hq
              cases q with
              | false => exact .inr rfl
              | true =>
                left
                have hq := hq rfl
                have hr0 := run m (by
                  by_cases hmx : mx = none
                  · rw [if_pos hmx] at hq; exact .inl ⟨hmx, hq⟩
                  · exact .inr ⟨hmx, rfl⟩) h2 (Nat.le_trans h3 hc)
                change ValOK P G M ρ h w _ (slcQ (Nat.beq m l) true h o off l hh m size)
                cases hml : Nat.beq m l with
                | true =>
                  have hml' : m = l := Nat.eq_of_beq_eq_true hml
                  rw [if_pos hml'] at hr0
                  exact .quiet s hr0 (.slc off _ _ true _ hb (Nat.le_refl _) (fun _ => rfl) fun e => by cases e)
                | false =>
                  have hml' : m ≠ l := fun e => by rw [e, Nat.beq_refl] at hml; cases hml
                  rw [if_neg hml'] at hr0
                  exact .quiet s hr0 (.slc (off + l * size) _ _ true _ hb (Nat.le_refl _) (fun _ => rfl) fun e => by cases e)
            cases hmx : mx with
            | some v =>
              have : (ex || isSome' (some v)) = true := by cases ex <;> rfl
              rw [this]
              rcases exq true (fun _ => by rw [hmx]; simp) with h4 | h4
              · rw [hmx] at h4; exact h4
              · cases h4
            | none =>
              subst hmx
              have hmc : m = cap := by
                rcases optN_some hev hm with ⟨_, _, q⟩ | ⟨_, _, q⟩
                · exact q
                · exact absurd rfl q
              subst hmc
              cases ex with
              | true =>
                rcases exq true (fun _ => by rw [if_pos rfl, he rfl]) with h4 | h4
                · exact h4
                · cases h4
              | false =>
                change ValOK P G M ρ h w _ (slcQ (Nat.beq m l) false h o off l hh m size)
                have hesz := elemIs_esz s hb (show elemIs (hget h o) el = true from hok)
                rw [sizeO_cellsOf hn] at hesz
                have hr0 := run cap' (.inl ⟨rfl, rfl⟩) (by omega) (Nat.le_refl _)
                cases hml : Nat.beq m l with
                | true =>
                  have hml' : m = l := Nat.eq_of_beq_eq_true hml
                  have h0 : hh - l = 0 := by omega
                  rw [h0] at hr0
                  by_cases hcl : cap' = l
                  · rw [if_pos hcl] at hr0; exact .quiet s hr0 (.eslc _ _)
                  · rw [if_neg hcl] at hr0; exact .quiet s hr0 (.eslc _ _)
                | false =>
                  have hml' : m ≠ l := fun e => by rw [e, Nat.beq_refl] at hml; cases hml
                  rw [if_neg (by omega)] at hr0
                  refine .quiet s hr0 (.slc (off + l * size) _ _ false _ hb (show m - l ≤ cap' - l by omega) (fun e => by cases e) fun _ => ?_)
                  have hr := hr rfl
                  rw [← hesz] at hr ⊢
                  have : l * size + (cap' - l) * size = cap' * size := by rw [← Nat.add_mul]; congr 1; omega
                  omega
        | _ => exact .bad
  | ptr o off =>
    cases hx with
    | @ptr _ b _ hb =>
      change ValOK P G M ρ h w _ (slcA P t h o off ty lo hi mx)
      unfold slcA
      cases hu : undO P ty with
      | none => exact .bad
      | some d =>
        cases d with
        | array n el =>
          simp only []
          refine ifB_ok (Q := ValOK P G M ρ h w _) .bad fun hbo => ?_
          refine slcB_some (Q := ValOK P G M ρ h w _) .bad fun l hh m hl hhh hm => ?_
          refine ifB_ok (Q := ValOK P G M ρ h w _) .bad fun hle => ?_
          simp only [Bool.and_eq_true, Nat.ble_eq] at hle
          obtain ⟨h1, h2, h3⟩ := hle
          cases hn : sizeO P el with
          | none => exact .bad
          | some size =>
            have hb0 := run_bounds (P := P) (w := w) false (len := n) (cap := n) (l := l) (hh := hh) (m := m) (low := lo.map ev) (high := hi.map ev) (max := mx.map ev)
                (by rcases optN_some hev hl with ⟨q1, _, q2⟩ | ⟨k, q, _⟩
                    · exact .inl ⟨q1, q2⟩
                    · exact .inr ⟨k, q⟩)
                (by rcases optN_some hev hhh with ⟨q1, q2, q3⟩ | ⟨k, q, _⟩
                    · refine .inl ⟨q1, ?_, q3⟩
                      rcases boundsOk_some hbo with q | q
                      · exact absurd q2 q
                      · rw [q]; rfl
                    · exact .inr ⟨k, q⟩)
                (by rcases optN_some hev hm with ⟨q3, _, q4⟩ | ⟨k, q, _⟩
                    · exact .inl ⟨q3, q4⟩
                    · exact .inr ⟨k, q⟩) h1 h2 h3
            have hr0 : (Instr.sliceAt ty (.pointer (some ⟨b.block, b.off + off, none⟩)) (lo.map ev) (hi.map ev) (mx.map ev)).run P w =
                  .ok (.slice (some (if m = l then ⟨b.block, b.off + off, none⟩ else ⟨b.block, b.off + (off + l * size), none⟩)) (hh - l) (m - l)) w := by
              simp only [Instr.sliceAt, Instr.sureAddr, Sem.run_bind, run_und hu, Result.andThen_ok, hb0, run_size hn, Sem.run_pure, add_at, Nat.add_assoc]
            change ValOK P G M ρ h w _ (slcQ (Nat.beq m l) true h o off l hh m size)
            cases hml : Nat.beq m l with
            | true =>
              have hml' : m = l := Nat.eq_of_beq_eq_true hml
              rw [if_pos hml'] at hr0
              exact .quiet s hr0 (.slc off _ _ true _ hb (Nat.le_refl _) (fun _ => rfl) fun e => by cases e)
            | false =>
              have hml' : m ≠ l := fun e => by rw [e, Nat.beq_refl] at hml; cases hml
              rw [if_neg hml'] at hr0
              exact .quiet s hr0 (.slc (off + l * size) _ _ true _ hb (Nat.le_refl _) (fun _ => rfl) fun e => by cases e)
        | _ => exact .bad
  | lit v =>
    cases hx
    change ValOK P G M ρ h w _ (slcL P h ty y (optV lo t) (optV hi t) (optV mx t))
    unfold slcL
    cases h1 : optV lo t with
    | none => exact .bad
    | some a => cases h2 : optV hi t with
      | none => exact .bad
      | some b => cases h3 : optV mx t with
        | none => exact .bad
        | some c =>
          rw [optV_some hev h1, optV_some hev h2, optV_some hev h3]
          exact .still s _
  | _ => exact .bad
end
end Go.Play

/- Play: the operations: built values. -/
namespace Go.Play
set_option linter.unusedVariables false
set_option linter.unusedSimpArgs false
section
variable {P : Program} {G : Glob} {M : Nat → Prop} {ρ : Env} {h : H} {w : World}

theorem fold_over (off : Nat) : ∀ (vs : List Value) (k : Nat) (c : Array Value),
    ((vs.zipIdx k).foldl (fun (cs : Array Value) (p : Value × Nat) => cs.setIfInBounds (off + p.2) p.1) c).size = c.size ∧
    ∀ j : Nat, ((vs.zipIdx k).foldl (fun (cs : Array Value) (p : Value × Nat) => cs.setIfInBounds (off + p.2) p.1) c)[j]? = if off + k ≤ j ∧ j < off + k + vs.length ∧ j < c.size then vs[j - (off + k)]? else c[j]? := by
  intro vs
  induction vs with
  | nil => intro k c; exact ⟨rfl, fun j => by rw [if_neg (by simp only [List.length_nil]; omega)]; rfl⟩
  | cons v vs ih =>
    intro k c
    obtain ⟨h1, h2⟩ := ih (k + 1) (c.setIfInBounds (off + k) v)
    simp only [List.zipIdx_cons, List.foldl_cons]
    refine ⟨by rw [h1]; simp, fun j => ?_⟩
    rw [h2]
    simp only [List.length_cons, Array.size_setIfInBounds]
    by_cases hj : j = off + k
    · subst hj
      rw [if_neg (by omega)]
      by_cases hs : off + k < c.size
      · rw [if_pos (by omega)]; simp [hs]
      · rw [if_neg (by omega), Array.getElem?_eq_none (by simpa using hs), Array.getElem?_eq_none (by simpa using hs)]
    · by_cases h3 : off + (k + 1) ≤ j ∧ j < off + (k + 1) + vs.length ∧ j < c.size
      · rw [if_pos h3, if_pos (by omega)]
        obtain ⟨m, hm⟩ : ∃ m, j - (off + k) = m + 1 := ⟨j - (off + k) - 1, by omega⟩
        rw [hm, List.getElem?_cons_succ]; congr 1; omega
      · rw [if_neg h3, if_neg (by omega), Array.getElem?_setIfInBounds_ne (Ne.symm hj)]
theorem fill_ok {t : T SV} {ev : Operand → Value} (hev : ∀ x, VR ρ (Play.ev x t) (ev x)) {place : Nat → Option (Nat × Nat)} : ∀ (l : List (Nat × Operand)) {cells r : List SV} {zs : Array Value}, fill l t place cells = some r → VRL ρ cells zs.toList →
    ∃ ys : Array Value, Instr.fill place zs (l.map fun p => (p.1, ev p.2)) = some ys ∧ VRL ρ r ys.toList := by
  intro l
  induction l with
  | nil => intro cells r zs h k; cases h; exact ⟨zs, rfl, k⟩
  | cons p l ih =>
    intro cells r zs hf hz
    obtain ⟨i, x⟩ := p
    change fill1 (place i) (cellsOf (Play.ev x t)) cells (fill l t place) = some r at hf
    cases hp : place i with
    | none => rw [hp] at hf; cases hf
    | some q =>
      obtain ⟨off, size⟩ := q
      rw [hp] at hf
      change fill2 (Nat.beq (lenS (cellsOf (Play.ev x t))) size) off (cellsOf (Play.ev x t)) cells (fill l t place) = some r at hf
      cases hb : Nat.beq (lenS (cellsOf (Play.ev x t))) size with
      | false => rw [hb] at hf; cases hf
      | true =>
        rw [hb] at hf
        change fill3 (overAt off (cellsOf (Play.ev x t)) cells) (fill l t place) = some r at hf
        cases hov : overAt off (cellsOf (Play.ev x t)) cells with
        | none => rw [hov] at hf; cases hf
        | some cs =>
          rw [hov] at hf
          change fill l t place cs = some r at hf
          have hrel := cellsOf_rel (hev x)
          have hlen : (ev x).cells.size = size := by
            rw [← Array.length_toList, ← hrel.length, ← lenS_eq]; exact Nat.eq_of_beq_eq_true hb
          obtain ⟨h1, _⟩ := overAt_some off _ hov
          have hzl := hz.length
          rw [hrel.length, Array.length_toList, hlen, hzl, Array.length_toList] at h1
          obtain ⟨f1, f2⟩ := fold_over off (ev x).cells.toList 0 zs
          let zs' := ((ev x).cells.toList.zipIdx 0).foldl (fun (cs : Array Value) (p : Value × Nat) => cs.setIfInBounds (off + p.2) p.1) zs
          have hz' : VRL ρ cs zs'.toList := by
            refine VRL.of_get ?_ fun j v hj => ?_
            · rw [overAt_length hov, hzl, Array.length_toList, Array.length_toList]; exact f1.symm
            · have e : zs'.toList[j]? = zs'[j]? := by simp
              rw [e, f2 j]
              rw [overAt_get hov] at hj
              by_cases h2 : off ≤ j ∧ j < off + (cellsOf (Play.ev x t)).length
              · rw [if_pos h2] at hj
                have h2' := h2.2
                rw [hrel.length] at h2'
                rw [if_pos ⟨by omega, by omega, by rw [Array.length_toList, hlen] at h2'; omega⟩]
                exact hrel.get _ _ hj
              · rw [if_neg h2] at hj
                rw [if_neg (by rw [← hrel.length]; omega)]
                obtain ⟨y, hy, hv⟩ := hz.get _ _ hj
                exact ⟨y, by simpa using hy, hv⟩
          obtain ⟨ys, hy1, hy2⟩ := ih hf hz'
          refine ⟨ys, ?_, hy2⟩
          rw [← hy1]
          show Instr.fill place zs ((i, ev x) :: l.map fun p => (p.1, ev p.2)) = _
          rw [Instr.fill, hp]
          simp only [hlen]
          rw [if_neg (by simp; omega)]
          congr 1
          rw [← Array.foldl_toList, Array.toList_zipIdx]
theorem run_mapM {α β : Type} {f : α → Sem β} {g : α → β} : ∀ (l : List α), (∀ a ∈ l, (f a).run P w = .ok (g a) w) → (l.mapM f).run P w = .ok (l.map g) w := by
  intro l
  induction l with
  | nil => intro _; rfl
  | cons a l ih =>
    intro hl
    rw [List.mapM_cons]
    simp only [Sem.run_bind, hl a (by simp), Result.andThen_ok, ih (fun b hb => hl b (by simp [hb])), Sem.run_pure, List.map_cons]
theorem run_mapM_array {α β : Type} {f : α → Sem β} {g : α → β} (l : Array α) (hl : ∀ a ∈ l.toList, (f a).run P w = .ok (g a) w) : (l.mapM f).run P w = .ok (l.map g) w := by
  rw [Array.mapM_eq_mapM_toList]
  simp only [Sem.run_map, run_mapM l.toList hl, Result.andThen_ok]
  congr 1
  apply Array.ext'
  simp
theorem aggE_ok (s : Sim P G M ρ h w) {o : Option (List SV)} {r : Result Value} (hr : ∀ l, o = some l → ∃ ys : Array Value, r = .ok (.agg ys) w ∧ VRL ρ l ys.toList) : ValOK P G M ρ h w r (aggE o h) := by
  cases o with
  | none => exact .bad
  | some l =>
    obtain ⟨ys, h1, h2⟩ := hr l rfl
    exact .quiet s h1 (.agg h2)
theorem build_ok (s : Sim P G M ρ h w) (ty : TypeId) {t : T SV} {ev : Operand → Value} (hev : ∀ x, VR ρ (Play.ev x t) (ev x)) (p : Array (Nat × Operand)) :
    ValOK P G M ρ h w ((Instr.build ty (p.map fun (i, x) => (i, ev x))).run P w) (build1 (zeroO P ty) ty P t h p.toList) := by
  cases hz : zeroO P ty with
  | none => exact .bad
  | some z =>
    change ValOK P G M ρ h w _ (build2 (undO P ty) P t h p.toList (litCells z))
    have hrel : VRL ρ (litCells z) z.cells.toList := litCells_rel z
    have hpl : (p.map fun (i, x) => (i, ev x)).toList = p.toList.map fun q => (q.1, ev q.2) := by simp
    cases hu : undO P ty with
    | none => exact .bad
    | some d =>
      cases d with
      | struct fields =>
        refine ifB_ok (Q := ValOK P G M ρ h w _) (e := aggE (fill p.toList t (fun i => placeF (nthD i fields.toList) P) (litCells z)) h) .bad fun hk => ?_
        have hsz : ∀ f ∈ fields.toList, (sizeO P f.type).isSome = true := fun f hf => List.all_eq_true.1 (show (fields.toList.all fun f => (sizeO P f.type).isSome) = true from hk) f hf
        refine aggE_ok s fun l hl => ?_
        obtain ⟨ys, hy1, hy2⟩ := fill_ok hev p.toList hl hrel
        refine ⟨ys, ?_, hy2⟩
        have hm := run_mapM_array (P := P) (w := w) (f := fun f : Field => (do pure (f.offset, ← sizeOf f.type) : Sem (Nat × Nat))) (g := fun f => (f.offset, P.cellsOf f.type)) fields (fun f hf => by
          have := hsz f hf
          cases hn : sizeO P f.type with
          | none => rw [hn] at this; cases this
          | some n => simp only [Sem.run_bind, run_size hn, Result.andThen_ok, Sem.run_pure, sizeO_cellsOf hn])
        have hplace : (fun i => placeF (nthD i fields.toList) P) = fun i => (fields.map fun f => (f.offset, P.cellsOf f.type))[i]? := by
          funext i
          rw [nthD_eq]
          simp only [Array.getElem?_map, Array.getElem?_toList]
          cases hf : fields[i]? with
          | none => rfl
          | some f =>
            have := hsz f (List.mem_of_getElem? (by simpa using hf))
            show placeN (sizeO P f.type) f.offset = _
            cases hn : sizeO P f.type with
            | none => rw [hn] at this; cases this
            | some n => rw [← sizeO_cellsOf hn]; rfl
        rw [hplace] at hy1
        simp only [Instr.build, Sem.run_bind, run_zero hz, run_und hu, Result.andThen_ok, hm, hpl, hy1, Sem.run_pure]
      | array n el =>
        change ValOK P G M ρ h w _ (build3 (sizeO P el) t h p.toList (litCells z))
        cases hn : sizeO P el with
        | none => exact .bad
        | some size =>
          change ValOK P G M ρ h w _ (aggE (fill p.toList t (placeA size) (litCells z)) h)
          refine aggE_ok s fun l hl => ?_
          obtain ⟨ys, hy1, hy2⟩ := fill_ok hev p.toList hl hrel
          refine ⟨ys, ?_, hy2⟩
          have hplace : placeA size = fun i => some (i * size, size) := rfl
          rw [hplace] at hy1
          simp only [Instr.build, Sem.run_bind, run_zero hz, run_und hu, Result.andThen_ok, run_size hn, hpl, hy1, Sem.run_pure]
      | _ => exact .bad
theorem buildSlice_ok (s : Sim P G M ρ h w) (ty : TypeId) (n : Nat) {t : T SV} {ev : Operand → Value} (hev : ∀ x, VR ρ (Play.ev x t) (ev x)) (p : Array (Nat × Operand)) :
    ValOK P G M ρ h w ((Instr.buildSlice ty n (p.map fun (i, x) => (i, ev x))).run P w) (bslice1 (sliceElem (undO P ty)) n P t h p.toList) := by
  have hpl : (p.map fun (i, x) => (i, ev x)).toList = p.toList.map fun q => (q.1, ev q.2) := by simp
  cases he : sliceElem (undO P ty) with
  | none => exact .bad
  | some el =>
    have hu := sliceElem_some he
    unfold bslice1
    simp only []
    cases hz : zeroO P el with
    | none => exact .bad
    | some z =>
      cases hs : sizeO P el with
      | none => exact .bad
      | some size =>
        unfold bslice2
        simp only []
        refine ifB_ok (Q := ValOK P G M ρ h w _) .bad fun hk => ?_
        simp only [Bool.and_eq_true] at hk
        obtain ⟨k1, k2⟩ := hk
        have k1 : (litCells z).length = size := by rw [← lenS_eq]; exact Nat.eq_of_beq_eq_true k1
        have k2 : n * size ≤ 16777216 := Nat.le_of_ble_eq_true k2
        have hrel : VRL ρ (litCells z) z.cells.toList := litCells_rel z
        have hzs : z.cells.size = size := by rw [← Array.length_toList, ← hrel.length]; exact k1
        cases hf : fill p.toList t (placeA size) (repS n (litCells z)) with
        | none => exact .bad
        | some cs =>
          unfold bslice4
          simp only []
          rw [newE_eq]
          let zs : Array Value := if n * size = 0 then #[] else z.cells
          let xs : Array Value := (Array.range (n * size)).map (zs[· % zs.size]!)
          have hxl : xs.toList = (List.replicate n z.cells.toList).flatten := by
            show ((Array.range (n * size)).map _).toList = _
            by_cases h0 : n * size = 0
            · have e0 : ∀ f : Nat → Value, ((Array.range 0).map f).toList = [] := fun f => by simp
              rw [h0, e0]
              rcases Nat.mul_eq_zero.1 h0 with h5 | h5
              · rw [h5]; rfl
              · have : z.cells.toList = [] := List.eq_nil_of_length_eq_zero (by rw [Array.length_toList, hzs, h5])
                rw [this]; simp
            · have : zs = z.cells := if_neg h0
              rw [this]; exact zeros_eq z.cells n _ (by rw [hzs])
          have hxr : VRL ρ (repS n (litCells z)) xs.toList := by rw [repS_eq, hxl]; exact hrel.flatten_replicate n
          obtain ⟨ys, hy1, hy2⟩ := fill_ok hev p.toList hf hxr
          have hplace : placeA size = fun i => some (i * size, size) := rfl
          rw [hplace] at hy1
          refine .alloc (f := fun k => .slice (some ⟨k, 0, none⟩) n n) (xs := ys) s ?_ ?_ ?_ ?_
          · have hle : ¬ (n * size > 2 ^ 24) := by omega
            simp only [Instr.buildSlice, Sem.run_bind, run_und hu, Result.andThen_ok, run_size hs, hle, if_false]
            by_cases h0 : n * size = 0
            · have : zs = #[] := if_pos h0
              simp only [xs, this] at hy1
              simp only [h0, if_true, Sem.run_bind, Sem.run_pure, Result.andThen_ok, hpl] at hy1 ⊢
              simp only [hy1, Sem.run_bind, newRow, run_newObj, Result.andThen_ok, Sem.run_pure]
            · have : zs = z.cells := if_neg h0
              simp only [xs, this] at hy1
              simp only [h0, if_false, Sem.run_bind, run_zero hz, Sem.run_pure, Result.andThen_ok, hpl, hy1, newRow, run_newObj]
          · rw [hy2.length]; simp
          · intro j v hj
            obtain ⟨x, hx, hv⟩ := hy2.get j v hj
            exact ⟨x, by simpa using hx, hv⟩
          · intro ρ' _ hn
            have := VR.slc (ρ := ρ') 0 n n true n hn (Nat.le_refl _) (fun _ => rfl) (fun e => by cases e)
            simpa using this
end
end Go.Play

/- Play: the operations: append. -/
namespace Go.Play
set_option linter.unusedVariables false
set_option linter.unusedSimpArgs false
section
variable {P : Program} {G : Glob} {M : Nat → Prop} {ρ : Env} {h : H} {w : World}

theorem argT_some {ts : Array TypeId} {t : TypeId} (h : argT ts = some t) : ts[0]? = some t := by
  obtain ⟨l⟩ := ts
  cases l with
  | nil => cases h
  | cons a l => cases h; rfl
theorem argT2_some {ts : Array TypeId} {t : TypeId} (h : argT2 ts = some t) : ts[1]? = some t := by
  obtain ⟨l⟩ := ts
  cases l with
  | nil => cases h
  | cons a l => cases l with
    | nil => cases h
    | cons b l => cases h; rfl
theorem undT_some {t : Option TypeId} {d : TypeDesc} (h : undT t P = some d) : ∃ t', t = some t' ∧ undO P t' = some d := by
  cases t with
  | none => cases h
  | some t => exact ⟨t, rfl, h⟩
theorem bytes_rel (s : ByteArray) : VRL ρ (bytesSV s) (s.data.toList.map fun b => Value.int .u8 b.toNat) := by
  unfold bytesSV
  induction s.data.toList with
  | nil => exact .nil
  | cons b l ih => exact .cons (.lit _) ih
theorem append_run_loads {a : Addr} {xs : List Value} {n : Nat} (hn : xs.length = n) (hx : ∀ (j : Nat) (v : Value), xs[j]? = some v → w.cell? (a.add j) = some v) : (loadCells a n).run P w = .ok xs.toArray w := by
  subst hn; exact run_loadCells_list w a xs hx
/-- What is read of a slice or a string, in any world that holds the same cells. -/
theorem firstCells_ok (s : Sim P G M ρ h w) {x : SV} {y : Value} (hx : VR ρ x y) {size n : Nat} {l : List SV} (hl : sliceC x h size = some l) (hn : lenV x = some n) :
    ∃ ys : Array Value, VRL ρ l ys.toList ∧ ∀ w' : World, w'.heap = w.heap → (Builtin.firstCells size n y).run P w' = .ok ys w' ∧ (Builtin.lenOf y).run P w' = .ok n w' := by
  cases x with
  | slc o off len cap ex =>
    cases hx with
    | @slc _ b _ _ _ _ cap' hb hc he hr =>
      cases hn
      obtain ⟨xs, h1, h2, h3⟩ := obj_cells s hb (show cellsAt (hget h o) off (n * size) = some l from hl)
      refine ⟨xs.toArray, by simpa using h2, fun w' hw => ⟨?_, rfl⟩⟩
      show (loadCells _ (n * size)).run P w' = _
      refine append_run_loads h1 fun j v hj => ?_
      rw [add_at]
      have := h3 j v hj
      unfold World.cell? at this ⊢
      rw [hw]; exact this
  | eslc =>
    cases hx with
    | eslc a c => cases hn; cases hl; exact ⟨#[], .nil, fun w' hw => ⟨by show (loadCells a (0 * size)).run P w' = _; rw [Nat.zero_mul]; rfl, rfl⟩⟩
  | lit v =>
    cases hx
    cases y with
    | slice a len cap =>
      cases a with
      | none =>
        cases len with
        | zero => cases hn; cases hl; exact ⟨#[], .nil, fun w' hw => ⟨rfl, rfl⟩⟩
        | succ k => cases hl
      | some a => cases hl
    | string str =>
      cases hn; cases hl
      refine ⟨str.data.map fun b => .int .u8 b.toNat, ?_, fun w' hw => ⟨?_, rfl⟩⟩
      · rw [Array.toList_map]; exact bytes_rel str
      · have e : str.extract 0 str.size = str := ByteArray.extract_zero_size
        simp only [Builtin.firstCells, e, Sem.run_pure]
    | _ => cases hl
  | _ => cases hl
theorem growBy_le (n : Nat) : ∀ (r c : Nat), c ≤ n + (n + 768) / 4 → Builtin.growBy n r c ≤ n + (n + 768) / 4 := by
  intro r
  induction r with
  | zero => intro c h; exact h
  | succ r ih =>
    intro c h
    unfold Builtin.growBy
    split
    · exact h
    · exact ih _ (by omega)
theorem nextslicecap_le {n c : Nat} (h : c < n) : Builtin.nextslicecap n c ≤ 2 * n + 768 := by
  unfold Builtin.nextslicecap
  split
  · omega
  · split
    · omega
    · have := growBy_le n 4 c (by omega); omega
theorem run_append_new {ts : Array TypeId} {sT xT elem ty : TypeId} {i : TypeInfo} {base : Option Addr} {sLen sCap n : Nat} {x' z : Value} {old' new' : Array Value} {d : TypeDesc}
    (h0 : ts[0]? = some sT) (h1 : ts[1]? = some xT) (hs : undO P sT = some (.slice elem)) (hxT : undO P xT = some d) (hd : noInt (some d) = true) (hi : infoO P elem = some i) (hz : i.zero = some z) (hb : i.bytes ≤ 1048576)
    (hlen : ∀ w' : World, w'.heap = w.heap → (Builtin.lenOf x').run P w' = .ok n w') (hnew : ∀ w' : World, w'.heap = w.heap → (Builtin.firstCells i.size n x').run P w' = .ok new' w')
    (hold : ∀ w' : World, w'.heap = w.heap → (Builtin.firstCells i.size sLen (.slice base sLen sCap)).run P w' = .ok old' w') (hcap : sCap < sLen + n) (hneed : sLen + n ≤ 16777216) :
    ∃ newCap, sLen + n ≤ newCap ∧ (Builtin.append_ ts ty #[.slice base sLen sCap, x']).run P w =
      .ok (.slice (some ⟨w.heap.size, 0, none⟩) (sLen + n) newCap) { w with drawn := w.drawn + 1, heap := w.heap.push (.cells (old' ++ new' ++ Builtin.zeroCells z.cells (newCap - (sLen + n))) elem) } := by
  have hsz : sizeO P elem = some i.size := by unfold sizeO; rw [hi]; rfl
  have hzr : zeroO P elem = some z := by unfold zeroO; rw [hi]; exact hz
  have hzeros : (match d with | .int _ => true | _ => false) = false := by cases d <;> first | rfl | cases hd
  let q : Question := .appendCap (sLen + n) sCap elem
  refine ⟨q.cut (w.tape w.drawn q), ?_, ?_⟩
  · show sLen + n ≤ (sLen + n) + _; omega
  · have hnc := nextslicecap_le hcap
    have e1 : ¬ (sLen + n ≤ sCap) := by omega
    have e3 : ¬ (Builtin.nextslicecap (sLen + n) sCap * i.bytes > 2 ^ 48) := by
      have : Builtin.nextslicecap (sLen + n) sCap * i.bytes ≤ 33555200 * 1048576 := Nat.mul_le_mul (by omega) hb
      omega
    have e2 : ¬ (((sLen + n : Nat) : Int) > IntKind.i64.max) := by
      have : IntKind.i64.max = 9223372036854775807 := by decide
      rw [this]; omega
    have hf : q.forced = false := rfl
    have hw1 := hold { w with drawn := w.drawn + 1 } rfl
    have hw2 := hnew { w with drawn := w.drawn + 1 } rfl
    have hz1 : ∀ w' : World, (zeroValue elem).run P w' = .ok z w' := fun w' => run_zero hzr
    have hl0 := hlen w rfl
    simp only [Builtin.append_, h0, h1, List.getElem?_toArray, List.getElem?_cons_zero, List.getElem?_cons_succ, Sem.run_bind, run_und hs, Result.andThen_ok, run_size hsz, run_und hxT, Sem.run_pure, hzeros, hl0]
    cases d with
    | int k => cases hd
    | _ =>
      simp only [Bool.false_eq_true, if_false, Sem.run_bind, hl0, Result.andThen_ok, e1, e2, e3, false_and, run_info (infoO_some hi), run_choose, hf, run_askRoom, hw1, hw2, hz1, Bool.not_false, if_true, newRow, run_newObj, Sem.run_pure, q]
theorem run_append_fit {ts : Array TypeId} {sT xT elem ty : TypeId} {i : TypeInfo} {a : Addr} {sLen sCap n : Nat} {x' : Value} {new' : Array Value} {d : TypeDesc} {w' : World}
    (h0 : ts[0]? = some sT) (h1 : ts[1]? = some xT) (hs : undO P sT = some (.slice elem)) (hxT : undO P xT = some d) (hd : noInt (some d) = true) (hi : infoO P elem = some i)
    (hlen : (Builtin.lenOf x').run P w = .ok n w) (hnew : (Builtin.firstCells i.size n x').run P w = .ok new' w) (hcap : sLen + n ≤ sCap) (hst : (storeCells (a.add (sLen * i.size)) new'.toList).run P w = .ok () w') :
    (Builtin.append_ ts ty #[.slice (some a) sLen sCap, x']).run P w = .ok (.slice (some a) (sLen + n) sCap) w' := by
  have hsz : sizeO P elem = some i.size := by unfold sizeO; rw [hi]; rfl
  simp only [Builtin.append_, h0, h1, List.getElem?_toArray, List.getElem?_cons_zero, List.getElem?_cons_succ, Sem.run_bind, run_und hs, Result.andThen_ok, run_size hsz, run_und hxT, Sem.run_pure, hlen]
  cases d with
  | int k => cases hd
  | _ =>
    simp only [Bool.false_eq_true, if_false, Sem.run_bind, hlen, Result.andThen_ok, hcap, if_true, hnew, Bool.not_false, hst, Sem.run_pure]
theorem run_append_nil {ts : Array TypeId} {sT xT elem ty : TypeId} {i : TypeInfo} {x' : Value} {new' : Array Value} {d : TypeDesc}
    (h0 : ts[0]? = some sT) (h1 : ts[1]? = some xT) (hs : undO P sT = some (.slice elem)) (hxT : undO P xT = some d) (hd : noInt (some d) = true) (hi : infoO P elem = some i)
    (hlen : (Builtin.lenOf x').run P w = .ok 0 w) (hnew : (Builtin.firstCells i.size 0 x').run P w = .ok new' w) :
    (Builtin.append_ ts ty #[.slice none 0 0, x']).run P w = .ok (.slice none 0 0) w := by
  have hsz : sizeO P elem = some i.size := by unfold sizeO; rw [hi]; rfl
  simp only [Builtin.append_, h0, h1, List.getElem?_toArray, List.getElem?_cons_zero, List.getElem?_cons_succ, Sem.run_bind, run_und hs, Result.andThen_ok, run_size hsz, run_und hxT, Sem.run_pure, hlen]
  cases d with
  | int k => cases hd
  | _ =>
    simp only [Bool.false_eq_true, if_false, Sem.run_bind, hlen, Result.andThen_ok, Nat.add_zero, Nat.le_refl, if_true, hnew, Bool.not_false, Sem.run_pure]

/-- The new row of an append. -/
theorem append_row (s : Sim P G M ρ h w) {cs : List SV} {ys zs : Array Value} {el : TypeId} {need newCap size : Nat} {r : Result Value} (hrel : VRL ρ cs ys.toList) (hle : need ≤ newCap)
    (hys : ys.size = need * size) (hzs : zs.size = (newCap - need) * size) (hes : P.cellsOf el = size)
    (hr : r = .ok (.slice (some ⟨w.heap.size, 0, none⟩) need newCap) { w with drawn := w.drawn + 1, heap := w.heap.push (.cells (ys ++ zs) el) }) :
    ValOK P G M ρ h w r (.val (.slc (nOf h) 0 need need false) (hpush h (.cells cs el true))) := by
  have hs1 : Sim P G M ρ h { w with drawn := w.drawn + 1 } := s.drew rfl
  have hg1 : Grow M ρ h w ρ h { w with drawn := w.drawn + 1 } := .drew rfl rfl rfl rfl
  have hsum : need * size + (newCap - need) * size = newCap * size := by rw [← Nat.add_mul]; congr 1; omega
  have key : ValOK P G M ρ h { w with drawn := w.drawn + 1 } r (.val (.slc (nOf h) 0 need need false) (hpush h (.cells cs el true))) := by
    refine .alloc (f := fun k => .slice (some ⟨k, 0, none⟩) need newCap) (xs := ys ++ zs) hs1 hr ?_ ?_ ?_
    · rw [hrel.length, Array.length_toList, Array.size_append]; omega
    · intro i v hi
      obtain ⟨x, hx, hv⟩ := hrel.get i v hi
      have hlt : i < ys.size := by
        rcases Nat.lt_or_ge i ys.size with h1 | h1
        · exact h1
        · rw [List.getElem?_eq_none (by simpa using h1)] at hx; cases hx
      exact ⟨x, by rw [Array.getElem?_append_left hlt]; simpa using hx, hv⟩
    · intro ρ' _ hn
      have := VR.slc (ρ := ρ') 0 need need false newCap hn hle (fun e => by cases e) (fun _ => by
        show 0 + newCap * P.cellsOf el ≤ (ys ++ zs).size
        rw [hes, Array.size_append, hys, hzs, hsum, Nat.zero_add]; exact Nat.le_refl _)
      simpa using this
  obtain ⟨ρ', w', x, h1, h2, h3, h4⟩ := key
  exact ⟨ρ', w', x, h1, h2, h3, hg1.trans h4⟩
theorem append_ok (s : Sim P G M ρ h w) (ts : Array TypeId) (ty : TypeId) {x y : SV} {x' y' : Value} (hx : VR ρ x x') (hy : VR ρ y y') :
    ValOK P G M ρ h w ((Builtin.append_ ts ty #[x', y']).run P w) (appendOp P h ts x y) := by
  unfold appendOp
  refine ifB_ok (Q := ValOK P G M ρ h w _) .bad fun hni => ?_
  cases hd2 : undT (argT2 ts) P with
  | none => rw [hd2] at hni; cases hni
  | some d =>
    rw [hd2] at hni
    obtain ⟨xT, h1', hxT⟩ := undT_some hd2
    have h1 := argT2_some h1'
    cases hd1 : undT (argT ts) P with
    | none => exact .bad
    | some d1 =>
      obtain ⟨sT, h0', hsT⟩ := undT_some hd1
      have h0 := argT_some h0'
      cases d1 with
      | slice el =>
        change ValOK P G M ρ h w _ (app00 (infoO P el) h x y el)
        cases hi : infoO P el with
        | none => exact .bad
        | some i =>
          refine ifB_ok (Q := ValOK P G M ρ h w _) (e := app1 (sliceC y h i.size) (lenV y) x h i.size el) .bad fun hk => ?_
          cases hz : i.zero with
          | none => rw [hz] at hk; cases hk
          | some z =>
            rw [hz] at hk
            change andB (Nat.beq (lenS (litCells z)) i.size) (Nat.ble i.bytes 1048576) = true at hk
            rw [andB_eq, Bool.and_eq_true] at hk
            have hzl : z.cells.size = i.size := by
              rw [← Array.length_toList, ← (litCells_rel (ρ := ρ) z).length, ← lenS_eq]; exact Nat.eq_of_beq_eq_true hk.1
            have hby : i.bytes ≤ 1048576 := Nat.le_of_ble_eq_true hk.2
            have hsz : sizeO P el = some i.size := by unfold sizeO; rw [hi]; rfl
            have hes : P.cellsOf el = i.size := sizeO_cellsOf hsz
            have hzc : ∀ k, (Builtin.zeroCells z.cells k).size = k * i.size := fun k => by simp [Builtin.zeroCells, hzl]
            cases hl : sliceC y h i.size with
            | none => exact .bad
            | some xs =>
              cases hn : lenV y with
              | none => exact .bad
              | some n =>
                obtain ⟨ys, hrel, hrun⟩ := firstCells_ok s hy hl hn
                refine ifB_ok (Q := ValOK P G M ρ h w _) (e := app2 x h xs n i.size el) .bad fun hxn => ?_
                have hxl : xs.length = n * i.size := by rw [← lenS_eq]; exact Nat.eq_of_beq_eq_true hxn
                have hyl : ys.size = n * i.size := by rw [← Array.length_toList, ← hrel.length]; exact hxl
                cases x with
                | lit v =>
                  cases hx
                  unfold app2
                  change ValOK P G M ρ h w _ (app2v x' h xs n el)
                  unfold app2v
                  split
                  · cases n with
                    | zero => exact .quiet s (run_append_nil h0 h1 hsT hxT hni hi (hrun w rfl).2 (hrun w rfl).1) (.lit _)
                    | succ n =>
                      refine ifB_ok (Q := ValOK P G M ρ h w _) (e := newE h (.cells xs el true) fun i h => .val (.slc i 0 (n + 1) (n + 1) false) h) .bad fun hle => ?_
                      have hle : n + 1 ≤ 16777216 := Nat.le_of_ble_eq_true hle
                      rw [newE_eq]
                      obtain ⟨nc, hnc, hr⟩ := run_append_new (w := w) (ty := ty) (base := none) (sLen := 0) (sCap := 0) (old' := #[]) h0 h1 hsT hxT hni hi hz hby (fun w' hw => (hrun w' hw).2) (fun w' hw => (hrun w' hw).1) (fun w' hw => rfl) (by omega) (by omega)
                      rw [Nat.zero_add] at hnc hr
                      exact append_row s hrel hnc hyl (hzc _) hes (by rw [hr]; simp)
                  · exact .bad
                | slc o off len cap ex =>
                  cases hx with
                  | @slc _ b _ _ _ _ cap' hb hc he hr =>
                    change ValOK P G M ρ h w _ (app3 (Nat.ble (Nat.add len n) cap) h o off len cap ex xs n i.size el)
                    cases hfit : Nat.ble (Nat.add len n) cap with
                    | true =>
                      have hfit : len + n ≤ cap := Nat.le_of_ble_eq_true hfit
                      refine store_obj (Q := ValOK P G M ρ h w _) (ys := ys.toList) s hb hrel .bad fun h' w' hst hs hg hnx => ?_
                      refine ⟨ρ, w', _, run_append_fit h0 h1 hsT hxT hni hi (hrun w rfl).2 (hrun w rfl).1 (Nat.le_trans hfit hc) ?_, .slc off _ _ ex cap' hb hc he hr, hs, hg⟩
                      rw [add_at, Nat.add_assoc]; exact hst
                    | false =>
                      have hnf : cap < len + n := by
                        rcases Nat.lt_or_ge cap (len + n) with h2 | h2
                        · exact h2
                        · have hfit' : Nat.ble (len + n) cap = false := hfit
                          rw [Nat.ble_eq_true_of_le h2] at hfit'; cases hfit'
                      change ValOK P G M ρ h w _ (app4 (cellsAt (hget h o) off (Nat.mul len i.size)) ex h o off len xs n i.size el)
                      cases hold : cellsAt (hget h o) off (Nat.mul len i.size) with
                      | none => exact .bad
                      | some old =>
                        refine ifB_ok (Q := ValOK P G M ρ h w _) (e := app5 ex h o off len old xs n i.size el) .bad fun hle => ?_
                        have hle : len + n ≤ 16777216 := Nat.le_of_ble_eq_true hle
                        obtain ⟨os, ho1, ho2, ho3⟩ := obj_cells s hb hold
                        have hfo : ∀ w' : World, w'.heap = w.heap → (Builtin.firstCells i.size len (.slice (some ⟨b.block, b.off + off, none⟩) len cap')).run P w' = .ok os.toArray w' := fun w' hw => by
                          show (loadCells _ (len * i.size)).run P w' = _
                          refine append_run_loads ho1 fun j v hj => ?_
                          rw [add_at]
                          have := ho3 j v hj
                          unfold World.cell? at this ⊢
                          rw [hw]; exact this
                        have hrel2 : VRL ρ (old ++ xs) (os.toArray ++ ys).toList := by
                          rw [Array.toList_append]; exact ho2.append hrel
                        have hsz2 : (os.toArray ++ ys).size = (len + n) * i.size := by
                          rw [Array.size_append, hyl, List.size_toArray, ho1, Nat.add_mul]; rfl
                        have fresh : cap' < len + n → ∀ h2 : H, Sim P G M ρ h2 w → (nOf h2 = nOf h) →
                            ValOK P G M ρ h2 w ((Builtin.append_ ts ty #[.slice (some ⟨b.block, b.off + off, none⟩) len cap', y']).run P w) (.val (.slc (nOf h2) 0 (len + n) (len + n) false) (hpush h2 (.cells (old ++ xs) el true))) := by
                          intro hlt h2 s2 _
                          obtain ⟨nc, hnc, hr⟩ := run_append_new (w := w) (ty := ty) (base := some ⟨b.block, b.off + off, none⟩) (sLen := len) (sCap := cap') (old' := os.toArray) h0 h1 hsT hxT hni hi hz hby (fun w' hw => (hrun w' hw).2) (fun w' hw => (hrun w' hw).1) hfo hlt hle
                          exact append_row s2 hrel2 hnc hsz2 (hzc _) hes hr
                        cases ex with
                        | true =>
                          change ValOK P G M ρ h w _ (newE h (.cells (appS old xs) el true) fun i h => .val (.slc i 0 (Nat.add len n) (Nat.add len n) false) h)
                          rw [newE_eq, appS_eq]
                          exact fresh (by rw [he rfl]; exact hnf) h s rfl
                        | false =>
                          change ValOK P G M ρ h w _ (app6 (hget h o) h o off len old xs n i.size el)
                          have hlive := s.live o b hb
                          cases hob : hget h o with
                          | cells vs e own =>
                            rw [hob] at hlive
                            cases own with
                            | false => exact .bad
                            | true =>
                              change ValOK P G M ρ h w _ (app8 (andB (Nat.beq e el) (andB (Nat.beq (Nat.mod off i.size) 0) (oneL xs))) h o (Nat.add len n) (appS old xs) el)
                              rw [andB_eq, andB_eq]
                              cases hck : (Nat.beq e el && (Nat.beq (Nat.mod off i.size) 0 && oneL xs)) with
                              | false => exact .bad
                              | true =>
                                simp only [Bool.and_eq_true] at hck
                                obtain ⟨k1, k2, k3⟩ := hck
                                have k1 : e = el := Nat.eq_of_beq_eq_true k1
                                have k2 : off % i.size = 0 := Nat.eq_of_beq_eq_true k2
                                subst k1
                                change ValOK P G M ρ h w _ (putE h o .none fun h => newE h (.cells (appS old xs) e true) fun i h => .val (.slc i 0 (Nat.add len n) (Nat.add len n) false) h)
                                rw [putE_eq, newE_eq, appS_eq]
                                obtain ⟨s2, g2⟩ := s.put (w' := w) (ob := .none) hb (by rw [hob]; rfl) rfl rfl rfl rfl (fun _ _ => rfl) (.none _ _)
                                rcases Nat.lt_or_ge cap' (len + n) with hlt | hge
                                · obtain ⟨ρ', w', v, q1, q2, q3, q4⟩ := fresh hlt _ s2 (nOf_put _ _ _)
                                  exact ⟨ρ', w', v, q1, q2, q3, g2.trans q4⟩
                                · -- in place
                                  have hr := hr rfl
                                  cases hk2 : w.heap[b.block]? with
                                  | none => rw [hk2] at hlive; cases hlive
                                  | some obj =>
                                    rw [hk2] at hlive
                                    cases hlive with
                                    | @cells _ _ _ _ c fr hs hm hf hroom hlen hvs =>
                                      obtain rfl : fr = (0, 0) := hf rfl
                                      have hesz : b.esz = i.size := by rw [← hs]; exact hes
                                      rw [hesz] at hr hm
                                      have hcapm : (len + n) * i.size ≤ cap' * i.size := Nat.mul_le_mul_right _ hge
                                      have hmul : (len + n) * i.size = len * i.size + n * i.size := Nat.add_mul _ _ _
                                      obtain ⟨w', c', hst, ht, hz', hc'⟩ := run_storeCells (P := P) (o := b.off + off + len * i.size) ys.toList 0 c w hk2 (by rw [Array.length_toList, hyl]; omega) (oneL_rel hrel k3)
                                      let b' : Loc := ⟨b.block, b.off + off, b.room - off, i.size⟩
                                      have hn0 := s2.none_at
                                      have hle' : Env.le ρ (ρ.put (nOf (hput h o .none)) b') := Env.put_le b' hn0
                                      have hblt := lt_of_at hk2
                                      obtain ⟨s3, g3⟩ := s2.push (w' := w') (b := b') (ob := .cells (old ++ xs) e true) ht.os ht.tape ht.output (Nat.le_of_eq ht.size.symm) (by rw [ht.size]; exact hblt) (fun k hk _ => ht.other k hk)
                                        (s.mine o b hb (by rw [hob]; rfl))
                                        (fun o' bb hb' hn' e' => by
                                          rw [hget_put] at hn'
                                          split at hn'
                                          · exact absurd rfl hn'
                                          · rename_i hne
                                            exact hne (s.apart o' o bb b hb' hb hn' (by rw [hob]; simp) e'))
                                        (by
                                          rw [show b'.block = b.block from rfl, ht.here]
                                          refine .cells (show P.cellsOf e = i.size from hes) (show (b.off + off) % i.size = 0 by rw [Nat.add_mod, hm, k2]; simp) (fun _ => rfl) (show b.off + off + (b.room - off) ≤ c'.size by rw [hz']; omega) (show (old ++ xs).length ≤ b.room - off by rw [hrel2.length, Array.length_toList, hsz2]; omega) fun j v hj => ?_
                                          show ∃ x, c'[b.off + off + j]? = some x ∧ _
                                          rw [hc']
                                          rw [Array.length_toList, hyl]
                                          have hol : old.length = len * i.size := by rw [ho2.length, ho1]; rfl
                                          by_cases hj2 : j < old.length
                                          · rw [List.getElem?_append_left hj2] at hj
                                            rw [if_neg (by omega)]
                                            obtain ⟨x, hx1, hx2⟩ := ho2.get _ _ hj
                                            have := ho3 j x hx1
                                            rw [cell_at hk2] at this
                                            exact ⟨x, this, hx2.mono hle'⟩
                                          · rw [List.getElem?_append_right (by omega)] at hj
                                            have hlt2 : j - old.length < xs.length := by
                                              rcases Nat.lt_or_ge (j - old.length) xs.length with h2 | h2
                                              · exact h2
                                              · rw [List.getElem?_eq_none h2] at hj; cases hj
                                            rw [hxl] at hlt2
                                            rw [if_pos (by omega)]
                                            obtain ⟨x, hx1, hx2⟩ := hrel.get _ _ hj
                                            exact ⟨x, by rw [← hx1]; congr 1; omega, hx2.mono hle'⟩)
                                      refine ⟨_, w', _, run_append_fit h0 h1 hsT hxT hni hi (hrun w rfl).2 (hrun w rfl).1 hge (by rw [add_at]; exact hst), ?_, s3, g2.trans g3⟩
                                      exact VR.slc (b := b') 0 (len + n) (len + n) false cap' (Env.put_self _ _ _) hge (fun e => by cases e) fun _ => by
                                        show 0 + cap' * i.size ≤ b.room - off
                                        omega
                          | _ => exact .bad
                | _ => exact .bad
      | _ => exact .bad
end
end Go.Play
