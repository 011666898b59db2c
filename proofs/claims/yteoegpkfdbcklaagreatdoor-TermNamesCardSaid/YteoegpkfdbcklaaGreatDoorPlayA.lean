/- Play: plain facts of the evaluator's trees and lists. -/
import Derived.Test.YteoegpkfdbcklaaGreatDoorPlay
namespace Go.Play
set_option linter.unusedVariables false
deriving instance DecidableEq for Pa

-- names
def Pa.num : Pa → Nat
  | .e => 0
  | .l p => 2 * p.num + 1
  | .r p => 2 * p.num + 2
theorem Pa.num_inj : ∀ {p q : Pa}, p.num = q.num → p = q := by
  intro p
  induction p with
  | e => intro q h; cases q <;> simp only [Pa.num] at h <;> first | rfl | omega
  | l p ih => intro q h; cases q with
    | l q => simp only [Pa.num] at h; rw [ih (q := q) (by omega)]
    | e => simp only [Pa.num] at h; omega
    | r q => simp only [Pa.num] at h; omega
  | r p ih => intro q h; cases q with
    | r q => simp only [Pa.num] at h; rw [ih (q := q) (by omega)]
    | e => simp only [Pa.num] at h; omega
    | l q => simp only [Pa.num] at h; omega
theorem Pa.num_succ (p : Pa) : (Pa.succ p).num = p.num + 1 := by
  induction p with
  | e => rfl
  | l p ih => show (Pa.r p).num = _; simp only [Pa.num]
  | r p ih => show (Pa.l (Pa.succ p)).num = _; simp only [Pa.num, ih]; omega
theorem Pa.succ_ne (p : Pa) : Pa.succ p ≠ p := fun h => by have := congrArg Pa.num h; rw [Pa.num_succ] at this; omega
theorem num_paF : ∀ (f n : Nat), n ≤ f → (paF f n).num = n := by
  intro f
  induction f with
  | zero => intro n h; have h0 : n = 0 := by omega
            rw [h0]; rfl
  | succ f ih =>
    intro n h
    cases n with
    | zero => rfl
    | succ k =>
      show (Bool.rec (motive := fun _ => (Nat → Pa) → Nat → Pa) (fun ih k => .r (ih k)) (fun ih k => .l (ih k)) (Nat.beq (Nat.mod k 2) 0) (paF f) (Nat.div k 2)).num = k + 1
      have h2 := ih (k / 2) (by omega)
      have hk : Nat.div k 2 = k / 2 := rfl
      have hm : Nat.mod k 2 = k % 2 := rfl
      rw [hk, hm]
      rcases Nat.mod_two_eq_zero_or_one k with h0 | h0 <;> rw [h0]
      · show (Pa.l (paF f (k / 2))).num = _; simp only [Pa.num, h2]; omega
      · show (Pa.r (paF f (k / 2))).num = _; simp only [Pa.num, h2]; omega
theorem num_pa (n : Nat) : (pa n).num = n := num_paF n n (Nat.le_refl n)
theorem pa_inj {m n : Nat} (h : pa m = pa n) : m = n := by have := congrArg Pa.num h; simpa only [num_pa] using this
theorem Pa.beq_iff : ∀ (p q : Pa), Pa.beq p q = true ↔ p = q := by
  intro p
  induction p with
  | e => intro q; cases q <;> simp [Pa.beq]
  | l p ih => intro q; cases q with
    | l q => show Pa.beq p q = true ↔ _; rw [ih q]; simp
    | e => simp [Pa.beq]
    | r q => simp [Pa.beq]
  | r p ih => intro q; cases q with
    | r q => show Pa.beq p q = true ↔ _; rw [ih q]; simp
    | e => simp [Pa.beq]
    | l q => simp [Pa.beq]

-- trees of slots
def sset' : Pa → SV → T SV → T SV
  | .e, x, .nil => .node x .nil .nil
  | .e, x, .node _ l r => .node x l r
  | .l p, x, .nil => .node undefS (sset' p x .nil) .nil
  | .l p, x, .node v l r => .node v (sset' p x l) r
  | .r p, x, .nil => .node undefS .nil (sset' p x .nil)
  | .r p, x, .node v l r => .node v l (sset' p x r)
theorem sset_eq (p : Pa) : ∀ (x : SV) (t : T SV) (K : T SV → Res), sset p x t K = K (sset' p x t) := by
  induction p with
  | e => intro x t K; cases t <;> rfl
  | l p ih => intro x t K; cases t <;> (simp only [sset']; exact ih _ _ _)
  | r p ih => intro x t K; cases t <;> (simp only [sset']; exact ih _ _ _)
theorem sget_nil (p : Pa) : sget p .nil = undefS := by induction p <;> first | rfl | assumption
theorem sget_set (p : Pa) : ∀ (q : Pa) (x : SV) (t : T SV), sget p (sset' q x t) = if p = q then x else sget p t := by
  induction p with
  | e => intro q x t; cases q <;> cases t <;> rfl
  | l p ih =>
    intro q x t
    cases q with
    | e => cases t <;> rfl
    | l q =>
      have : sget (.l p) (sset' (.l q) x t) = sget p (sset' q x (slt t)) := by cases t <;> rfl
      rw [this, ih]
      by_cases h : p = q
      · rw [if_pos h, if_pos (by rw [h])]
      · rw [if_neg h, if_neg (by simp [h])]; rfl
    | r q =>
      have : sget (.l p) (sset' (.r q) x t) = sget p (slt t) := by cases t <;> rfl
      rw [this, if_neg (by simp)]; rfl
  | r p ih =>
    intro q x t
    cases q with
    | e => cases t <;> rfl
    | r q =>
      have : sget (.r p) (sset' (.r q) x t) = sget p (sset' q x (srt t)) := by cases t <;> rfl
      rw [this, ih]
      by_cases h : p = q
      · rw [if_pos h, if_pos (by rw [h])]
      · rw [if_neg h, if_neg (by simp [h])]; rfl
    | l q =>
      have : sget (.r p) (sset' (.l q) x t) = sget p (srt t) := by cases t <;> rfl
      rw [this, if_neg (by simp)]; rfl
-- trees of objects
def oset' : Pa → SO → T SO → T SO
  | .e, x, .nil => .node x .nil .nil
  | .e, x, .node _ l r => .node x l r
  | .l p, x, .nil => .node .none (oset' p x .nil) .nil
  | .l p, x, .node v l r => .node v (oset' p x l) r
  | .r p, x, .nil => .node .none .nil (oset' p x .nil)
  | .r p, x, .node v l r => .node v l (oset' p x r)
theorem oset_eq {R : Type} (p : Pa) : ∀ (x : SO) (t : T SO) (K : T SO → R), oset p x t K = K (oset' p x t) := by
  induction p with
  | e => intro x t K; cases t <;> rfl
  | l p ih => intro x t K; cases t <;> (simp only [oset']; exact ih _ _ _)
  | r p ih => intro x t K; cases t <;> (simp only [oset']; exact ih _ _ _)
theorem oget_set (p : Pa) : ∀ (q : Pa) (x : SO) (t : T SO), oget p (oset' q x t) = if p = q then x else oget p t := by
  induction p with
  | e => intro q x t; cases q <;> cases t <;> rfl
  | l p ih =>
    intro q x t
    cases q with
    | e => cases t <;> rfl
    | l q =>
      have : oget (.l p) (oset' (.l q) x t) = oget p (oset' q x (olt t)) := by cases t <;> rfl
      rw [this, ih]
      by_cases h : p = q
      · rw [if_pos h, if_pos (by rw [h])]
      · rw [if_neg h, if_neg (by simp [h])]; rfl
    | r q =>
      have : oget (.l p) (oset' (.r q) x t) = oget p (olt t) := by cases t <;> rfl
      rw [this, if_neg (by simp)]; rfl
  | r p ih =>
    intro q x t
    cases q with
    | e => cases t <;> rfl
    | r q =>
      have : oget (.r p) (oset' (.r q) x t) = oget p (oset' q x (ort t)) := by cases t <;> rfl
      rw [this, ih]
      by_cases h : p = q
      · rw [if_pos h, if_pos (by rw [h])]
      · rw [if_neg h, if_neg (by simp [h])]; rfl
    | l q =>
      have : oget (.r p) (oset' (.l q) x t) = oget p (ort t) := by cases t <;> rfl
      rw [this, if_neg (by simp)]; rfl
theorem oget_nil (p : Pa) : oget p .nil = .none := by induction p <;> first | rfl | assumption
-- the heap
def hput (h : H) (i : Pa) (o : SO) : H := match h with | .mk n ob => .mk n (oset' i o ob)
noncomputable def hpush (h : H) (o : SO) : H := match h with | .mk n ob => .mk (Pa.succ n) (oset' n o ob)
theorem newE_eq (h : H) (o : SO) (K : Pa → H → Eff) : newE h o K = K (nOf h) (hpush h o) := by cases h; exact oset_eq _ _ _ _
theorem putE_eq (h : H) (i : Pa) (o : SO) (K : H → Eff) : putE h i o K = K (hput h i o) := by cases h; exact oset_eq _ _ _ _
theorem newR_eq (h : H) (o : SO) (K : Pa → H → Res) : newR h o K = K (nOf h) (hpush h o) := by cases h; exact oset_eq _ _ _ _
theorem putR_eq (h : H) (i : Pa) (o : SO) (K : H → Res) : putR h i o K = K (hput h i o) := by cases h; exact oset_eq _ _ _ _
theorem hget_put (h : H) (i o : Pa) (ob : SO) : hget (hput h i ob) o = if o = i then ob else hget h o := by cases h; exact oget_set _ _ _ _
theorem hget_push (h : H) (o : Pa) (ob : SO) : hget (hpush h ob) o = if o = nOf h then ob else hget h o := by cases h; exact oget_set _ _ _ _
theorem nOf_put (h : H) (i : Pa) (ob : SO) : nOf (hput h i ob) = nOf h := by cases h; rfl
theorem nOf_push (h : H) (ob : SO) : nOf (hpush h ob) = Pa.succ (nOf h) := by cases h; rfl

-- lists
theorem andB_eq (a b : Bool) : andB a b = (a && b) := by cases a <;> rfl
theorem notB_eq (b : Bool) : notB b = !b := by cases b <;> rfl
theorem lenS_eq (l : List SV) : lenS l = l.length := by
  induction l with
  | nil => rfl
  | cons x l ih => show Nat.succ (lenS l) = _; rw [ih]; rfl
theorem dropS_eq (n : Nat) : ∀ l : List SV, dropS n l = l.drop n := by
  induction n with
  | zero => intro l; rfl
  | succ n ih => intro l; cases l with
    | nil => rfl
    | cons x l => show dropS n l = _; rw [ih]; rfl
theorem headS_eq (l : List SV) : headS l = l[0]? := by cases l <;> rfl
theorem nthS_eq (n : Nat) (l : List SV) : nthS n l = l[n]? := by
  show headS (dropS n l) = _; rw [headS_eq, dropS_eq]; simp
theorem takeS_some (n : Nat) : ∀ {l r : List SV}, takeS n l = some r → n ≤ l.length ∧ r = l.take n := by
  induction n with
  | zero => intro l r h; cases h; simp
  | succ n ih => intro l r h; cases l with
    | nil => cases h
    | cons x l =>
      change consS (takeS n l) x = some r at h
      cases ht : takeS n l with
      | none => rw [ht] at h; cases h
      | some q => rw [ht] at h; cases h; obtain ⟨h1, h2⟩ := ih ht; subst h2; simp; omega
theorem appS_eq (l : List SV) : ∀ m, appS l m = l ++ m := by
  induction l with
  | nil => intro m; rfl
  | cons x l ih => intro m; show x :: appS l m = _; rw [ih]; rfl
theorem appD_eq (l : List SDef) : ∀ m, appD l m = l ++ m := by
  induction l with
  | nil => intro m; rfl
  | cons x l ih => intro m; show x :: appD l m = _; rw [ih]; rfl
theorem appM_eq (l m : List (SV × SV × Nat)) : appM l m = l ++ m := by
  induction l with
  | nil => rfl
  | cons x l ih => show x :: appM l m = _; rw [ih]; rfl
theorem overS_some (xs : List SV) : ∀ {l r : List SV}, overS xs l = some r → xs.length ≤ l.length ∧ r = xs ++ l.drop xs.length := by
  induction xs with
  | nil => intro l r h; cases h; simp
  | cons x xs ih => intro l r h; cases l with
    | nil => cases h
    | cons y l =>
      change consS (overS xs l) x = some r at h
      cases ht : overS xs l with
      | none => rw [ht] at h; cases h
      | some q => rw [ht] at h; cases h; obtain ⟨h1, h2⟩ := ih ht; subst h2; simp; omega
theorem overAt_some (off : Nat) (xs : List SV) : ∀ {l r : List SV}, overAt off xs l = some r → off + xs.length ≤ l.length ∧ r = l.take off ++ xs ++ l.drop (off + xs.length) := by
  induction off with
  | zero => intro l r h; have := overS_some xs (show overS xs l = some r from h); simpa using this
  | succ off ih => intro l r h; cases l with
    | nil => cases h
    | cons y l =>
      change consS (overAt off xs l) y = some r at h
      cases ht : overAt off xs l with
      | none => rw [ht] at h; cases h
      | some q =>
        rw [ht] at h; cases h; obtain ⟨h1, h2⟩ := ih ht; subst h2
        refine ⟨by simp; omega, ?_⟩
        have : off + 1 + xs.length = (off + xs.length) + 1 := by omega
        rw [this]; simp
/-- What lies at a place of a list that was written over. -/
theorem overAt_get {off : Nat} {xs l r : List SV} (h : overAt off xs l = some r) (i : Nat) :
    r[i]? = if off ≤ i ∧ i < off + xs.length then xs[i - off]? else l[i]? := by
  obtain ⟨h1, rfl⟩ := overAt_some off xs h
  by_cases h2 : i < off
  · rw [if_neg (by omega), List.append_assoc, List.getElem?_append_left (by simp; omega)]
    simp [h2]
  · by_cases h3 : i < off + xs.length
    · rw [if_pos (by omega), List.append_assoc, List.getElem?_append_right (by simp; omega), List.getElem?_append_left (by simp; omega)]
      simp; congr 1; omega
    · rw [if_neg (by omega), List.append_assoc, List.getElem?_append_right (by simp; omega), List.getElem?_append_right (by simp; omega)]
      simp; congr 1; omega
theorem overAt_length {off : Nat} {xs l r : List SV} (h : overAt off xs l = some r) : r.length = l.length := by
  obtain ⟨h1, rfl⟩ := overAt_some off xs h
  simp; omega
theorem repS_eq (n : Nat) (l : List SV) : repS n l = (List.replicate n l).flatten := by
  induction n with
  | zero => rfl
  | succ n ih => show appS l (repS n l) = _; rw [appS_eq, ih, List.replicate_succ, List.flatten_cons]
theorem nthV_eq (n : Nat) : ∀ l : List Value, nthV n l = l[n]? := by
  induction n with
  | zero => intro l; cases l <;> rfl
  | succ n ih => intro l; cases l with
    | nil => rfl
    | cons x l => show nthV n l = _; rw [ih]; rfl
theorem nthB_eq (n : Nat) : ∀ l : List UInt8, nthB n l = l[n]? := by
  induction n with
  | zero => intro l; cases l <;> rfl
  | succ n ih => intro l; cases l with
    | nil => rfl
    | cons x l => show nthB n l = _; rw [ih]; rfl
theorem nthI_eq (n : Nat) : ∀ l : List TypeInfo, nthI n l = l[n]? := by
  induction n with
  | zero => intro l; cases l <;> rfl
  | succ n ih => intro l; cases l with
    | nil => rfl
    | cons x l => show nthI n l = _; rw [ih]; rfl
theorem nthF_eq (n : Nat) : ∀ l : List Func, nthF n l = l[n]? := by
  induction n with
  | zero => intro l; cases l <;> rfl
  | succ n ih => intro l; cases l with
    | nil => rfl
    | cons x l => show nthF n l = _; rw [ih]; rfl
theorem nthD_eq (n : Nat) : ∀ l : List Field, nthD n l = l[n]? := by
  induction n with
  | zero => intro l; cases l <;> rfl
  | succ n ih => intro l; cases l with
    | nil => rfl
    | cons x l => show nthD n l = _; rw [ih]; rfl
theorem nthO_eq (n : Nat) : ∀ l : List Oper, nthO n l = l[n]? := by
  induction n with
  | zero => intro l; cases l <;> rfl
  | succ n ih => intro l; cases l with
    | nil => rfl
    | cons x l => show nthO n l = _; rw [ih]; rfl

-- tables
theorem funcO_eq (P : Program) (f : FuncId) : funcO P f = P.funcs[f]? := by
  show nthF f P.funcs.toList = _; rw [nthF_eq]; simp
end Go.Play
