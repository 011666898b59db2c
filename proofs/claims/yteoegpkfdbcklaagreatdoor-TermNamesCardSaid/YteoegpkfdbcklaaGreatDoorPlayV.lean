/- Play: regions that draw their order: what light operations do at any time; heaps that are dimmed. -/
import Derived.Test.YteoegpkfdbcklaaGreatDoorPlayU
namespace Go.Play
set_option linter.unusedVariables false
set_option linter.unusedSimpArgs false

theorem oget_one (o p : Pa) (ob : SO) : oget p (one o ob) = if p = o then ob else .none := by
  induction o generalizing p with
  | e => cases p with
    | e => rfl
    | l p => rw [if_neg (by simp)]; exact oget_nil p
    | r p => rw [if_neg (by simp)]; exact oget_nil p
  | l o ih => cases p with
    | e => rfl
    | l p => show oget p (one o ob) = _; rw [ih]; by_cases h : p = o
             · rw [if_pos h, if_pos (by rw [h])]
             · rw [if_neg h, if_neg (by simp [h])]
    | r p => rw [if_neg (by simp)]; exact oget_nil p
  | r o ih => cases p with
    | e => rfl
    | r p => show oget p (one o ob) = _; rw [ih]; by_cases h : p = o
             · rw [if_pos h, if_pos (by rw [h])]
             · rw [if_neg h, if_neg (by simp [h])]
    | l p => rw [if_neg (by simp)]; exact oget_nil p
theorem nOf_small (q : Option Pa) (h : H) : nOf (smallH q h) = nOf h := by cases q <;> rfl
theorem hget_small (q : Option Pa) (h : H) (p : Pa) : hget (smallH q h) p = match q with | some o => if p = o then dimO false (hget h o) else .none | none => .none := by
  cases q with
  | none => exact oget_nil p
  | some o => exact oget_one o p _

section
variable {P : Program} {G : Glob} {M : Nat → Prop} {ρ : Env} {h : H} {w : World}

/-- The names of known package variables' values lie below a bound. -/
def GS (G : Glob) (N : Nat) : Prop := ∀ g cs, gfind G g = some cs → ∀ (i : Nat) (v : SV), cs[i]? = some v → NS N v
theorem Sim.gs (s : Sim P G M ρ h w) : GS G (nOf h).num := by
  intro g cs hg i v hv
  obtain ⟨_, c, el, fr, _, h2⟩ := s.globs g cs hg
  obtain ⟨x, _, hx⟩ := h2 i v hv
  exact hx.ns s.dom
/-- The world as a light operation sees it. -/
theorem Sim.small (s : Sim P G M ρ h w) {hj : H} (q : Option Pa) (hg : GS G (nOf hj).num) (hq : ∀ o, q = some o → hget h o = hget hj o ∧ OS P (nOf hj).num (hget hj o)) :
    Sim P G (fun k => w.heap.size ≤ k) (ρ.below (nOf hj).num) (smallH q hj) w := by
  have hm : ∀ o, mineO (hget (smallH q hj) o) = false := by
    intro o
    rw [hget_small]
    cases q with
    | none => rfl
    | some o' =>
      simp only []
      split
      · exact mineO_dim _ _
      · rfl
  have hone : ∀ o, hget (smallH q hj) o ≠ .none → q = some o := by
    intro o ho
    rw [hget_small] at ho
    cases q with
    | none => exact absurd rfl ho
    | some o' =>
      simp only [] at ho
      split at ho
      · rename_i e; rw [e]
      · exact absurd rfl ho
  refine ⟨fun o b hb => ?_, fun o b hb => s.size o b (below_dom hb).2, fun o b hb => by rw [nOf_small]; exact (below_dom hb).1, fun o o' b b' hb hb' ho ho' _ => ?_, fun o b hb hmo => ?_, fun k hk => hk, fun g cs hgf => ?_⟩
  · rw [hget_small]
    cases q with
    | none => exact .none _ _
    | some o' =>
      simp only []
      split
      · rename_i e
        subst e
        obtain ⟨h1, h2⟩ := hq o rfl
        have := s.live o b (below_dom hb).2
        rw [h1] at this
        exact h2 _ _ _ this
      · exact .none _ _
  · have e1 := hone o ho
    have e2 := hone o' ho'
    rw [e1] at e2; cases e2; rfl
  · rw [hm] at hmo; cases hmo
  · obtain ⟨_, c, el, fr, h1, h2⟩ := s.globs g cs hgf
    have hlt := lt_of_at h1
    refine ⟨by omega, c, el, fr, h1, fun i v hv => ?_⟩
    obtain ⟨x, hx, hvx⟩ := h2 i v hv
    exact ⟨x, hx, hg g cs hgf i v hv _ _ hvx⟩

def evalT (ts : Array Value) : Operand → Value
  | .tmp t => ts.getD t undef
  | .const v => v
  | .global g => .pointer (some ⟨g, 0, none⟩)
  | .func f => .func (.func f) #[] #[]
theorem eval_eq (fr : Frame) : fr.eval = evalT fr.tmps := by funext x; cases x <;> rfl
theorem evalT_rel {tm : T SV} {ts : Array Value} (ht : TR ρ tm ts) (x : Operand) : VR ρ (ev x tm) (evalT ts x) :=
  ev_rel ht (fun _ => rfl) (fun _ => rfl) (fun _ => rfl) (fun _ => rfl) x

/-- What a light operation that was told in the heap hj does later, in a world whose heap is h: it makes a value, and at most one block. -/
theorem light_run (s : Sim P G M ρ h w) {hj : H} {o : Oper} {tmj : T SV} {ts : Array Value} (hsl : ∀ t ∈ tmpsOf o.op, VR ρ (sget (pa t) tmj) (ts.getD t undef)) (hns : ∀ t ∈ tmpsOf o.op, NS (nOf hj).num (sget (pa t) tmj))
    (hg : GS G (nOf hj).num) (hq : ∀ q, readsO o.op tmj = some q → hget h q = hget hj q ∧ OS P (nOf hj).num (hget hj q)) {v : SV} {hs : H}
    (he : sop o.op o.type P G tmj (smallH (readsO o.op tmj) hj) = .val v hs) (hn : nOf hs = nOf hj ∨ nOf hs = Pa.succ (nOf hj)) :
    ∃ x w', ((execOp (evalT ts) o).run P w = .ok (.value x) w' ∨ (execOp (evalT ts) o).run P w = .ok .skip w' ∧ x = undef) ∧ w'.os = w.os ∧ w'.tape = w.tape ∧ w'.output = w.output ∧ w.heap.size ≤ w'.heap.size ∧
      (∀ k, k < w.heap.size → w'.heap[k]? = w.heap[k]?) ∧
      (VR ρ v x ∨ nOf hs = Pa.succ (nOf hj) ∧ ∃ b : Loc, VR ((ρ.below (nOf hj).num).put (nOf hj) b) v x ∧ b.block < w'.heap.size ∧ OR P ((ρ.below (nOf hj).num).put (nOf hj) b) (hget hs (nOf hj)) b w'.heap[b.block]? ∧ (hget hs (nOf hj) ≠ .none → w.heap.size ≤ b.block)) := by
  have ssm := s.small (readsO o.op tmj) hg hq
  obtain ⟨tm', htr, hag⟩ := slots_some ts (tmpsOf o.op) (ρ := ρ.below (nOf hj).num) (tm := tmj) fun t ht => hns t ht _ _ (hsl t ht)
  have hcong : sop o.op o.type P G tm' (smallH (readsO o.op tmj) hj) = .val v hs := by
    rw [← he]; exact sop_congr fun t ht => hag t ht
  have hok := sop_ok ssm o (evalT_rel htr)
  rw [hcong] at hok
  obtain ⟨ρ', w', s', g', hr⟩ := hok
  have hdom : ∀ p b, ρ' p = some b → p ≠ nOf hj → ρ.below (nOf hj).num p = some b := by
    intro p b hb hne
    cases hp : ρ.below (nOf hj).num p with
    | some b' => rw [g'.keep p b' hp] at hb; exact hb
    | none =>
      have h1 := g'.new p hp (by rw [hb]; simp)
      rw [nOf_small] at h1
      have h2 := s'.dom p b hb
      rcases hn with e | e
      · rw [e] at h2; omega
      · rw [e, Pa.num_succ] at h2
        exact absurd (Pa.num_inj (p := p) (q := nOf hj) (by omega)) hne
  obtain ⟨x, hx, hvx⟩ : ∃ x, ((execOp (evalT ts) o).run P w = .ok (.value x) w' ∨ (execOp (evalT ts) o).run P w = .ok .skip w' ∧ x = undef) ∧ VR ρ' v x := by
    rcases hr with ⟨x, hr, hv⟩ | ⟨hr, rfl⟩
    · exact ⟨x, .inl hr, hv⟩
    · exact ⟨undef, .inr ⟨hr, rfl⟩, .lit _⟩
  refine ⟨x, w', hx, g'.os, g'.tape, g'.output, g'.size, fun k hk => g'.same k (by omega), ?_⟩
  cases hN : ρ' (nOf hj) with
  | none =>
    refine .inl (hvx.mono fun p b hb => ?_)
    by_cases e : p = nOf hj
    · rw [e, hN] at hb; cases hb
    · exact (below_dom (hdom p b hb e)).2
  | some b =>
    have hs2 : nOf hs = Pa.succ (nOf hj) := by
      rcases hn with e | e
      · have := s'.dom _ _ hN; rw [e] at this; exact absurd this (Nat.lt_irrefl _)
      · exact e
    have hle : Env.le ρ' ((ρ.below (nOf hj).num).put (nOf hj) b) := by
      intro p b' hb'
      unfold Env.put
      by_cases e : p = nOf hj
      · rw [if_pos e]; rw [e, hN] at hb'; exact hb'
      · rw [if_neg e]; exact hdom p b' hb' e
    refine .inr ⟨hs2, b, hvx.mono hle, s'.size _ _ hN, (s'.live _ _ hN).mono hle, fun hne => ?_⟩
    rcases g'.track _ _ hN hne with h1 | ⟨h1, _⟩
    · exact h1
    · have := (below_dom h1).1; exact absurd this (Nat.lt_irrefl _)

-- names that get no object
theorem Sim.putNone (s : Sim P G M ρ h w) {o : Pa} {b : Loc} (hn : ρ o = none) (hnone : hget h o = .none) (hlt : o.num < (nOf h).num) {w' : World} (hz : w.heap.size ≤ w'.heap.size) (hbz : b.block < w'.heap.size) (hk : ∀ k, k < w.heap.size → w'.heap[k]? = w.heap[k]?) : Sim P G M (ρ.put o b) h w' := by
  have hle : Env.le ρ (ρ.put o b) := Env.put_le b hn
  have hsplit : ∀ o' b', (ρ.put o b) o' = some b' → (o' = o ∧ b' = b) ∨ (o' ≠ o ∧ ρ o' = some b') := by
    intro o' b' hb
    unfold Env.put at hb
    split at hb
    · rename_i e; cases hb; exact .inl ⟨e, rfl⟩
    · rename_i e; exact .inr ⟨e, hb⟩
  refine ⟨fun o' b' hb' => ?_, fun o' b' hb' => ?_, fun o' b' hb' => ?_, fun o1 o2 b1 b2 h1 h2 n1 n2 e => ?_, fun o' b' hb' hm => ?_, fun k hk' => s.fresh k (Nat.le_trans hz hk'), fun g cs hg => ?_⟩
  · rcases hsplit o' b' hb' with ⟨rfl, rfl⟩ | ⟨_, hb⟩
    · rw [hnone]; exact .none _ _
    · rw [hk _ (s.size o' b' hb)]; exact (s.live o' b' hb).mono hle
  · rcases hsplit o' b' hb' with ⟨rfl, rfl⟩ | ⟨_, hb⟩
    · exact hbz
    · exact Nat.lt_of_lt_of_le (s.size o' b' hb) hz
  · rcases hsplit o' b' hb' with ⟨rfl, rfl⟩ | ⟨_, hb⟩
    · exact hlt
    · exact s.dom o' b' hb
  · rcases hsplit o1 b1 h1 with ⟨rfl, rfl⟩ | ⟨_, hb1⟩
    · exact absurd hnone n1
    · rcases hsplit o2 b2 h2 with ⟨rfl, rfl⟩ | ⟨_, hb2⟩
      · exact absurd hnone n2
      · exact s.apart o1 o2 b1 b2 hb1 hb2 n1 n2 e
  · rcases hsplit o' b' hb' with ⟨rfl, rfl⟩ | ⟨_, hb⟩
    · rw [hnone] at hm; cases hm
    · exact s.mine o' b' hb hm
  · obtain ⟨h1, c, el, fr, h2, h3⟩ := s.globs g cs hg
    exact ⟨h1, c, el, fr, by rw [hk g (lt_of_at h2)]; exact h2, fun i v hi => let ⟨x, hx, hv⟩ := h3 i v hi; ⟨x, hx, hv.mono hle⟩⟩
/-- The world grows by blocks that nothing names. -/
theorem Sim.more (s : Sim P G M ρ h w) {w' : World} (hz : w.heap.size ≤ w'.heap.size) (hk : ∀ k, k < w.heap.size → w'.heap[k]? = w.heap[k]?) : Sim P G M ρ h w' :=
  ⟨fun o b hb => by rw [hk _ (s.size o b hb)]; exact s.live o b hb, fun o b hb => Nat.lt_of_lt_of_le (s.size o b hb) hz, s.dom, s.apart, s.mine, fun k hk' => s.fresh k (Nat.le_trans hz hk'), fun g cs hg => by
    obtain ⟨h1, c, el, fr, h2, h3⟩ := s.globs g cs hg
    exact ⟨h1, c, el, fr, by rw [hk g (lt_of_at h2)]; exact h2, h3⟩⟩
/-- The symbolic heap gets an object that no name leads to. -/
theorem Sim.ahead (s : Sim P G M ρ h w) (ob : SO) : Sim P G M ρ (hpush h ob) w := by
  have hne : ∀ o b, ρ o = some b → o ≠ nOf h := fun o b hb e => by have := s.dom o b hb; rw [e] at this; exact absurd this (Nat.lt_irrefl _)
  have hg : ∀ o b, ρ o = some b → hget (hpush h ob) o = hget h o := fun o b hb => by rw [hget_push, if_neg (hne o b hb)]
  exact ⟨fun o b hb => by rw [hg o b hb]; exact s.live o b hb, s.size, fun o b hb => by rw [nOf_push, Pa.num_succ]; exact Nat.lt_succ_of_lt (s.dom o b hb),
    fun o o' b b' hb hb' ho ho' e => s.apart o o' b b' hb hb' (by rw [hg o b hb] at ho; exact ho) (by rw [hg o' b' hb'] at ho'; exact ho') e,
    fun o b hb hm => s.mine o b hb (by rw [hg o b hb] at hm; exact hm), s.fresh, s.globs⟩

-- heaps that are dimmed
/-- The objects that a heavy operation, behind the places of a mask, must leave alone. -/
def Named (fl : Fl) (mask : Nat) (o : Pa) : Prop := ∃ e ∈ fl, Nat.testBit mask e.1 = false ∧ e.2.1 = o
/-- Told again. -/
def undim (u : List (Pa × SO)) (h : H) : H := u.foldl (fun h p => hput h p.1 p.2) h
theorem undimK_eq (u : List (Pa × SO)) : ∀ (h : H) (K : H → Res), undimK u h K = K (undim u h) := by
  induction u with
  | nil => intro h K; rfl
  | cons p u ih =>
    intro h K
    show putR h p.1 p.2 (fun h => undimK u h K) = _
    rw [putR_eq, ih]; rfl
theorem nOf_undim (u : List (Pa × SO)) : ∀ h : H, nOf (undim u h) = nOf h := by
  induction u with
  | nil => intro h; rfl
  | cons p u ih => intro h; show nOf (undim u (hput h p.1 p.2)) = _; rw [ih, nOf_put]
theorem hget_undim_other (u : List (Pa × SO)) : ∀ (h : H) (o : Pa), (∀ p ∈ u, p.1 ≠ o) → hget (undim u h) o = hget h o := by
  induction u with
  | nil => intro h o _; rfl
  | cons p u ih =>
    intro h o hu
    show hget (undim u (hput h p.1 p.2)) o = _
    rw [ih _ _ fun q hq => hu q (by simp [hq]), hget_put, if_neg fun e => hu p (by simp) e.symm]
def Dimmed (ob' ob : SO) : Prop := ob' = dimO false ob ∨ ob' = .none
theorem dimO_dimO (a b : Bool) (ob : SO) : Dimmed (dimO a (dimO b ob)) ob := by
  cases a <;> cases b <;> cases ob <;> first | exact .inl rfl | exact .inr rfl
theorem dimO_Dimmed (a : Bool) (ob : SO) : Dimmed (dimO a ob) ob := by cases a <;> first | exact .inl rfl | exact .inr rfl
theorem Dimmed.again (a : Bool) {ob' ob : SO} (h : Dimmed ob' ob) : Dimmed (dimO a ob') ob := by
  rcases h with rfl | rfl
  · exact dimO_dimO a false ob
  · cases a <;> exact .inr rfl
/-- What dimming leaves, and what telling again gives back. -/
theorem dimK_ok (mask : Nat) : ∀ (fl : Fl) (h0 h : H) (u : List (Pa × SO)) (K : H → List (Pa × SO) → Res) (S : Pa → Prop), nOf h = nOf h0 → (∀ o, S o → Dimmed (hget h o) (hget h0 o)) → (∀ o, ¬ S o → hget h o = hget h0 o) →
    (∀ h' o, S o → hget (undim u h') o = hget h0 o) → (∀ p ∈ u, S p.1) →
    ∃ hd u', dimK fl mask h u K = K hd u' ∧ nOf hd = nOf h0 ∧ (∀ o, (S o ∨ Named fl mask o) → Dimmed (hget hd o) (hget h0 o)) ∧ (∀ o, ¬ (S o ∨ Named fl mask o) → hget hd o = hget h0 o) ∧
      (∀ h' o, (S o ∨ Named fl mask o) → hget (undim u' h') o = hget h0 o) ∧ (∀ p ∈ u', S p.1 ∨ Named fl mask p.1) := by
  intro fl
  induction fl with
  | nil =>
    intro h0 h u K S h1 h2 h3 h4 h5
    have hn : ∀ o, ¬ Named [] mask o := fun o ⟨e, he, _⟩ => by cases he
    exact ⟨h, u, rfl, h1, fun o ho => h2 o (ho.resolve_right (hn o)), fun o ho => h3 o fun k => ho (.inl k), fun h' o ho => h4 h' o (ho.resolve_right (hn o)), fun p hp => .inl (h5 p hp)⟩
  | cons e fl ih =>
    intro h0 h u K S h1 h2 h3 h4 h5
    obtain ⟨i, o, hide⟩ := e
    show ∃ hd u', dimB (Nat.testBit mask i) o hide h (fun h u => dimK fl mask h u K) u = K hd u' ∧ _
    have hsplit : ∀ p, Named ((i, o, hide) :: fl) mask p ↔ (Nat.testBit mask i = false ∧ o = p) ∨ Named fl mask p := by
      intro p
      constructor
      · rintro ⟨e, he, hb, hp⟩
        cases he with
        | head => exact .inl ⟨hb, hp⟩
        | tail _ hm => exact .inr ⟨e, hm, hb, hp⟩
      · rintro (⟨hb, hp⟩ | ⟨e, he, hb, hp⟩)
        · exact ⟨(i, o, hide), by simp, hb, hp⟩
        · exact ⟨e, by simp [he], hb, hp⟩
    cases hb : Nat.testBit mask i with
    | true =>
      obtain ⟨hd, u', k1, k2, k3, k4, k5, k6⟩ := ih h0 h u K S h1 h2 h3 h4 h5
      have hiff : ∀ p, (S p ∨ Named ((i, o, hide) :: fl) mask p) ↔ (S p ∨ Named fl mask p) := by
        intro p; rw [hsplit p, hb]; simp
      exact ⟨hd, u', k1, k2, fun p hp => k3 p ((hiff p).1 hp), fun p hp => k4 p fun k => hp ((hiff p).2 k), fun h' p hp => k5 h' p ((hiff p).1 hp), fun p hp => (hiff _).2 (k6 p hp)⟩
    | false =>
      show ∃ hd u', putR h o (dimO hide (hget h o)) (fun h' => dimK fl mask h' ((o, hget h o) :: u) K) = K hd u' ∧ _
      rw [putR_eq]
      have hiff : ∀ p, (S p ∨ Named ((i, o, hide) :: fl) mask p) ↔ ((S p ∨ p = o) ∨ Named fl mask p) := by
        intro p; rw [hsplit p, hb]
        constructor
        · rintro (k | ⟨_, rfl⟩ | k)
          · exact .inl (.inl k)
          · exact .inl (.inr rfl)
          · exact .inr k
        · rintro ((k | rfl) | k)
          · exact .inl k
          · exact .inr (.inl ⟨rfl, rfl⟩)
          · exact .inr (.inr k)
      have old : ∀ p, ¬ S p → hget h p = hget h0 p := h3
      obtain ⟨hd, u', k1, k2, k3, k4, k5, k6⟩ := ih h0 (hput h o (dimO hide (hget h o))) ((o, hget h o) :: u) K (fun p => S p ∨ p = o) (by rw [nOf_put, h1])
        (fun p hp => by
          rw [hget_put]
          by_cases e : p = o
          · rw [if_pos e, ← e]
            by_cases hs : S p
            · exact (h2 p hs).again hide
            · rw [h3 p hs]; exact dimO_Dimmed hide _
          · rw [if_neg e]; exact h2 p (hp.resolve_right e))
        (fun p hp => by rw [hget_put, if_neg fun e => hp (.inr e)]; exact h3 p fun k => hp (.inl k))
        (fun h' p hp => by
          show hget (undim u (hput h' o (hget h o))) p = _
          by_cases hs : S p
          · exact h4 _ p hs
          · have e : p = o := hp.resolve_left hs
            rw [hget_undim_other u _ _ fun q hq e' => hs (by rw [← e']; exact h5 q hq), hget_put, if_pos e, e, ← h3 o (e ▸ hs)])
        (fun p hp => by
          cases hp with
          | head => exact .inr rfl
          | tail _ hm => exact .inl (h5 p hm))
      exact ⟨hd, u', k1, k2, fun p hp => k3 p ((hiff p).1 hp), fun p hp => k4 p fun k => hp ((hiff p).2 k), fun h' p hp => k5 h' p ((hiff p).1 hp), fun p hp => (hiff _).2 (k6 p hp)⟩

/-- What a heavy operation may write. -/
def Mdim (M : Nat → Prop) (ρ : Env) (h : H) (S : Pa → Prop) : Nat → Prop := fun k => M k ∧ ∀ o b, S o → ρ o = some b → hget h o ≠ .none → b.block ≠ k
theorem Sim.dim (s : Sim P G M ρ h w) {hd : H} {S : Pa → Prop} (hn : nOf hd = nOf h) (h1 : ∀ o, S o → Dimmed (hget hd o) (hget h o)) (h2 : ∀ o, ¬ S o → hget hd o = hget h o) : Sim P G (Mdim M ρ h S) ρ hd w := by
  have hnn : ∀ o, hget hd o ≠ .none → hget h o ≠ .none := by
    intro o ho e
    by_cases hs : S o
    · rcases h1 o hs with k | k
      · rw [e] at k; exact ho k
      · exact ho k
    · rw [h2 o hs] at ho; exact ho e
  refine ⟨fun o b hb => ?_, s.size, fun o b hb => by rw [hn]; exact s.dom o b hb, fun o o' b b' hb hb' ho ho' e => s.apart o o' b b' hb hb' (hnn o ho) (hnn o' ho') e, fun o b hb hm => ?_, fun k hk => ⟨s.fresh k hk, fun o b _ hb _ e => by have := s.size o b hb; omega⟩, fun g cs hg => ?_⟩
  · by_cases hs : S o
    · rcases h1 o hs with k | k
      · rw [k]; exact (s.live o b hb).dim
      · rw [k]; exact .none _ _
    · rw [h2 o hs]; exact s.live o b hb
  · have hs : ¬ S o := fun hs => by
      rcases h1 o hs with k | k
      · rw [k, mineO_dim] at hm; cases hm
      · rw [k] at hm; cases hm
    rw [h2 o hs] at hm
    refine ⟨s.mine o b hb hm, fun o' b' hs' hb' hne e => ?_⟩
    have hno : hget h o ≠ .none := fun k => by rw [k] at hm; cases hm
    have := s.apart o' o b' b hb' hb hne hno e
    exact hs (this ▸ hs')
  · obtain ⟨h3, h4⟩ := s.globs g cs hg
    exact ⟨fun k => h3 k.1, h4⟩
theorem Sim.undim (s : Sim P G M ρ h w) {hd h' hu : H} {S : Pa → Prop} {ρ' : Env} {w' : World} (hn : nOf hd = nOf h) (h1 : ∀ o, S o → Dimmed (hget hd o) (hget h o)) (h2 : ∀ o, ¬ S o → hget hd o = hget h o)
    (hb : ∀ o, S o → o.num < (nOf h).num) (hnu : nOf hu = nOf h') (u1 : ∀ o, S o → hget hu o = hget h o) (u2 : ∀ o, ¬ S o → hget hu o = hget h' o)
    (s' : Sim P G (Mdim M ρ h S) ρ' h' w') (g : Grow (Mdim M ρ h S) ρ hd w ρ' h' w') : Sim P G M ρ' hu w' ∧ Grow M ρ h w ρ' hu w' := by
  have old : ∀ o b, S o → ρ' o = some b → ρ o = some b := by
    intro o b hs hb'
    cases ho : ρ o with
    | some b' => rw [g.keep o b' ho] at hb'; exact hb'
    | none =>
      have := g.new o ho (by rw [hb']; simp)
      rw [hn] at this
      have := hb o hs
      omega
  have far : ∀ o b, S o → ρ o = some b → hget h o ≠ .none → ¬ Mdim M ρ h S b.block := fun o b hs hb' hne k => k.2 o b hs hb' hne rfl
  refine ⟨⟨fun o b hb' => ?_, s'.size, fun o b hb' => by rw [hnu]; exact s'.dom o b hb', fun o o' b b' hb1 hb2 n1 n2 e => ?_, fun o b hb' hm => ?_, fun k hk => (s'.fresh k hk).1, fun gl cs hg => ?_⟩, ⟨g.os, g.tape, g.output, g.size, fun k hk => g.same k fun k' => hk k'.1, by rw [hnu, ← hn]; exact g.nx, g.keep, fun o h0 h3 => by rw [← hn]; exact g.new o h0 h3, fun o b hb' hne => ?_⟩⟩
  · by_cases hs : S o
    · rw [u1 o hs]
      by_cases hne : hget h o = .none
      · rw [hne]; exact .none _ _
      · have hbo := old o b hs hb'
        rw [g.same _ (far o b hs hbo hne)]
        exact (s.live o b hbo).mono g.keep
    · rw [u2 o hs]; exact s'.live o b hb'
  · have mix : ∀ o o' b b', S o → ¬ S o' → ρ' o = some b → ρ' o' = some b' → hget hu o ≠ .none → hget hu o' ≠ .none → b.block = b'.block → o = o' := by
      intro o o' b b' hs hs' hb1 hb2 n1 n2 e
      rw [u1 o hs] at n1
      rw [u2 o' hs'] at n2
      have hbo := old o b hs hb1
      rcases g.track o' b' hb2 n2 with k | ⟨k1, k2⟩
      · exact absurd (e ▸ k) (far o b hs hbo n1)
      · rw [h2 o' hs'] at k2
        exact s.apart o o' b b' hbo k1 n1 k2 e
    by_cases hs : S o <;> by_cases hs' : S o'
    · exact s.apart o o' b b' (old o b hs hb1) (old o' b' hs' hb2) (by rw [← u1 o hs]; exact n1) (by rw [← u1 o' hs']; exact n2) e
    · exact mix o o' b b' hs hs' hb1 hb2 n1 n2 e
    · exact (mix o' o b' b hs' hs hb2 hb1 n2 n1 e.symm).symm
    · exact s'.apart o o' b b' hb1 hb2 (by rw [← u2 o hs]; exact n1) (by rw [← u2 o' hs']; exact n2) e
  · by_cases hs : S o
    · rw [u1 o hs] at hm
      exact s.mine o b (old o b hs hb') hm
    · rw [u2 o hs] at hm
      exact (s'.mine o b hb' hm).1
  · obtain ⟨k1, k2⟩ := s'.globs gl cs hg
    exact ⟨(s.globs gl cs hg).1, k2⟩
  · by_cases hs : S o
    · rw [u1 o hs] at hne
      exact .inr ⟨old o b hs hb', hne⟩
    · rw [u2 o hs] at hne
      rcases g.track o b hb' hne with k | ⟨k1, k2⟩
      · exact .inl k.1
      · rw [h2 o hs] at k2; exact .inr ⟨k1, k2⟩
end
end Go.Play
