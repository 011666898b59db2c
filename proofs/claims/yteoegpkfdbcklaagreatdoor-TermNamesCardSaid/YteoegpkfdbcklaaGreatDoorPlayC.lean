/- Play: what the model's small programs do in a world that is known in part; what an operation's effect says of its run. -/
import Derived.Test.YteoegpkfdbcklaaGreatDoorPlayB
namespace Go.Play
set_option linter.unusedVariables false
set_option linter.unusedSimpArgs false

-- blocks of cells
theorem cell_at {w : World} {b i : Nat} {c : Array Value} {e : TypeId} {fr : Nat × Nat} (h : w.heap[b]? = some (.cells c e fr)) : w.cell? ⟨b, i, none⟩ = c[i]? := by
  simp [World.cell?, h]
theorem add_at (b o i : Nat) : (⟨b, o, none⟩ : Addr).add i = ⟨b, o + i, none⟩ := by
  unfold Addr.add; split
  · rename_i h; subst h; rfl
  · rfl
theorem shape_at {w : World} {b : Nat} {c : Array Value} {e : TypeId} {fr : Nat × Nat} (h : w.heap[b]? = some (.cells c e fr)) : w.shape? b = some (e, c.size) := by
  simp [World.shape?, h]
theorem frozen_at {w : World} {b i : Nat} {c : Array Value} {e : TypeId} (h : w.heap[b]? = some (.cells c e (0, 0))) : w.frozen? ⟨b, i, none⟩ = false := by
  simp [World.frozen?, h]

/-- One block of the world has turned. -/
structure Turn (w w' : World) (b : Nat) (ob : Obj) : Prop where
  os : w'.os = w.os
  tape : w'.tape = w.tape
  output : w'.output = w.output
  size : w'.heap.size = w.heap.size
  other : ∀ k, k ≠ b → w'.heap[k]? = w.heap[k]?
  here : w'.heap[b]? = some ob
theorem Turn.trans {w w' w'' : World} {b : Nat} {ob ob' : Obj} (h : Turn w w' b ob) (k : Turn w' w'' b ob') : Turn w w'' b ob' :=
  ⟨k.os.trans h.os, k.tape.trans h.tape, k.output.trans h.output, k.size.trans h.size, fun i hi => (k.other i hi).trans (h.other i hi), k.here⟩
theorem turn_set {w : World} {b : Nat} {ob : Obj} (h : b < w.heap.size) : Turn w { w with heap := w.heap.setIfInBounds b ob } b ob :=
  ⟨rfl, rfl, rfl, by simp, fun k hk => by simp [Array.getElem?_setIfInBounds_ne (Ne.symm hk)], by simp [h]⟩
theorem lt_of_at {w : World} {b : Nat} {ob : Obj} (h : w.heap[b]? = some ob) : b < w.heap.size := by
  rcases Nat.lt_or_ge b w.heap.size with h' | h'
  · exact h'
  · rw [Array.getElem?_eq_none h'] at h; cases h
theorem turn_setCell {w : World} {b i : Nat} {c : Array Value} {e : TypeId} {fr : Nat × Nat} (h : w.heap[b]? = some (.cells c e fr)) (v : Value) :
    Turn w (w.setCell ⟨b, i, none⟩ v) b (.cells (c.setIfInBounds i v) e fr) := by
  have hlt := lt_of_at h
  refine ⟨rfl, rfl, rfl, by simp [World.setCell], fun k hk => ?_, ?_⟩
  · show (w.heap.modify b _)[k]? = _
    rw [Array.getElem?_modify, if_neg (Ne.symm hk)]
  · show (w.heap.modify b _)[b]? = _
    rw [Array.getElem?_modify, if_pos rfl, h]; rfl

theorem run_storeCells {P : Program} {b o : Nat} {e : TypeId} : ∀ (vs : List Value) (i : Nat) (c : Array Value) (w : World), w.heap[b]? = some (.cells c e (0, 0)) → o + i + vs.length ≤ c.size → (∀ v ∈ vs, v.oneCell' = true) →
    ∃ w' c', (storeCells ⟨b, o, none⟩ vs i).run P w = .ok () w' ∧ Turn w w' b (.cells c' e (0, 0)) ∧ c'.size = c.size ∧ ∀ j, c'[j]? = if o + i ≤ j ∧ j < o + i + vs.length then vs[j - (o + i)]? else c[j]? := by
  intro vs
  induction vs with
  | nil =>
    intro i c w h hs hv
    exact ⟨w, c, rfl, ⟨rfl, rfl, rfl, rfl, fun _ _ => rfl, h⟩, rfl, fun j => by rw [if_neg (by simp only [List.length_nil]; omega)]⟩
  | cons v vs ih =>
    intro i c w h hs hv
    simp only [List.length_cons] at hs
    have hlt : o + i < c.size := by omega
    have h1 : (store ((⟨b, o, none⟩ : Addr).add i) v).run P w = .ok () (w.setCell ⟨b, o + i, none⟩ v) := by
      rw [run_store P w _ v _ (hv v (by simp)), add_at, cell_at h, Array.getElem?_eq_getElem hlt]
      simp only [frozen_at h]; rfl
    have ht := turn_setCell (i := o + i) h v
    obtain ⟨w', c', hr, ht', hz, hc⟩ := ih (i + 1) (c.setIfInBounds (o + i) v) _ ht.here (by simp; omega) (fun x hx => hv x (by simp [hx]))
    refine ⟨w', c', ?_, ht.trans ht', by simpa using hz, fun j => ?_⟩
    · simp only [storeCells, Sem.run_bind, h1, Result.andThen_ok, hr]
    · rw [hc j]
      simp only [List.length_cons]
      by_cases hj : j = o + i
      · subst hj
        rw [if_neg (by omega), if_pos (by omega)]
        simp [hlt]
      · by_cases h2 : o + (i + 1) ≤ j ∧ j < o + (i + 1) + vs.length
        · rw [if_pos h2, if_pos (by omega)]
          obtain ⟨m, hm⟩ : ∃ m, j - (o + i) = m + 1 := ⟨j - (o + i) - 1, by omega⟩
          rw [hm, List.getElem?_cons_succ]; congr 1; omega
        · rw [if_neg h2, if_neg (by omega), Array.getElem?_setIfInBounds_ne (Ne.symm hj)]

-- types
theorem infoO_eq (P : Program) (t : TypeId) : infoO P t = P.types[t]? := by
  show nthI t P.types.toList = _; rw [nthI_eq]; simp
theorem infoO_some {P : Program} {t : TypeId} {i : TypeInfo} (h : infoO P t = some i) : P.info? t = some i := by
  rw [infoO_eq] at h
  have hlt : t < P.types.size := by
    rcases Nat.lt_or_ge t P.types.size with h' | h'
    · exact h'
    · rw [Array.getElem?_eq_none h'] at h; cases h
  show Tables.info? P.toTables t = some i
  unfold Tables.info?
  rw [if_pos hlt]; exact h
theorem sizeO_some {P : Program} {t : TypeId} {n : Nat} (h : sizeO P t = some n) : ∃ i, P.info? t = some i ∧ i.size = n := by
  unfold sizeO at h
  cases hi : infoO P t with
  | none => rw [hi] at h; cases h
  | some i => rw [hi] at h; cases h; exact ⟨i, infoO_some hi, rfl⟩
theorem sizeO_cellsOf {P : Program} {t : TypeId} {n : Nat} (h : sizeO P t = some n) : P.cellsOf t = n := by
  obtain ⟨i, hi, rfl⟩ := sizeO_some h
  show ((P.info? t).map (·.size)).getD 0 = _
  rw [hi]; rfl
theorem zeroO_some {P : Program} {t : TypeId} {z : Value} (h : zeroO P t = some z) : ∃ i, P.info? t = some i ∧ i.zero = some z := by
  unfold zeroO at h
  cases hi : infoO P t with
  | none => rw [hi] at h; cases h
  | some i => rw [hi] at h; exact ⟨i, infoO_some hi, h⟩
theorem undO_some {P : Program} {t : TypeId} {d : TypeDesc} (h : undO P t = some d) : P.underlying t = some d := by
  unfold undO at h
  unfold Program.underlying
  cases hi : infoO P t with
  | none => rw [hi] at h; cases h
  | some i =>
    rw [hi] at h
    rw [infoO_some hi]
    change undD i.desc i.desc P = some d at h
    obtain ⟨desc, str, size, bytes, hp, al, fa, zero, cmp, ms⟩ := i
    cases desc with
    | named n u =>
      change descI (infoO P u) = some d at h
      cases hu : infoO P u with
      | none => rw [hu] at h; cases h
      | some j => rw [hu] at h; show (P.info? u).map _ = _; rw [infoO_some hu]; exact h
    | _ => exact h

section
variable {P : Program} {w : World}
theorem run_und {t : TypeId} {d : TypeDesc} (h : undO P t = some d) : (underlying t).run P w = .ok d w := run_underlying (undO_some h) w
theorem run_info {t : TypeId} {i : TypeInfo} (h : P.info? t = some i) : (typeInfo t).run P w = .ok i w := by simp [typeInfo, h]
theorem run_size {t : TypeId} {n : Nat} (h : sizeO P t = some n) : (sizeOf t).run P w = .ok n w := by
  obtain ⟨i, hi, rfl⟩ := sizeO_some h
  simp [sizeOf, run_info hi]
theorem run_zero {t : TypeId} {z : Value} (h : zeroO P t = some z) : (zeroValue t).run P w = .ok z w := by
  obtain ⟨i, hi, hz⟩ := zeroO_some h
  simp [zeroValue, run_info hi, hz]
theorem run_agg {t : TypeId} {b : Bool} (h : aggT P t = some b) : (isAgg t).run P w = .ok b w := by
  unfold aggT at h
  cases hu : undO P t with
  | none => rw [hu] at h; cases h
  | some d =>
    rw [hu] at h
    change some (aggD d) = some b at h
    cases h
    simp only [isAgg, Sem.run_bind, run_und hu, Result.andThen_ok]
    cases d <;> rfl
theorem still_ok {α : Type} {s : Sem α} {a : α} (h : still P s = .ok a) : s.run P w = .ok a w := by
  induction s with
  | pure b => cases h; rfl
  | mark m k ih => exact ih h
  | program k ih => exact ih P h
  | halt x => cases x <;> cases h
  | _ => cases h
theorem still_panic {α : Type} {s : Sem α} {v : Value} (h : still P s = .panic v) : s.run P w = .halt (.panic v) w := by
  induction s with
  | pure b => cases h
  | mark m k ih => exact ih h
  | program k ih => exact ih P h
  | halt x => cases x <;> cases h; rfl
  | _ => cases h
end

/-- What an effect says of the run of a program that gives a value. -/
def ValOK (P : Program) (G : Glob) (M : Nat → Prop) (ρ : Env) (h : H) (w : World) (r : Result Value) : Eff → Prop
  | .val v h' => ∃ ρ' w' x, r = .ok x w' ∧ VR ρ' v x ∧ Sim P G M ρ' h' w' ∧ Grow M ρ h w ρ' h' w'
  | .panic v => ∃ x, r = .halt (.panic x) w ∧ VR ρ v x
  | .bad => True
  | _ => False
def UnitOK (P : Program) (G : Glob) (M : Nat → Prop) (ρ : Env) (h : H) (w : World) (r : Result Unit) : Eff → Prop
  | .val v h' => ∃ ρ' w', r = .ok () w' ∧ v = undefS ∧ Sim P G M ρ' h' w' ∧ Grow M ρ h w ρ' h' w'
  | .panic v => ∃ x, r = .halt (.panic x) w ∧ VR ρ v x
  | .bad => True
  | _ => False
/-- What an effect says of the run of an operation. -/
def EffOK (P : Program) (G : Glob) (M : Nat → Prop) (ρ : Env) (h : H) (w : World) (r : Result Next) : Eff → Prop
  | .val v h' => ∃ ρ' w', Sim P G M ρ' h' w' ∧ Grow M ρ h w ρ' h' w' ∧ ((∃ x, r = .ok (.value x) w' ∧ VR ρ' v x) ∨ (r = .ok .skip w' ∧ v = undefS))
  | .enter f args => ∃ args' : Array Value, r = .ok (.enter f args') w ∧ VRL ρ args args'.toList
  | .round l args => ∃ (b : Loc) (args' : Array Value), ρ l = some b ∧ r = (Instr.yield b.block args').run P w ∧ VRL ρ args args'.toList
  | .recover => r = .ok .recover w
  | .defer d => ∃ d', r = .ok (.defer d') w ∧ DR ρ d d'
  | .panic v => ∃ x, r = .halt (.panic x) w ∧ VR ρ v x
  | .bad => True

section
variable {P : Program} {G : Glob} {M : Nat → Prop} {ρ : Env} {h : H} {w : World}
theorem ValOK.eff {s : Sem Value} {e : Eff} (k : ValOK P G M ρ h w (s.run P w) e) : EffOK P G M ρ h w ((do pure (Next.value (← s)) : Sem Next).run P w) e := by
  cases e with
  | val v h' =>
    obtain ⟨ρ', w', x, hr, hv, hs, hg⟩ := k
    exact ⟨ρ', w', hs, hg, .inl ⟨x, by simp only [Sem.run_bind, hr, Result.andThen_ok, Sem.run_pure], hv⟩⟩
  | panic v =>
    obtain ⟨x, hr, hv⟩ := k
    exact ⟨x, by simp only [Sem.run_bind, hr, Result.andThen_halt], hv⟩
  | bad => trivial
  | _ => exact k.elim
theorem UnitOK.eff {s : Sem Unit} {e : Eff} (k : UnitOK P G M ρ h w (s.run P w) e) : EffOK P G M ρ h w ((do s; pure Next.skip : Sem Next).run P w) e := by
  cases e with
  | val v h' =>
    obtain ⟨ρ', w', hr, hv, hs, hg⟩ := k
    exact ⟨ρ', w', hs, hg, .inr ⟨by simp only [Sem.run_bind, hr, Result.andThen_ok, Sem.run_pure], hv⟩⟩
  | panic v =>
    obtain ⟨x, hr, hv⟩ := k
    exact ⟨x, by simp only [Sem.run_bind, hr, Result.andThen_halt], hv⟩
  | bad => trivial
  | _ => exact k.elim
/-- A value, and nothing else. -/
theorem ValOK.quiet (s : Sim P G M ρ h w) {v : SV} {x : Value} {r : Result Value} (hr : r = .ok x w) (hv : VR ρ v x) : ValOK P G M ρ h w r (.val v h) :=
  ⟨ρ, w, x, hr, hv, s, .refl⟩
theorem ValOK.bad {r : Result Value} : ValOK P G M ρ h w r .bad := trivial
theorem ValOK.still (s : Sim P G M ρ h w) (q : Sem Value) : ValOK P G M ρ h w (q.run P w) (stillVal P h q) := by
  unfold stillVal
  cases hq : Play.still P q with
  | ok a => exact .quiet s (still_ok hq) (.lit a)
  | panic v => exact ⟨v, still_panic hq, .lit v⟩
  | no => trivial
theorem ValOK.alloc (s : Sim P G M ρ h w) {vs : List SV} {el : TypeId} {own : Bool} {xs : Array Value} {V : SV} {f : Nat → Value} {r : Result Value}
    (hr : r = .ok (f w.heap.size) { w with heap := w.heap.push (.cells xs el) }) (hl : vs.length ≤ xs.size) (hx : ∀ (i : Nat) (v : SV), vs[i]? = some v → ∃ x : Value, xs[i]? = some x ∧ VR ρ v x)
    (hV : ∀ ρ' : Env, Env.le ρ ρ' → ρ' (nOf h) = some ⟨w.heap.size, 0, xs.size, P.cellsOf el⟩ → VR ρ' V (f w.heap.size)) :
    ValOK P G M ρ h w r (.val V (hpush h (.cells vs el own))) := by
  let b : Loc := ⟨w.heap.size, 0, xs.size, P.cellsOf el⟩
  have hle : Env.le ρ (ρ.put (nOf h) b) := Env.put_le b s.none_at
  obtain ⟨hs, hg⟩ := s.alloc (b := b) (ob := .cells vs el own) (obj := .cells xs el) rfl
    (.cells rfl (Nat.zero_mod _) (fun _ => rfl) (by simp [b]) (by simpa [b] using hl) fun i v hi => by
      obtain ⟨x, h1, h2⟩ := hx i v hi
      exact ⟨x, by simpa [b] using h1, h2.mono hle⟩)
  exact ⟨_, _, _, hr, hV _ hle (Env.put_self _ _ _), hs, hg⟩
end
end Go.Play
