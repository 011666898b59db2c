/- Play: the operations: maps, iterators, assertions, panics. -/
import Derived.Test.YteoegpkfdbcklaaDoorPlayL
namespace Go.Play
set_option linter.unusedVariables false
set_option linter.unusedSimpArgs false
section
variable {P : Program} {G : Glob} {M : Nat → Prop} {ρ : Env} {h : H} {w : World}

-- keys
theorem sameK_ok {d : TypeDesc} {k k' : Value} {b : Bool} (h : sameK d k k' = some b) : Instr.sameNow d k k' = some b := by
  unfold sameK at h
  split at h
  · cases k <;> cases k' <;> first | (cases h; done) | skip
    rename_i a x c y
    simp only [] at h
    cases hk : Nat.beq (kIdx a) (kIdx c) with
    | false => rw [hk] at h; cases h
    | true =>
      rw [hk] at h
      cases h
      obtain rfl := kIdx_inj hk
      rw [iEq_eq]
      simp only [Instr.sameNow, if_true]
  · cases k <;> cases k' <;> first | (cases h; done) | skip
    cases h
    rw [← str_eq]
    rfl
  · cases k <;> cases k' <;> first | (cases h; done) | skip
    cases h
    rfl
  · cases h
theorem sameK_bits {d : TypeDesc} {k k' : Value} (h : sameK d k k' = some true) (n : Nat) : Instr.sameBits n k' k = true := by
  have h0 := sameK_ok h
  clear h
  unfold Instr.sameNow at h0
  split at h0
  · rename_i a x c y
    split at h0
    · rename_i e; subst e
      have h0 : (x == y) = true := by injection h0
      rw [beq_iff_eq] at h0; subst h0
      unfold Instr.sameBits; simp
    · cases h0
  · rename_i x y
    have h0 : (x == y) = true := by injection h0
    have h2 : x = y := by
      have e : (x == y) = (x.data == y.data) := rfl
      rw [e, beq_iff_eq] at h0
      cases x; cases y; cases h0; rfl
    subst h2
    unfold Instr.sameBits; exact h0
  · rename_i x y
    have h0 : (x == y) = true := by injection h0
    rw [beq_iff_eq] at h0; subst h0
    unfold Instr.sameBits; simp
  · cases h0
/-- What is found among the entries of a map. -/
theorem findK_ok {d : TypeDesc} {k : Value} {es : List (Value × SV × Nat)} {ms : List MapEntry} (he : ER ρ es ms) : ∀ {i : Nat} {r : Option (Nat × SV)}, findK d k es i = some r →
    match r with
    | none => Instr.findNow d k ms i = some none
    | some (j, v) => ∃ x n e, j = i + n ∧ Instr.findNow d k ms i = some (some (j, x)) ∧ VR ρ v x ∧ ms[n]? = some e ∧ n < ms.length ∧ Instr.sameBits 10000 e.key k = true := by
  induction he with
  | nil => intro i r hr; cases hr; rfl
  | @cons k1 v1 x1 b1 l m hv ht ih =>
    intro i r hr
    change findK2 (sameK d k k1) i v1 (findK d k l) = some r at hr
    cases hs : sameK d k k1 with
    | none => rw [hs] at hr; cases hr
    | some b =>
      rw [hs] at hr
      have hn := sameK_ok hs
      cases b with
      | true =>
        cases hr
        refine ⟨x1, 0, _, rfl, ?_, hv, rfl, by simp, sameK_bits hs _⟩
        unfold Instr.findNow
        simp only [hn]
      | false =>
        change findK d k l (Nat.succ i) = some r at hr
        have := ih hr
        cases r with
        | none =>
          simp only at this ⊢
          unfold Instr.findNow
          simp only [hn]; exact this
        | some p =>
          obtain ⟨j, v⟩ := p
          obtain ⟨x, n, e, h1, h2, h3, h4, h5, h6⟩ := this
          refine ⟨x, n + 1, e, by omega, ?_, h3, by simpa using h4, by simp; omega, h6⟩
          unfold Instr.findNow
          simp only [hn]; exact h2
theorem run_checkKey {kt : TypeId} {d : TypeDesc} {k : Value} (hu : undO P kt = some d) (hk : keyOk d = true) (b : Bool) : (Instr.checkKey b 10000 kt k).run P w = .ok () w := by
  unfold Instr.checkKey
  simp only [Sem.run_bind, run_und hu, Result.andThen_ok]
  cases d <;> first | (cases hk; done) | (cases k <;> rfl)
theorem run_findKey {kt : TypeId} {d : TypeDesc} {k : Value} {ms : List MapEntry} {r : Option (Nat × Value)} (hu : undO P kt = some d) (hf : Instr.findNow d k ms 0 = some r) : (Instr.findKey kt k ms).run P w = .ok r w := by
  simp only [Instr.findKey, Sem.run_bind, run_und hu, Result.andThen_ok, hf, Sem.run_pure]
theorem okTup_rel (ok : Bool) {v : SV} {x : Value} (hv : VR ρ v x) (b : Bool) : VR ρ (okTup ok v b) (if ok then .tuple #[x, .bool b] else x) := by
  cases ok with
  | false => exact hv
  | true => exact .tup (.cons hv (.cons (.lit _) .nil))
theorem mapEs_ok (s : Sim P G M ρ h w) {m : SV} {m' : Value} {es : List (Value × SV × Nat)} (hm : VR ρ m m') (he : mapEs m h = some es) : ∃ ms : Array MapEntry, ER ρ es ms.toList ∧
    (m' = .map none ∧ ms = #[] ∨ ∃ r k, m' = .map (some r) ∧ w.heap[r]? = some (.map ms k)) := by
  unfold mapEs at he
  split at he
  · cases hm; cases he; exact ⟨#[], .nil, .inl ⟨rfl, rfl⟩⟩
  · rename_i o
    cases hm with
    | @mapv _ b hb =>
      cases ho : hget h o with
      | mapo es' k own =>
        rw [ho] at he
        cases he
        obtain ⟨xs, hk, her⟩ := obj_map s hb ho
        exact ⟨xs, her, .inr ⟨_, k, rfl, hk⟩⟩
      | _ => rw [ho] at he; cases he
  · cases he
theorem lookup_ok (s : Sim P G M ρ h w) (ty : TypeId) {m k : SV} {m' k' : Value} (hm : VR ρ m m') (hk : VR ρ k k') (ok : Bool) :
    ValOK P G M ρ h w ((Instr.lookup ty m' k' ok).run P w) (lookup1 P h ty m k ok) := by
  unfold lookup1
  split
  · rename_i kt el hu
    split
    · rename_i es d kv hes hd
      cases hk
      refine ifB_ok (Q := ValOK P G M ρ h w _) .bad fun hko => ?_
      obtain ⟨ms, her, hcase⟩ := mapEs_ok s hm hes
      have hck : ∀ b, (Instr.checkKey b 10000 kt k').run P w = .ok () w := fun b => run_checkKey hd hko b
      have hrun : (Instr.lookup ty m' k' ok).run P w = ((do
          let (v, ok') ← match ← Instr.findKey kt k' ms.toList with
            | some (_, v) => pure (v, true)
            | none => pure (← zeroValue el, false)
          pure (if ok then Value.tuple #[v, .bool ok'] else v) : Sem Value)).run P w := by
        rcases hcase with ⟨rfl, rfl⟩ | ⟨r, q, rfl, hr⟩
        · simp only [Instr.lookup, Sem.run_bind, run_und hu, Result.andThen_ok, Sem.run_pure, hck]; rfl
        · simp only [Instr.lookup, Sem.run_bind, run_und hu, Result.andThen_ok, Sem.run_pure, run_getMap hr, hck]; rfl
      rw [hrun]
      cases hf : findK d k' es 0 with
      | none => exact .bad
      | some r =>
        have hfk := findK_ok her hf
        cases r with
        | none =>
          change ValOK P G M ρ h w _ (match zeroO P el with
            | some z => .val (okTup ok (.lit z) false) h
            | none => .bad)
          cases hz : zeroO P el with
          | none => exact .bad
          | some z =>
            refine .quiet s (x := if ok then .tuple #[z, .bool false] else z) ?_ (okTup_rel ok (.lit z) false)
            simp only [Sem.run_bind, run_findKey hd hfk, Result.andThen_ok, run_zero hz, Sem.run_pure]
        | some p =>
          obtain ⟨j, v⟩ := p
          obtain ⟨x, n, e, h1, h2, h3, _⟩ := hfk
          refine .quiet s (x := if ok then .tuple #[x, .bool true] else x) ?_ (okTup_rel ok h3 true)
          simp only [Sem.run_bind, run_findKey hd h2, Result.andThen_ok, Sem.run_pure]
    · exact .bad
  · exact .bad

-- updates
theorem ER.put {k : Value} {v : SV} {x : Value} (hv : VR ρ v x) : ∀ (i : Nat) {es : List (Value × SV × Nat)} {ms : List MapEntry}, ER ρ es ms → ER ρ (mapPut i k v es) (ms.modify i fun e => { e with key := k, val := x }) := by
  intro i
  induction i with
  | zero =>
    intro es ms he
    cases he with
    | nil => exact .nil
    | cons h t => exact .cons hv t
  | succ i ih =>
    intro es ms he
    cases he with
    | nil => exact .nil
    | cons h t => exact .cons h (ih t)
theorem ER.append {es fs : List (Value × SV × Nat)} {ms ns : List MapEntry} (h : ER ρ es ms) (k : ER ρ fs ns) : ER ρ (es ++ fs) (ms ++ ns) := by
  induction h with
  | nil => exact k
  | cons h _ ih => exact .cons h ih
theorem turn_setMap {r : Nat} {ob nb : Obj} (hk : w.heap[r]? = some ob) : Turn w { w with heap := w.heap.setIfInBounds r nb } r nb := by
  have hlt := lt_of_at hk
  refine ⟨rfl, rfl, rfl, by simp, fun k hk' => ?_, ?_⟩
  · show (w.heap.setIfInBounds r nb)[k]? = _
    rw [Array.getElem?_setIfInBounds_ne (Ne.symm hk')]
  · show (w.heap.setIfInBounds r nb)[r]? = _
    rw [Array.getElem?_setIfInBounds_self_of_lt hlt]
theorem run_setMap {r : Nat} {xs : Array MapEntry} {q : Nat} {nb : Obj} (hk : w.heap[r]? = some (.map xs q)) : (setObj r nb).run P w = .ok () { w with heap := w.heap.setIfInBounds r nb } := by simp [setObj, Sem.run, hk]
theorem mapUpdate_ok (s : Sim P G M ρ h w) (ty : TypeId) {m k v : SV} {m' k' v' : Value} (hm : VR ρ m m') (hk : VR ρ k k') (hv : VR ρ v v') :
    UnitOK P G M ρ h w ((Instr.mapUpdate ty m' k' v').run P w) (mapUpdate1 P h ty m k v) := by
  unfold mapUpdate1
  split
  · rename_i o
    split
    · rename_i es c kt el kv ho hu
      cases hk
      cases hm with
      | @mapv _ b hb =>
        obtain ⟨xs, hx, her⟩ := obj_map s hb ho
        cases hd : undO P kt with
        | none => trivial
        | some d =>
          refine ifB_ok (Q := UnitOK P G M ρ h w _) (by trivial) fun hko => ?_
          have hck := run_checkKey (w := w) (k := k') hd hko false
          cases hf : findK d k' es 0 with
          | none => trivial
          | some r =>
            have hfk := findK_ok her hf
            cases r with
            | none =>
              change UnitOK P G M ρ h w _ (putE h o (.mapo (appM es [(k', v, c)]) (Nat.succ c) true) fun h => .val undefS h)
              rw [putE_eq, appM_eq]
              have ht := turn_setMap (nb := .map (xs.push { key := k', val := v', born := c }) (c + 1)) hx
              obtain ⟨s2, g2⟩ := s.put (ob := .mapo (es ++ [(k', v, c)]) (Nat.succ c) true) hb (by rw [ho]; rfl) ht.os ht.tape ht.output ht.size ht.other (by
                rw [ht.here]
                refine .mapo ?_
                rw [Array.toList_push]
                exact her.append (.cons hv .nil))
              refine ⟨ρ, _, ?_, rfl, s2, g2⟩
              simp only [Instr.mapUpdate, Sem.run_bind, run_und hu, Result.andThen_ok, run_getMap hx, hck, run_findKey hd hfk, run_setMap hx]
            | some p =>
              obtain ⟨j, u⟩ := p
              obtain ⟨x, n, e, h1, h2, h3, h4, h5, h6⟩ := hfk
              obtain rfl : j = n := by omega
              change UnitOK P G M ρ h w _ (putE h o (.mapo (mapPut j k' v es) c true) fun h => .val undefS h)
              rw [putE_eq]
              have ht := turn_setMap (nb := .map (xs.modify j fun e => { e with key := k', val := v' }) c) hx
              obtain ⟨s2, g2⟩ := s.put (ob := .mapo (mapPut j k' v es) c true) hb (by rw [ho]; rfl) ht.os ht.tape ht.output ht.size ht.other (by
                rw [ht.here]
                refine .mapo ?_
                rw [Array.toList_modify]
                exact her.put hv j)
              refine ⟨ρ, _, ?_, rfl, s2, g2⟩
              have hkey : ((xs[j]?).map (·.key)).getD k' = e.key := by
                rw [show xs[j]? = some e by rw [← h4]; simp]; rfl
              simp only [Instr.mapUpdate, Sem.run_bind, run_und hu, Result.andThen_ok, run_getMap hx, hck, run_findKey hd h2, hkey, Instr.keyThatStays, h6, if_true, Sem.run_pure, run_setMap hx]
    · trivial
  · trivial
end
end Go.Play
