/- Play: the operations: maps, iterators, assertions, panics. -/
import Derived.Test.YteoegpkfdbcklaaGreatDoorPlayL
import Derived.Laws.StructEq
namespace Go.Play
set_option linter.unusedVariables false
set_option linter.unusedSimpArgs false
section
variable {P : Program} {G : Glob} {M : Nat → Prop} {ρ : Env} {h : H} {w : World}

-- keys
theorem sameK_ok {d : TypeDesc} {k k' : Value} {b : Bool} (h : sameK d k k' = some b) : Instr.sameNow d k k' = some b := by
  unfold sameK at h
  split at h
  · cases k <;> cases k' <;> first | (cases h; done) | skip
    rename_i a x c y
    simp only [] at h
    cases hk : Nat.beq (kIdx a) (kIdx c) with
    | false => rw [hk] at h; cases h
    | true =>
      rw [hk] at h
      cases h
      obtain rfl := kIdx_inj hk
      rw [iEq_eq]
      simp only [Instr.sameNow, if_true]
  · cases k <;> cases k' <;> first | (cases h; done) | skip
    cases h
    rw [← str_eq]
    rfl
  · cases k <;> cases k' <;> first | (cases h; done) | skip
    cases h
    rfl
  · cases h
theorem sameK_bits {d : TypeDesc} {k k' : Value} (h : sameK d k k' = some true) (n : Nat) : Instr.sameBits n k' k = true := by
  have h0 := sameK_ok h
  clear h
  unfold Instr.sameNow at h0
  split at h0
  · rename_i a x c y
    split at h0
    · rename_i e; subst e
      have h0 : (x == y) = true := by injection h0
      rw [beq_iff_eq] at h0; subst h0
      unfold Instr.sameBits; simp
    · cases h0
  · rename_i x y
    have h0 : (x == y) = true := by injection h0
    have h2 : x = y := by
      have e : (x == y) = (x.data == y.data) := rfl
      rw [e, beq_iff_eq] at h0
      cases x; cases y; cases h0; rfl
    subst h2
    unfold Instr.sameBits; exact h0
  · rename_i x y
    have h0 : (x == y) = true := by injection h0
    rw [beq_iff_eq] at h0; subst h0
    unfold Instr.sameBits; simp
  · cases h0
/-- What was found among the entries of a map. -/
def Found (ρ : Env) (es : List (SV × SV × Nat)) (ms : List MapEntry) (i : Nat) (r : Option (Nat × SV)) (r' : Option (Nat × Value)) : Prop :=
  match r with
  | none => r' = none
  | some (j, v) => ∃ x n e, j = i + n ∧ r' = some (j, x) ∧ VR ρ v x ∧ ms[n]? = some e ∧ n < ms.length
theorem Found.next {es : List (SV × SV × Nat)} {ms : List MapEntry} {p : SV × SV × Nat} {m : MapEntry} {i : Nat} {r : Option (Nat × SV)} {r' : Option (Nat × Value)} (h : Found ρ es ms (i + 1) r r') : Found ρ (p :: es) (m :: ms) i r r' := by
  cases r with
  | none => exact h
  | some q =>
    obtain ⟨j, v⟩ := q
    obtain ⟨x, n, e, h1, h2, h3, h4, h5⟩ := h
    exact ⟨x, n + 1, e, by omega, h2, h3, by simpa using h4, by simp; omega⟩
theorem findK_ok {d : TypeDesc} {k : Value} {es : List (SV × SV × Nat)} {ms : List MapEntry} (he : ER ρ es ms) : ∀ {i : Nat} {r : Option (Nat × SV)}, findK d k es i = some r →
    ∃ r', Instr.findNow d k ms i = some r' ∧ Found ρ es ms i r r' ∧ ∀ j v, r = some (j, v) → ∃ kv, (nthK (j - i) es) = .lit kv ∧ Instr.sameBits 10000 kv k = true := by
  induction he with
  | nil => intro i r hr; cases hr; exact ⟨none, rfl, rfl, fun j v e => by cases e⟩
  | @cons k1 key1 v1 x1 b1 l m hk hv ht ih =>
    intro i r hr
    change findK2 (sameKS k1 d k) i v1 (findK d k l) = some r at hr
    cases hs : sameKS k1 d k with
    | none => rw [hs] at hr; cases hr
    | some b =>
      rw [hs] at hr
      cases k1 with
      | lit kv =>
        cases hk
        have hs : sameK d k key1 = some b := hs
        have hn := sameK_ok hs
        cases b with
        | true =>
          cases hr
          refine ⟨some (i, x1), ?_, ⟨x1, 0, _, rfl, rfl, hv, rfl, by simp⟩, fun j v e => ?_⟩
          · unfold Instr.findNow
            simp only [hn]
          · cases e
            rw [Nat.sub_self]
            exact ⟨key1, rfl, sameK_bits hs _⟩
        | false =>
          change findK d k l (Nat.succ i) = some r at hr
          obtain ⟨r', h1, h2, h3⟩ := ih hr
          refine ⟨r', ?_, h2.next, fun j v e => ?_⟩
          · unfold Instr.findNow
            simp only [hn]; exact h1
          · subst e
            obtain ⟨x, n, e, q1, _⟩ := h2
            obtain ⟨kv, q2, q3⟩ := h3 j v rfl
            refine ⟨kv, ?_, q3⟩
            rw [show j - i = (j - Nat.succ i) + 1 by omega]
            exact q2
      | _ => cases hs
theorem findA_ok {kt : TypeId} {k' : Value} {e : SV → Option Bool} {es : List (SV × SV × Nat)} {ms : List MapEntry} (heq : ∀ (a : SV) (a' : Value) (b : Bool), VR ρ a a' → e a = some b → (Op.equal kt k' a').run P w = .ok b w) (he : ER ρ es ms) :
    ∀ {i : Nat} {r : Option (Nat × SV)}, findA e es i = some r → ∃ r', (Instr.findAsking kt k' ms i).run P w = .ok r' w ∧ Found ρ es ms i r r' := by
  induction he with
  | nil => intro i r hr; cases hr; exact ⟨none, rfl, rfl⟩
  | @cons k1 key1 v1 x1 b1 l m hk hv ht ih =>
    intro i r hr
    change findK2 (e k1) i v1 (findA e l) = some r at hr
    cases hs : e k1 with
    | none => rw [hs] at hr; cases hr
    | some b =>
      rw [hs] at hr
      have hq := heq k1 key1 b hk hs
      cases b with
      | true =>
        cases hr
        refine ⟨some (i, x1), ?_, ⟨x1, 0, _, rfl, rfl, hv, rfl, by simp⟩⟩
        simp only [Instr.findAsking, Sem.run_bind, hq, Result.andThen_ok, if_true, Sem.run_pure]
      | false =>
        change findA e l (Nat.succ i) = some r at hr
        obtain ⟨r', h1, h2⟩ := ih hr
        refine ⟨r', ?_, h2.next⟩
        simp only [Instr.findAsking, Sem.run_bind, hq, Result.andThen_ok, Bool.false_eq_true, if_false]
        exact h1

-- equality by the type
theorem eqF_ok {xs ys : List SV} {xs' ys' : Array Value} (hx : VRL ρ xs xs'.toList) (hy : VRL ρ ys ys'.toList) {e : TypeId → SV → SV → Option Bool} {n : Nat} (heq : ∀ (t : TypeId) (a b : SV) (a' b' : Value) (r : Bool), VR ρ a a' → VR ρ b b' → e t a b = some r → (Op.equalIn n t a' b').run P w = .ok r w) :
    ∀ (fs : List Field) {r : Bool}, eqF e P xs ys fs = some r → (Op.eqFields n xs' ys' fs).run P w = .ok r w := by
  intro fs
  induction fs with
  | nil => intro r hr; cases hr; rfl
  | cons f fs ih =>
    intro r hr
    unfold eqF at hr
    split at hr
    · rename_i hn
      have hn : f.name = "_" := by simpa using hn
      simp only [Op.eqFields, hn, ne_eq, not_true_eq_false, if_false]
      exact ih hr
    · rename_i hn
      have hn : f.name ≠ "_" := by simpa using hn
      split at hr
      · rename_i a b ha hb
        obtain ⟨a', h1, h2⟩ := part_ok (w := w) ha hx
        obtain ⟨b', h3, h4⟩ := part_ok (w := w) hb hy
        split at hr
        · rename_i hq
          have := heq _ _ _ _ _ _ h2 h4 hq
          simp only [Op.eqFields, ne_eq, hn, not_false_eq_true, if_true, Sem.run_bind, h1, h3, Result.andThen_ok, this, Bool.not_true, Bool.false_eq_true, if_false]
          exact ih hr
        · rename_i hq
          cases hr
          have := heq _ _ _ _ _ _ h2 h4 hq
          simp only [Op.eqFields, ne_eq, hn, not_false_eq_true, if_true, Sem.run_bind, h1, h3, Result.andThen_ok, this, Bool.not_false, if_true, Sem.run_pure]
        · cases hr
      · cases hr
theorem eqS_ok (s : Sim P G M ρ h w) : ∀ (k n : Nat) (t : TypeId) (a b : SV) (a' b' : Value) (r : Bool), VR ρ a a' → VR ρ b b' → eqS P h k n t a b = some r → (Op.equalIn n t a' b').run P w = .ok r w := by
  intro k
  induction k with
  | zero => intro n t a b a' b' r _ _ hr; unfold eqS at hr; cases hr
  | succ k ih =>
    intro n t a b a' b' r ha hb hr
    cases n with
    | zero => unfold eqS at hr; cases hr
    | succ n =>
      have slow : (match opEq P h t a b with
          | some r => some r
          | none => eqS2 (eqS P h k n) P t a b) = some r → (Op.equalIn (n + 1) t a' b').run P w = .ok r w := by
        intro hr
        cases ho : opEq P h t a b with
        | some q =>
          rw [ho] at hr
          cases hr
          exact (opEq_ok s ha hb ho).2.1 n
        | none =>
          rw [ho] at hr
          simp only [] at hr
          unfold eqS2 at hr
          split at hr
          · rename_i fs xs ys hu hst hxs hys
            obtain ⟨xs', rfl, hx⟩ := aggCells_ok ha hxs
            obtain ⟨ys', rfl, hy⟩ := aggCells_ok hb hys
            have hu' := undO_some hu
            have hf : P.fieldsOf t = fs := by unfold Program.fieldsOf; rw [hu']
            rw [run_equalIn_struct w n t xs' ys' (by rw [hf]; exact hu') hst, hf]
            exact eqF_ok hx hy (fun t a b a' b' r h1 h2 h3 => ih n t a b a' b' r h1 h2 h3) fs.toList hr
          · cases hr
      unfold eqS at hr
      split at hr
      · cases ha; cases hb
        split at hr
        · rename_i q hq; cases hr; exact still_ok hq
        · cases hr
      · exact slow hr
theorem keyFields_ok {cs : List SV} {cs' : Array Value} (hc : VRL ρ cs cs'.toList) (em : Bool) (n : Nat) : ∀ (fs : List Field), keyFields P cs fs = true →
    (forIn (m := Sem) fs PUnit.unit fun f _ =>
      if f.name ≠ "_" then (do
        let p ← Go.part f.type cs' f.offset
        Instr.checkKey em (n + 1) f.type p
        pure (ForInStep.yield PUnit.unit) : Sem (ForInStep PUnit))
      else pure (ForInStep.yield PUnit.unit)).run P w = .ok PUnit.unit w := by
  intro fs
  induction fs with
  | nil => intro _; rfl
  | cons f fs ih =>
    intro h
    unfold keyFields at h
    rw [List.forIn_cons]
    split at h
    · rename_i hn
      have hn : f.name = "_" := by simpa using hn
      simp only [hn, ne_eq, not_true_eq_false, if_false, Sem.run_bind, Sem.run_pure, Result.andThen_ok]
      exact ih h
    · rename_i hn
      have hn : f.name ≠ "_" := by simpa using hn
      split at h
      · rename_i v hp hv
        obtain ⟨x, h1, h2⟩ := part_ok (w := w) hv hc
        have hck : (Instr.checkKey em (n + 1) f.type x).run P w = .ok () w := by
          cases hu : undO P f.type with
          | none => rw [hu] at hp; cases hp
          | some d =>
            rw [hu] at hp
            unfold Instr.checkKey
            simp only [Sem.run_bind, run_und hu, Result.andThen_ok]
            cases d <;> first | (cases hp; done) | (cases x <;> rfl)
        simp only [ne_eq, hn, not_false_eq_true, if_true, Sem.run_bind, h1, Result.andThen_ok, hck, Sem.run_pure]
        exact ih h
      · cases h
theorem keyStruct_ok {kt : TypeId} {d : TypeDesc} {k : SV} {k' : Value} (hu : undO P kt = some d) (hk : VR ρ k k') (h : keyStruct P d k = true) (em : Bool) : (Instr.checkKey em 10000 kt k').run P w = .ok () w ∧ ∃ fs, d = .struct fs := by
  unfold keyStruct at h
  split at h
  · rename_i fs cs hcs
    obtain ⟨cs', rfl, hc⟩ := aggCells_ok hk hcs
    refine ⟨?_, fs, rfl⟩
    have hf := keyFields_ok (P := P) (w := w) hc em 9998 fs.toList h
    unfold Instr.checkKey
    simp only [Sem.run_bind, run_und hu, Result.andThen_ok]
    rw [← Array.forIn_toList]
    refine (congrArg (fun r => Result.andThen r _) hf).trans ?_
    rfl
  · cases h
theorem run_checkKey {kt : TypeId} {d : TypeDesc} {k : Value} (hu : undO P kt = some d) (hk : keyOk d = true) (b : Bool) : (Instr.checkKey b 10000 kt k).run P w = .ok () w := by
  unfold Instr.checkKey
  simp only [Sem.run_bind, run_und hu, Result.andThen_ok]
  cases d <;> first | (cases hk; done) | (cases k <;> rfl)
theorem run_findKey {kt : TypeId} {d : TypeDesc} {k : Value} {ms : List MapEntry} {r : Option (Nat × Value)} (hu : undO P kt = some d) (hf : Instr.findNow d k ms 0 = some r) : (Instr.findKey kt k ms).run P w = .ok r w := by
  simp only [Instr.findKey, Sem.run_bind, run_und hu, Result.andThen_ok, hf, Sem.run_pure]
theorem okTup_rel (ok : Bool) {v : SV} {x : Value} (hv : VR ρ v x) (b : Bool) : VR ρ (okTup ok v b) (if ok then .tuple #[x, .bool b] else x) := by
  cases ok with
  | false => exact hv
  | true => exact .tup (.cons hv (.cons (.lit _) .nil))
theorem mapEs_ok (s : Sim P G M ρ h w) {m : SV} {m' : Value} {es : List (SV × SV × Nat)} (hm : VR ρ m m') (he : mapEs m h = some es) : ∃ ms : Array MapEntry, ER ρ es ms.toList ∧
    (m' = .map none ∧ ms = #[] ∨ ∃ r k, m' = .map (some r) ∧ w.heap[r]? = some (.map ms k)) := by
  unfold mapEs at he
  split at he
  · cases hm; cases he; exact ⟨#[], .nil, .inl ⟨rfl, rfl⟩⟩
  · rename_i o
    cases hm with
    | @mapv _ b hb =>
      cases ho : hget h o with
      | mapo es' k own =>
        rw [ho] at he
        cases he
        obtain ⟨xs, hk, her⟩ := obj_map s hb ho
        exact ⟨xs, her, .inr ⟨_, k, rfl, hk⟩⟩
      | _ => rw [ho] at he; cases he
  · cases he
/-- What is looked for among the entries of a map. -/
theorem findS_ok (s : Sim P G M ρ h w) {kt : TypeId} {d : TypeDesc} {k : SV} {k' : Value} (hd : undO P kt = some d) (hk : VR ρ k k') {es : List (SV × SV × Nat)} {ms : List MapEntry} (he : ER ρ es ms) {r : Option (Nat × SV)} (hr : findS P h kt d k es = some r) :
    (∀ em, (Instr.checkKey em 10000 kt k').run P w = .ok () w) ∧ ∃ r', (Instr.findKey kt k' ms).run P w = .ok r' w ∧ Found ρ es ms 0 r r' ∧ ((keyOk d = true ∧ ∃ kv, k = .lit kv) → ∀ j v, r = some (j, v) → ∃ kv, nthK j es = .lit kv ∧ Instr.sameBits 10000 kv k' = true) := by
  have slow : ¬ (keyOk d = true ∧ ∃ kv, k = .lit kv) → findS2 P h kt d k es = some r → (∀ em, (Instr.checkKey em 10000 kt k').run P w = .ok () w) ∧ ∃ r', (Instr.findKey kt k' ms).run P w = .ok r' w ∧ Found ρ es ms 0 r r' ∧ ((keyOk d = true ∧ ∃ kv, k = .lit kv) → ∀ j v, r = some (j, v) → ∃ kv, nthK j es = .lit kv ∧ Instr.sameBits 10000 kv k' = true) := by
    intro hn hr2
    clear hr
    unfold findS2 at hr2
    split at hr2
    · rename_i hks
      obtain ⟨fs, rfl⟩ := (keyStruct_ok (w := w) hd hk hks true).2
      obtain ⟨r', h1, h2⟩ := findA_ok (kt := kt) (k' := k') (fun a a' b ha hb => eqS_ok s 8 10000 kt k a k' a' b hk ha hb) he hr2
      refine ⟨fun em => (keyStruct_ok hd hk hks em).1, r', ?_, h2, fun q => absurd q hn⟩
      cases he with
      | nil =>
        have e : Instr.findNow (.struct fs) k' [] 0 = some none := rfl
        have : r' = none := by
          have : (Instr.findAsking kt k' [] 0).run P w = .ok none w := rfl
          rw [this] at h1; cases h1; rfl
        subst this
        simp only [Instr.findKey, Sem.run_bind, run_und hd, Result.andThen_ok, e, Sem.run_pure]
      | @cons k1 key1 v1 x1 b1 l m hkk hv ht =>
        have e : Instr.findNow (.struct fs) k' ({ key := key1, val := x1, born := b1 } :: m) 0 = none := by
          unfold Instr.findNow
          have : Instr.sameNow (.struct fs) k' key1 = none := by unfold Instr.sameNow; cases k' <;> cases key1 <;> rfl
          simp only [this]
        simp only [Instr.findKey, Sem.run_bind, run_und hd, Result.andThen_ok, e, h1]
    · cases hr2
  unfold findS at hr
  split at hr
  · rename_i kv hko
    cases hk
    obtain ⟨r', h1, h2, h3⟩ := findK_ok he hr
    refine ⟨fun em => run_checkKey hd hko em, r', run_findKey hd h1, h2, fun _ j v e => ?_⟩
    have := h3 j v e
    rw [Nat.sub_zero] at this
    exact this
  · rename_i hne
    exact slow (fun ⟨q1, kv, q2⟩ => hne kv q1 q2) hr
theorem lookup_ok (s : Sim P G M ρ h w) (ty : TypeId) {m k : SV} {m' k' : Value} (hm : VR ρ m m') (hk : VR ρ k k') (ok : Bool) :
    ValOK P G M ρ h w ((Instr.lookup ty m' k' ok).run P w) (lookup1 P h ty m k ok) := by
  unfold lookup1
  split
  · rename_i kt el hu
    split
    · rename_i es d hes hd
      obtain ⟨ms, her, hcase⟩ := mapEs_ok s hm hes
      cases hf : findS P h kt d k es with
      | none => exact .bad
      | some r =>
        obtain ⟨hck, r', hfk, hfound, _⟩ := findS_ok s hd hk her hf
        have hrun : (Instr.lookup ty m' k' ok).run P w = ((do
            let (v, ok') ← match ← Instr.findKey kt k' ms.toList with
              | some (_, v) => pure (v, true)
              | none => pure (← zeroValue el, false)
            pure (if ok then Value.tuple #[v, .bool ok'] else v) : Sem Value)).run P w := by
          rcases hcase with ⟨rfl, rfl⟩ | ⟨r, q, rfl, hr⟩
          · simp only [Instr.lookup, Sem.run_bind, run_und hu, Result.andThen_ok, Sem.run_pure, hck]; rfl
          · simp only [Instr.lookup, Sem.run_bind, run_und hu, Result.andThen_ok, Sem.run_pure, run_getMap hr, hck]; rfl
        rw [hrun]
        cases r with
        | none =>
          have hfound : r' = none := hfound
          subst hfound
          change ValOK P G M ρ h w _ (match zeroO P el with
            | some z => .val (okTup ok (.lit z) false) h
            | none => .bad)
          cases hz : zeroO P el with
          | none => exact .bad
          | some z =>
            refine .quiet s (x := if ok then .tuple #[z, .bool false] else z) ?_ (okTup_rel ok (.lit z) false)
            simp only [Sem.run_bind, hfk, Result.andThen_ok, run_zero hz, Sem.run_pure]
        | some p =>
          obtain ⟨j, v⟩ := p
          obtain ⟨x, n, e, h1, rfl, h3, _⟩ := hfound
          refine .quiet s (x := if ok then .tuple #[x, .bool true] else x) ?_ (okTup_rel ok h3 true)
          simp only [Sem.run_bind, hfk, Result.andThen_ok, Sem.run_pure]
    · exact .bad
  · exact .bad

-- updates
theorem ER.put {k : SV} {key : Value} {v : SV} {x : Value} (hk : VR ρ k key) (hv : VR ρ v x) : ∀ (i : Nat) {es : List (SV × SV × Nat)} {ms : List MapEntry}, ER ρ es ms → ER ρ (mapPut i k v es) (ms.modify i fun e => { e with key := key, val := x }) := by
  intro i
  induction i with
  | zero =>
    intro es ms he
    cases he with
    | nil => exact .nil
    | cons _ h t => exact .cons hk hv t
  | succ i ih =>
    intro es ms he
    cases he with
    | nil => exact .nil
    | cons hk h t => exact .cons hk h (ih t)
theorem ER.append {es fs : List (SV × SV × Nat)} {ms ns : List MapEntry} (h : ER ρ es ms) (k : ER ρ fs ns) : ER ρ (es ++ fs) (ms ++ ns) := by
  induction h with
  | nil => exact k
  | cons hk h _ ih => exact .cons hk h ih
theorem ER.key {es : List (SV × SV × Nat)} {ms : List MapEntry} (h : ER ρ es ms) : ∀ (n : Nat) {e : MapEntry}, ms[n]? = some e → VR ρ (nthK n es) e.key := by
  induction h with
  | nil => intro n e he; simp at he
  | cons hk h _ ih =>
    intro n e he
    cases n with
    | zero => simp at he; subst he; exact hk
    | succ n => exact ih n (by simpa using he)
theorem cellSame_ok {a b : SV} {x y : Value} (ha : VR ρ a x) (hb : VR ρ b y) (h : cellSame a b = true) : Instr.sameBits 9999 x y = true := by
  unfold cellSame at h
  split at h
  · cases ha; cases hb; exact h
  · rw [Bool.and_eq_true] at h
    have e1 := (Pa.beq_iff _ _).1 h.1
    have e2 := Nat.eq_of_beq_eq_true h.2
    subst e1 e2
    cases ha with
    | ptr _ h1 =>
      cases hb with
      | ptr _ h2 =>
        rw [h1] at h2; cases h2
        unfold Instr.sameBits
        simp
  · cases h
theorem cellsSame_ok : ∀ {l m : List SV} {xs ys : List Value}, VRL ρ l xs → VRL ρ m ys → cellsSame l m = true → xs.length = ys.length ∧ (xs.zip ys).all (fun (x, y) => Instr.sameBits 9999 x y) = true := by
  intro l
  induction l with
  | nil => intro m xs ys h1 h2 h; cases h1; cases m with
    | nil => cases h2; exact ⟨rfl, rfl⟩
    | cons => unfold cellsSame at h; cases h
  | cons a l ih =>
    intro m xs ys h1 h2 h
    cases m with
    | nil => unfold cellsSame at h; cases h
    | cons b m =>
      cases h1 with | cons ha t1 =>
        cases h2 with | cons hb t2 =>
          unfold cellsSame at h
          rw [Bool.and_eq_true] at h
          obtain ⟨q1, q2⟩ := ih t1 t2 h.2
          refine ⟨by simp [q1], ?_⟩
          rw [List.zip_cons_cons, List.all_cons, Bool.and_eq_true]
          exact ⟨cellSame_ok ha hb h.1, q2⟩
theorem keySame_ok {d : TypeDesc} {a b : SV} {x y : Value} (ha : VR ρ a x) (hb : VR ρ b y) (h : keySame d a b = true) (hlit : (keyOk d = true ∧ ∃ kv, b = .lit kv) → ∃ kv, a = .lit kv ∧ Instr.sameBits 10000 kv y = true) : Instr.sameBits 10000 x y = true := by
  unfold keySame at h
  split at h
  · rename_i u v hko
    obtain ⟨kv, e, q⟩ := hlit ⟨hko, _, rfl⟩
    cases e
    cases ha
    exact q
  · split at h
    · rename_i xs ys hxs hys
      obtain ⟨xs', rfl, hx⟩ := aggCells_ok ha hxs
      obtain ⟨ys', rfl, hy⟩ := aggCells_ok hb hys
      obtain ⟨q1, q2⟩ := cellsSame_ok hx hy h
      unfold Instr.sameBits
      rw [Bool.and_eq_true]
      exact ⟨by simpa using q1, q2⟩
    · cases h
theorem turn_setMap {r : Nat} {ob nb : Obj} (hk : w.heap[r]? = some ob) : Turn w { w with heap := w.heap.setIfInBounds r nb } r nb := by
  have hlt := lt_of_at hk
  refine ⟨rfl, rfl, rfl, by simp, fun k hk' => ?_, ?_⟩
  · show (w.heap.setIfInBounds r nb)[k]? = _
    rw [Array.getElem?_setIfInBounds_ne (Ne.symm hk')]
  · show (w.heap.setIfInBounds r nb)[r]? = _
    rw [Array.getElem?_setIfInBounds_self_of_lt hlt]
theorem run_setMap {r : Nat} {xs : Array MapEntry} {q : Nat} {nb : Obj} (hk : w.heap[r]? = some (.map xs q)) : (setObj r nb).run P w = .ok () { w with heap := w.heap.setIfInBounds r nb } := by simp [setObj, Sem.run, hk]
theorem mapUpdate_ok (s : Sim P G M ρ h w) (ty : TypeId) {m k v : SV} {m' k' v' : Value} (hm : VR ρ m m') (hk : VR ρ k k') (hv : VR ρ v v') :
    UnitOK P G M ρ h w ((Instr.mapUpdate ty m' k' v').run P w) (mapUpdate1 P h ty m k v) := by
  unfold mapUpdate1
  split
  · rename_i o
    split
    · rename_i es c kt el ho hu
      cases hm with
      | @mapv _ b hb =>
        obtain ⟨xs, hx, her⟩ := obj_map s hb ho
        cases hd : undO P kt with
        | none => trivial
        | some d =>
          simp only []
          cases hf : findS P h kt d k es with
          | none => trivial
          | some r =>
            obtain ⟨hck, r', hfk, hfound, hlit⟩ := findS_ok s hd hk her hf
            cases r with
            | none =>
              have hfound : r' = none := hfound
              subst hfound
              change UnitOK P G M ρ h w _ (putE h o (.mapo (appM es [(k, v, c)]) (Nat.succ c) true) fun h => .val undefS h)
              rw [putE_eq, appM_eq]
              have ht := turn_setMap (nb := .map (xs.push { key := k', val := v', born := c }) (c + 1)) hx
              obtain ⟨s2, g2⟩ := s.put (ob := .mapo (es ++ [(k, v, c)]) (Nat.succ c) true) hb (by rw [ho]; rfl) ht.os ht.tape ht.output ht.size ht.other (by
                rw [ht.here]
                refine .mapo ?_
                rw [Array.toList_push]
                exact her.append (.cons hk hv .nil))
              refine ⟨ρ, _, ?_, rfl, s2, g2⟩
              simp only [Instr.mapUpdate, Sem.run_bind, run_und hu, Result.andThen_ok, run_getMap hx, hck, hfk, run_setMap hx]
            | some p =>
              obtain ⟨j, u⟩ := p
              obtain ⟨x, n, e, h1, rfl, h3, h4, h5⟩ := hfound
              obtain rfl : j = n := by omega
              refine ifB_ok (Q := UnitOK P G M ρ h w _) (e := putE h o (.mapo (mapPut j k v es) c true) fun h => .val undefS h) (by trivial) fun hks => ?_
              rw [putE_eq]
              have hbits : Instr.sameBits 10000 e.key k' = true := keySame_ok (her.key j h4) hk hks fun q => hlit q j u rfl
              have ht := turn_setMap (nb := .map (xs.modify j fun e => { e with key := k', val := v' }) c) hx
              obtain ⟨s2, g2⟩ := s.put (ob := .mapo (mapPut j k v es) c true) hb (by rw [ho]; rfl) ht.os ht.tape ht.output ht.size ht.other (by
                rw [ht.here]
                refine .mapo ?_
                rw [Array.toList_modify]
                exact her.put hk hv j)
              refine ⟨ρ, _, ?_, rfl, s2, g2⟩
              have hkey : ((xs[j]?).map (·.key)).getD k' = e.key := by
                rw [show xs[j]? = some e by rw [← h4]; simp]; rfl
              simp only [Instr.mapUpdate, Sem.run_bind, run_und hu, Result.andThen_ok, run_getMap hx, hck, hfk, hkey, Instr.keyThatStays, hbits, if_true, Sem.run_pure, run_setMap hx]
    · trivial
  · trivial
end
end Go.Play
