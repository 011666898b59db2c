/- Play: regions that draw their order: what every order keeps, what a plan tells. -/
import Derived.Test.YteoegpkfdbcklaaGreatDoorPlayV
namespace Go.Play
set_option linter.unusedVariables false
set_option linter.unusedSimpArgs false

-- bits
theorem bit_pow (k i : Nat) : Nat.testBit (Nat.pow 2 k) i = decide (k = i) := by
  show Nat.testBit (2 ^ k) i = _
  rw [Nat.testBit_two_pow]
theorem bit_lor (a b i : Nat) : Nat.testBit (Nat.lor a b) i = (Nat.testBit a i || Nat.testBit b i) := Nat.testBit_or a b i
theorem bit_full (n i : Nat) : Nat.testBit (Nat.sub (Nat.pow 2 n) 1) i = decide (i < n) := Nat.testBit_two_pow_sub_one n i
theorem sub_bits {a b : Nat} (h : sub a b = true) (i : Nat) (hi : Nat.testBit a i = true) : Nat.testBit b i = true := by
  have e : Nat.land a b = a := Nat.eq_of_beq_eq_true h
  have e2 : Nat.testBit (a &&& b) i = Nat.testBit a i := congrArg (fun x => Nat.testBit x i) e
  rw [Nat.testBit_and, hi] at e2
  simpa using e2

-- masks
theorem maskE_bits {ms : List Nat} : ∀ {l : List Edge} {i : Nat}, Nat.testBit (maskE ms l) i = true → ∃ e ∈ l, Region.binds .any e = true ∧ (i = e.on ∨ Nat.testBit (ms.getD e.on 0) i = true) := by
  intro l
  induction l with
  | nil => intro i h; unfold maskE at h; simp at h
  | cons e l ih =>
    intro i h
    unfold maskE at h
    cases hb : Region.binds .any e with
    | false =>
      rw [hb] at h
      obtain ⟨e', he, k⟩ := ih h
      exact ⟨e', by simp [he], k⟩
    | true =>
      rw [hb] at h
      simp only [bit_lor, bit_pow, Bool.or_eq_true, decide_eq_true_eq] at h
      rcases h with (h | h) | h
      · exact ⟨e, by simp, hb, .inl h.symm⟩
      · exact ⟨e, by simp, hb, .inr h⟩
      · obtain ⟨e', he, k⟩ := ih h
        exact ⟨e', by simp [he], k⟩
theorem masks_spec : ∀ (l : List Oper) (ms : List Nat), (masks l ms).length = ms.length + l.length ∧ (∀ j, j < ms.length → (masks l ms)[j]? = ms[j]?) ∧
    ∀ j o, l[j]? = some o → (masks l ms)[ms.length + j]? = some (maskE ((masks l ms).take (ms.length + j)) o.after.toList) := by
  intro l
  induction l with
  | nil => intro ms; exact ⟨by simp [masks], fun _ _ => rfl, fun j o h => by simp at h⟩
  | cons o l ih =>
    intro ms
    obtain ⟨h1, h2, h3⟩ := ih (ms ++ [maskE ms o.after.toList])
    simp only [List.length_append, List.length_singleton] at h1 h2 h3
    have hpre : ∀ j, j < ms.length → (masks (o :: l) ms)[j]? = ms[j]? := by
      intro j hj
      show (masks l (ms ++ [maskE ms o.after.toList]))[j]? = _
      rw [h2 j (by omega), List.getElem?_append_left hj]
    refine ⟨by show (masks l _).length = _; rw [h1]; simp; omega, hpre, fun j o' hj => ?_⟩
    cases j with
    | zero =>
      simp at hj; subst hj
      show (masks l (ms ++ [maskE ms o.after.toList]))[ms.length + 0]? = _
      rw [Nat.add_zero, h2 ms.length (by omega)]
      have ht : (masks (o :: l) ms).take ms.length = ms := by
        apply List.ext_getElem?
        intro i
        rw [List.getElem?_take]
        by_cases hi : i < ms.length
        · rw [if_pos hi]; exact hpre i hi
        · rw [if_neg hi, List.getElem?_eq_none (by omega)]
      rw [ht]; simp
    | succ j =>
      have := h3 j o' (by simpa using hj)
      show (masks l (ms ++ [maskE ms o.after.toList]))[ms.length + (j + 1)]? = _
      rw [show ms.length + (j + 1) = ms.length + 1 + j by omega]
      exact this
/-- The place of every edge that binds in every order lies ahead. -/
def Resp (ops : Array Oper) (l : List Nat) : Prop := ∀ a i b, l = a ++ i :: b → ∀ o, ops[i]? = some o → ∀ e ∈ o.after.toList, Region.binds .any e = true → e.on ∈ a
theorem mask_ahead {ops : Array Oper} {l : List Nat} (hr : Resp ops l) : ∀ (i : Nat) (a b : List Nat), l = a ++ i :: b → i < ops.size → ∀ j, Nat.testBit ((masks ops.toList []).getD i 0) j = true → j ∈ a := by
  intro i
  induction i using Nat.strongRecOn with
  | ind i ih =>
    intro a b hl hi j hj
    obtain ⟨h1, h2, h3⟩ := masks_spec ops.toList []
    simp only [List.length_nil, Nat.zero_add] at h1 h3
    have ho : ops.toList[i]? = some ops[i] := by simp [hi]
    have ho' : ops[i]? = some ops[i] := by simp [hi]
    have hm := h3 i _ ho
    rw [List.getD_eq_getElem?_getD, hm, Option.getD_some] at hj
    obtain ⟨e, he, hb, hcase⟩ := maskE_bits hj
    have hon := hr a i b hl _ ho' e he hb
    rcases hcase with rfl | hcase
    · exact hon
    · by_cases hlt : e.on < i
      · rw [List.getD_eq_getElem?_getD, List.getElem?_take, if_pos hlt, ← List.getD_eq_getElem?_getD] at hcase
        obtain ⟨a1, a2, ha⟩ := List.append_of_mem hon
        have := ih e.on hlt a1 (a2 ++ i :: b) (by rw [hl, ha]; simp) (by omega) j hcase
        rw [ha]; simp [this]
      · rw [List.getD_eq_getElem?_getD, List.getElem?_take, if_neg hlt] at hcase
        simp at hcase

-- every order
theorem orderOk_legal {md : Region.Mode} {os : List Oper} : ∀ (l : List Nat) (m : Nat), orderOk md os l m = true →
    (∀ a i b, l = a ++ i :: b → ∃ o, os[i]? = some o ∧ ∀ e ∈ o.after.toList, Region.binds md e = true → Nat.testBit m e.on = true ∨ e.on ∈ a) ∧ ∀ i, i < os.length → Nat.testBit m i = true ∨ i ∈ l := by
  intro l
  induction l with
  | nil =>
    intro m h
    refine ⟨fun a i b e => by simp at e, fun i hi => .inl ?_⟩
    have : m = Nat.sub (Nat.pow 2 os.length) 1 := Nat.eq_of_beq_eq_true h
    rw [this, bit_full]; simpa using hi
  | cons j l ih =>
    intro m h
    unfold orderOk at h
    cases ho : os[j]? with
    | none => rw [ho] at h; cases h
    | some o =>
      rw [ho] at h
      simp only [Bool.and_eq_true] at h
      obtain ⟨h1, h2⟩ := h
      obtain ⟨k1, k2⟩ := ih _ h2
      refine ⟨fun a i b e => ?_, fun i hi => ?_⟩
      · cases a with
        | nil =>
          simp at e
          obtain ⟨rfl, rfl⟩ := e
          refine ⟨o, ho, fun e he hb => .inl ?_⟩
          unfold edgesIn at h1
          have := List.all_eq_true.1 h1 e he
          simpa [hb] using this
        | cons x a =>
          simp at e
          obtain ⟨rfl, rfl⟩ := e
          obtain ⟨o', ho', k⟩ := k1 a i b rfl
          refine ⟨o', ho', fun e he hb => ?_⟩
          rcases k e he hb with k | k
          · rw [bit_lor, bit_pow] at k
            simp only [Bool.or_eq_true, decide_eq_true_eq] at k
            rcases k with k | k
            · exact .inl k
            · exact .inr (by simp [k])
          · exact .inr (by simp [k])
      · rcases k2 i hi with k | k
        · rw [bit_lor, bit_pow] at k
          simp only [Bool.or_eq_true, decide_eq_true_eq] at k
          rcases k with k | k
          · exact .inl k
          · exact .inr (by simp [k])
        · exact .inr (by simp [k])
/-- An order of a mode exists. -/
def Legal (ops : Array Oper) (md : Region.Mode) : Prop := ∃ l : List Nat, (∀ a i b, l = a ++ i :: b → ∃ o, ops[i]? = some o ∧ ∀ e ∈ o.after.toList, Region.binds md e = true → e.on ∈ a) ∧ ∀ i, i < ops.size → i ∈ l
theorem legal_of {ops : Array Oper} {md : Region.Mode} {l : List Nat} (h : orderOk md ops.toList l 0 = true) : Legal ops md := by
  obtain ⟨h1, h2⟩ := orderOk_legal l 0 h
  refine ⟨l, fun a i b e => ?_, fun i hi => ?_⟩
  · obtain ⟨o, ho, k⟩ := h1 a i b e
    refine ⟨o, by simpa using ho, fun e he hb => ?_⟩
    rcases k e he hb with k | k
    · simp at k
    · exact k
  · rcases h2 i (by simpa using hi) with k | k
    · simp at k
    · exact k
theorem binds_any {md : Region.Mode} {e : Edge} (h : Region.binds .any e = true) : Region.binds md e = true := by
  unfold Region.binds at h ⊢
  cases hg : e.ground <;> rw [hg] at h <;> first | rfl | cases h
theorem legal_any {ops : Array Oper} {md : Region.Mode} (h : Legal ops md) : Legal ops .any := by
  obtain ⟨l, h1, h2⟩ := h
  refine ⟨l, fun a i b e => ?_, h2⟩
  obtain ⟨o, ho, k⟩ := h1 a i b e
  exact ⟨o, ho, fun e he hb => k e he (binds_any hb)⟩
structure Order (ops : Array Oper) (l : List Nat) : Prop where
  nodup : l.Nodup
  all : ∀ i, i ∈ l ↔ i < ops.size
  resp : Resp ops l
theorem first_missing {p : Nat → Prop} [DecidablePred p] : ∀ (l : List Nat), (∃ i ∈ l, ¬ p i) → ∃ a i b, l = a ++ i :: b ∧ ¬ p i ∧ ∀ j ∈ a, p j := by
  intro l
  induction l with
  | nil => rintro ⟨i, hi, _⟩; cases hi
  | cons x l ih =>
    rintro ⟨i, hi, hn⟩
    by_cases hx : p x
    · obtain ⟨a, j, b, e, h1, h2⟩ := ih ⟨i, by
        cases hi with
        | head => exact absurd hx hn
        | tail _ hm => exact hm, hn⟩
      exact ⟨x :: a, j, b, by rw [e]; rfl, h1, fun k hk => by
        cases hk with
        | head => exact hx
        | tail _ hm => exact h2 k hm⟩
    · exact ⟨[], x, l, rfl, hx, fun k hk => by cases hk⟩
theorem linearise_go {ops : Array Oper} {md : Region.Mode} (hL : Legal ops md) : ∀ (fuel t : Nat) (listed : Array Bool) (acc : List Nat), listed.size = ops.size → acc.Nodup → acc.length + fuel = ops.size → (∀ i, listed.getD i true = true ↔ (i ∈ acc ∨ ops.size ≤ i)) →
    (∀ i, i ∈ acc → i < ops.size) → Resp ops acc.reverse → Order ops (Region.linearise.go md ops fuel t listed acc) := by
  intro fuel
  induction fuel with
  | zero =>
    intro t listed acc hz hnd hlen hl hlt hr
    unfold Region.linearise.go
    refine ⟨List.pairwise_reverse.2 (hnd.imp fun h => Ne.symm h), fun i => ?_, hr⟩
    rw [List.mem_reverse]
    refine ⟨hlt i, fun hi => ?_⟩
    -- as many as there are
    have hsub : acc ⊆ List.range ops.size := fun j hj => List.mem_range.2 (hlt j hj)
    have hperm : ∀ (l r : List Nat), l.Nodup → r.Nodup → l ⊆ r → r.length ≤ l.length → r ⊆ l := by
      intro l
      induction l with
      | nil => intro r _ _ _ h; cases r with
        | nil => exact fun _ h => h
        | cons => simp at h
      | cons x l ih =>
        intro r hl hr hs hle y hy
        have hxr : x ∈ r := hs (by simp)
        by_cases e : y = x
        · rw [e]; simp
        · have : y ∈ l := ih (r.erase x) (List.nodup_cons.1 hl).2 (hr.erase x) (fun z hz => by
            have hne : z ≠ x := fun e => (List.nodup_cons.1 hl).1 (e ▸ hz)
            exact (List.mem_erase_of_ne hne).2 (hs (by simp [hz]))) (by
            rw [List.length_erase_of_mem hxr]; simp at hle; omega) ((List.mem_erase_of_ne e).2 hy)
          simp [this]
    exact hperm acc (List.range ops.size) hnd List.nodup_range hsub (by simp; omega) (List.mem_range.2 hi)
  | succ fuel ih =>
    intro t listed acc hz hnd hlen hl hlt hr
    unfold Region.linearise.go
    simp only []
    generalize hrs : ((List.range ops.size).filter fun i => !listed.getD i true && ((ops[i]?).map fun o => o.after.all fun e => !Region.binds md e || listed.getD e.on false).getD false) = rs
    have hmem : ∀ i, i ∈ rs → i < ops.size ∧ i ∉ acc ∧ ∀ o, ops[i]? = some o → ∀ e ∈ o.after.toList, Region.binds md e = true → e.on ∈ acc := by
      intro i hi
      rw [← hrs, List.mem_filter] at hi
      obtain ⟨h1, h2⟩ := hi
      have h1 := List.mem_range.1 h1
      rw [Bool.and_eq_true] at h2
      refine ⟨h1, fun hm => ?_, fun o ho e he hb => ?_⟩
      · have := (hl i).2 (.inl hm); rw [this] at h2; simp at h2
      · have h3 := h2.2
        rw [ho] at h3
        simp only [Option.map_some, Option.getD_some] at h3
        rw [← Array.all_toList] at h3
        have := List.all_eq_true.1 h3 e he
        rw [hb] at this
        have h4 : listed.getD e.on false = true := by simpa using this
        have h5 : e.on < ops.size := by
          rcases Nat.lt_or_ge e.on ops.size with k | k
          · exact k
          · have : listed.getD e.on false = false := by simp [Array.getD, hz]; omega
            rw [this] at h4; cases h4
        have h6 : listed.getD e.on true = true := by
          have e1 : listed.getD e.on true = listed[e.on] := by simp [Array.getD, hz, h5]
          have e2 : listed.getD e.on false = listed[e.on] := by simp [Array.getD, hz, h5]
          rw [e1, ← e2]; exact h4
        rcases (hl e.on).1 h6 with k | k
        · exact k
        · omega
    have hne : rs ≠ [] := by
      obtain ⟨L, l1, l2⟩ := hL
      have hmiss : ∃ i ∈ L, ¬ i ∈ acc := by
        by_cases hex : ∃ i, i < ops.size ∧ i ∉ acc
        · obtain ⟨i, hi, hn⟩ := hex
          exact ⟨i, l2 i hi, hn⟩
        · exfalso
          have hall : ∀ i, i < ops.size → i ∈ acc := fun i hi => Classical.byContradiction fun k => hex ⟨i, hi, k⟩
          have hs : List.range ops.size ⊆ acc := fun i hi => hall i (List.mem_range.1 hi)
          have hcard : ∀ (l r : List Nat), l.Nodup → l ⊆ r → l.length ≤ r.length := by
            intro l
            induction l with
            | nil => intro r _ _; simp
            | cons x l ih =>
              intro r hl hs
              have hxr : x ∈ r := hs (by simp)
              have := ih (r.erase x) (List.nodup_cons.1 hl).2 (fun z hz => by
                have hne : z ≠ x := fun e => (List.nodup_cons.1 hl).1 (e ▸ hz)
                exact (List.mem_erase_of_ne hne).2 (hs (by simp [hz])))
              rw [List.length_erase_of_mem hxr] at this
              have : 0 < r.length := List.length_pos_of_mem hxr
              simp; omega
          have := hcard _ _ List.nodup_range hs
          simp at this; omega
      obtain ⟨a, i, b, e, hni, hall⟩ := first_missing (p := fun i => i ∈ acc) L hmiss
      obtain ⟨o, ho, k⟩ := l1 a i b e
      have hi : i < ops.size := by
        rcases Nat.lt_or_ge i ops.size with k | k
        · exact k
        · rw [Array.getElem?_eq_none k] at ho; cases ho
      have : i ∈ rs := by
        rw [← hrs, List.mem_filter]
        refine ⟨List.mem_range.2 hi, ?_⟩
        rw [Bool.and_eq_true]
        constructor
        · cases hg : listed.getD i true with
          | false => rfl
          | true => rcases (hl i).1 hg with k | k
                    · exact absurd k hni
                    · omega
        · rw [ho]
          simp only [Option.map_some, Option.getD_some]
          rw [← Array.all_toList]
          refine List.all_eq_true.2 fun e he => ?_
          cases hb : Region.binds md e with
          | false => rfl
          | true =>
            have hin := hall _ (k e he hb)
            have h5 := hlt _ hin
            have h6 := (hl e.on).2 (.inl hin)
            have e1 : listed.getD e.on true = listed[e.on] := by simp [Array.getD, hz, h5]
            have e2 : listed.getD e.on false = listed[e.on] := by simp [Array.getD, hz, h5]
            simp only [Bool.not_true, Bool.false_or]
            rw [e2, ← e1]; exact h6
      intro e'; rw [e'] at this; cases this
    have hlen' : 0 < rs.length := List.length_pos_iff.2 hne
    have hidx : t % rs.length < rs.length := Nat.mod_lt _ hlen'
    rw [List.getElem?_eq_getElem hidx]
    simp only []
    generalize hi : rs[t % rs.length] = i
    have him : i ∈ rs := by rw [← hi]; exact List.getElem_mem _
    obtain ⟨m1, m2, m3⟩ := hmem i him
    refine ih _ _ (i :: acc) (by simp [hz]) (List.nodup_cons.2 ⟨m2, hnd⟩) (by simp; omega) (fun j => ?_) (fun j hj => ?_) ?_
    · by_cases e : j = i
      · subst e; simp [Array.getD, hz, m1]
      · have : (listed.setIfInBounds i true).getD j true = listed.getD j true := by
          simp only [Array.getD_eq_getD_getElem?, Array.getElem?_setIfInBounds_ne (Ne.symm e)]
        rw [this, hl j]; simp [e]
    · cases hj with
      | head => exact m1
      | tail _ hm => exact hlt j hm
    · intro a k b hab o ho e he hb
      rw [List.reverse_cons] at hab
      rcases List.eq_nil_or_concat b with rfl | ⟨b', y, rfl⟩
      · have := List.append_inj' hab (by simp)
        obtain ⟨h1, h2⟩ := this
        simp at h2; subst h2
        rw [← h1, List.mem_reverse]
        exact m3 o ho e he (binds_any hb)
      · have hab' : acc.reverse ++ [i] = (a ++ k :: b') ++ [y] := by rw [hab]; simp
        have := List.append_inj' hab' (by simp)
        exact hr a k b' this.1 o ho e he hb
theorem linearise_order {ops : Array Oper} {md : Region.Mode} (hL : Legal ops md) (t : Nat) : Order ops (Region.linearise md ops t) := by
  unfold Region.linearise
  refine linearise_go hL ops.size t _ [] (by simp) List.nodup_nil (by simp) (fun i => ?_) (fun i hi => by cases hi) (fun a i b e => by simp at e)
  by_cases hi : i < ops.size
  · simp [Array.getD, hi]
  · simp [Array.getD, hi]; omega
theorem schedule_order {ops : Array Oper} (ht : Legal ops .text) (hg : Region.departs ops = true → Legal ops .gc) (mixed : Bool) (t : Nat) : Order ops (Region.schedule mixed ops t) := by
  unfold Region.schedule
  split
  · exact linearise_order (legal_any ht) t
  · rename_i h
    have hd : Region.departs ops = true := by
      cases hd : Region.departs ops with
      | true => rfl
      | false => rw [hd] at h; simp at h
    split
    · exact linearise_order ht _
    · exact linearise_order (hg hd) _

-- plans
def plI (l : List PI) : List Nat := l.map PI.i
/-- Each comes once, behind those that must come before it; what comes behind a heavy one must. -/
def PlanP : List PI → Prop
  | [] => True
  | p :: l => p.i ∉ plI l ∧ (∀ i, Nat.testBit p.mask i = true → i ∉ plI (p :: l)) ∧ (p.heavy = true → ∀ q ∈ l, Nat.testBit q.mask p.i = true) ∧ PlanP l
theorem planOk_P : ∀ (l : List PI) (em hm e : Nat), planOk l em hm = some e →
    (∀ q ∈ l, Nat.testBit em q.i = false) ∧ (∀ q ∈ l, ∀ i, Nat.testBit hm i = true → Nat.testBit q.mask i = true) ∧ (∀ i, Nat.testBit e i = true → Nat.testBit em i = true ∨ i ∈ plI l) ∧ PlanP l := by
  intro l
  induction l with
  | nil => intro em hm e h; cases h; exact ⟨fun q hq => (by cases hq), fun q hq => (by cases hq), fun i hi => .inl hi, trivial⟩
  | cons p l ih =>
    intro em hm e h
    unfold planOk at h
    split at h
    · rename_i h1 h2 h3
      obtain ⟨k1, k2, k3, k4⟩ := ih _ _ _ h
      have hin : ∀ q ∈ l, Nat.testBit em q.i = false ∧ p.i ≠ q.i := by
        intro q hq
        have := k1 q hq
        rw [bit_lor, bit_pow] at this
        simp only [Bool.or_eq_false_iff, decide_eq_false_iff_not] at this
        exact this
      have hnot : p.i ∉ plI l := by
        intro hm'
        obtain ⟨q, hq, e⟩ := List.mem_map.1 hm'
        exact (hin q hq).2 e.symm
      refine ⟨fun q hq => ?_, fun q hq i hi => ?_, fun i hi => ?_, hnot, fun i hi => ?_, fun hp q hq => ?_, k4⟩
      · cases hq with
        | head => exact h1
        | tail _ hm' => exact (hin q hm').1
      · cases hq with
        | head => exact sub_bits h3 i hi
        | tail _ hm' =>
          refine k2 q hm' i ?_
          cases p.heavy with
          | true => simp only [bit_lor, hi, Bool.true_or]
          | false => exact hi
      · rcases k3 i hi with k | k
        · rw [bit_lor, bit_pow] at k
          simp only [Bool.or_eq_true, decide_eq_true_eq] at k
          rcases k with k | k
          · exact .inl k
          · exact .inr (by simp [plI, k])
        · exact .inr (by simp only [plI, List.map_cons, List.mem_cons]; exact .inr k)
      · have hem := sub_bits h2 i hi
        intro hm'
        simp only [plI, List.map_cons, List.mem_cons] at hm'
        rcases hm' with rfl | hm'
        · rw [h1] at hem; cases hem
        · obtain ⟨q, hq, e⟩ := List.mem_map.1 hm'
          rw [← e, (hin q hq).1] at hem; cases hem
      · refine k2 q hq p.i ?_
        rw [hp]
        simp only [bit_lor, bit_pow, decide_true, Bool.or_true]
    · cases h
theorem items_spec : ∀ (os : List Oper) (ms : List Nat) (k : Nat) (p : PI), p ∈ items os ms k → ∃ j, p.i = k + j ∧ os[j]? = some p.o ∧ ms[j]? = some p.mask := by
  intro os
  induction os with
  | nil => intro ms k p hp; cases ms <;> (simp [items] at hp)
  | cons o os ih =>
    intro ms k p hp
    cases ms with
    | nil => simp [items] at hp
    | cons m ms =>
      unfold items at hp
      cases hp with
      | head => exact ⟨0, rfl, rfl, rfl⟩
      | tail _ hm =>
        obtain ⟨j, h1, h2, h3⟩ := ih ms _ p hm
        exact ⟨j + 1, by rw [h1]; omega, by simpa using h2, by simpa using h3⟩
theorem orderP_mem (H : Nat) : ∀ (hs pend : List PI) (hm : Nat) (p : PI), p ∈ orderP H hs pend hm → p ∈ hs ∨ p ∈ pend := by
  intro hs
  induction hs with
  | nil => intro pend hm p hp; exact .inr hp
  | cons h hs ih =>
    intro pend hm p hp
    unfold orderP at hp
    rcases List.mem_append.1 hp with k | k
    · exact .inr (List.mem_filter.1 k).1
    · cases k with
      | head => exact .inl (by simp)
      | tail _ hm' =>
        rcases ih _ _ _ hm' with k | k
        · exact .inl (by simp [k])
        · exact .inr (List.mem_filter.1 k).1
theorem planned_mem {l : List PI} {p : PI} (h : p ∈ planned l) : p ∈ l := by
  rcases orderP_mem _ _ _ _ _ h with k | k
  · exact (List.mem_filter.1 k).1
  · exact (List.mem_filter.1 k).1
/-- Each slot has one writer, and whoever reads it is ordered with that one. -/
structure SlotP (ops : Array Oper) (ms : List Nat) (W : List (Tmp × Nat)) : Prop where
  own : ∀ j o, ops[j]? = some o → ∀ d, o.dst = some d → findW d W = some j
  reads : ∀ j o, ops[j]? = some o → ∀ t ∈ tmpsOf o.op, apartW ms j (findW t W) = true
  guard : ∀ j o, ops[j]? = some o → ∀ g, o.guard = some g → Nat.testBit (ms.getD j 0) g.1 = true
theorem slotsOk_P (all : List Oper) (ms : List Nat) (W : List (Tmp × Nat)) : ∀ (l : List Oper) (k : Nat), slotsOk all ms W l k = true → ∀ j o, l[j]? = some o →
    (∀ d, o.dst = some d → findW d W = some (k + j)) ∧ (∀ t ∈ tmpsOf o.op, apartW ms (k + j) (findW t W) = true) ∧ ∀ g, o.guard = some g → Nat.testBit (ms.getD (k + j) 0) g.1 = true := by
  intro l
  induction l with
  | nil => intro k _ j o h; simp at h
  | cons x l ih =>
    intro k h j o hj
    unfold slotsOk at h
    simp only [Bool.and_eq_true] at h
    obtain ⟨⟨⟨h1, h2⟩, h3⟩, h4⟩ := h
    cases j with
    | zero =>
      simp at hj; subst hj
      refine ⟨fun d hd => ?_, fun t ht => List.all_eq_true.1 h2 t ht, fun g hg => ?_⟩
      · rw [hd] at h1
        simp only [] at h1
        cases hf : findW d W with
        | none => rw [hf] at h1; cases h1
        | some i => rw [hf] at h1; rw [Nat.eq_of_beq_eq_true h1]; rfl
      · unfold guardOk at h3; rw [hg] at h3; exact h3
    | succ j =>
      have := ih _ h4 j o (by simpa using hj)
      rw [show Nat.succ k + j = k + (j + 1) by omega] at this
      exact this
structure Plan (ops : Array Oper) (pl : List PI) : Prop where
  mem : ∀ p ∈ pl, ops[p.i]? = some p.o ∧ (masks ops.toList []).getD p.i 0 = p.mask
  all : ∀ i, i < ops.size → i ∈ plI pl
  plan : PlanP pl
  slots : SlotP ops (masks ops.toList []) (writers ops.toList 0)
  order : ∀ mixed t, Order ops (Region.schedule mixed ops t)
theorem plan_some {ops : Array Oper} {pl : List PI} (h : plan ops = some pl) : Plan ops pl := by
  unfold plan planL planB at h
  split at h
  · rename_i hc
    cases h
    simp only [Bool.and_eq_true] at hc
    obtain ⟨⟨⟨h1, h2⟩, h3⟩, h4⟩ := hc
    have hmem : ∀ p ∈ planned (items ops.toList (masks ops.toList []) 0), ops[p.i]? = some p.o ∧ (masks ops.toList []).getD p.i 0 = p.mask := by
      intro p hp
      obtain ⟨j, k1, k2, k3⟩ := items_spec _ _ _ _ (planned_mem hp)
      rw [Nat.zero_add] at k1
      rw [k1]
      refine ⟨by simpa using k2, ?_⟩
      rw [List.getD_eq_getElem?_getD, k3]; rfl
    unfold planE at h1
    split at h1
    · rename_i m hm
      obtain ⟨k1, k2, k3, k4⟩ := planOk_P _ _ _ _ hm
      have hsl := slotsOk_P ops.toList _ _ ops.toList 0 h2
      refine ⟨hmem, fun i hi => ?_, k4, ⟨fun j o ho => ?_, fun j o ho => ?_, fun j o ho => ?_⟩, schedule_order (legal_of h3) fun hd => ?_⟩
      · have : m = Nat.sub (Nat.pow 2 ops.toList.length) 1 := Nat.eq_of_beq_eq_true h1
        rcases k3 i (by rw [this, bit_full]; simpa using hi) with k | k
        · simp at k
        · exact k
      · have := (hsl j o (by simpa using ho)).1; rw [Nat.zero_add] at this; exact this
      · have := (hsl j o (by simpa using ho)).2.1; rw [Nat.zero_add] at this; exact this
      · have := (hsl j o (by simpa using ho)).2.2; rw [Nat.zero_add] at this; exact this
      · unfold departOk at h4; rw [hd] at h4; exact legal_of h4
    · cases h1
  · cases h
end Go.Play
