/- Play: regions that draw their order are sound; a run is sound. -/
import Derived.Test.YteoegpkfdbcklaaGreatDoorPlayX
namespace Go.Play
set_option linter.unusedVariables false
set_option linter.unusedSimpArgs false

theorem findW_dst {t : Tmp} : ∀ (os : List Oper) (k j : Nat), findW t (writers os k) = some j → ∃ o, os[j - k]? = some o ∧ o.dst = some t ∧ k ≤ j := by
  intro os
  induction os with
  | nil => intro k j h; cases h
  | cons o os ih =>
    intro k j h
    unfold writers at h
    have next : findW t (writers os (Nat.succ k)) = some j → ∃ o', (o :: os)[j - k]? = some o' ∧ o'.dst = some t ∧ k ≤ j := by
      intro h
      obtain ⟨o', h1, h2, h3⟩ := ih _ _ h
      refine ⟨o', ?_, h2, by omega⟩
      rw [show j - k = (j - Nat.succ k) + 1 by omega]; simpa using h1
    cases hd : o.dst with
    | none => rw [hd] at h; exact next h
    | some d =>
      rw [hd] at h
      simp only [] at h
      unfold findW at h
      cases hb : Nat.beq d t with
      | true =>
        rw [hb] at h
        cases h
        exact ⟨o, by simp, by rw [hd, Nat.eq_of_beq_eq_true hb], Nat.le_refl _⟩
      | false => rw [hb] at h; exact next h
theorem writer_dst {ops : Array Oper} {t : Tmp} {i : Nat} (h : findW t (writers ops.toList 0) = some i) : ∃ o, ops[i]? = some o ∧ o.dst = some t := by
  obtain ⟨o, h1, h2, _⟩ := findW_dst _ _ _ h
  exact ⟨o, by simpa using h1, h2⟩
theorem enter_cases (P : Program) (f : FuncId) (args : List SV) (kind : CallKind) : (∀ K, enterK P f args kind K = .bad) ∨ ∃ f' : SF, (∀ K, enterK P f args kind K = K f') ∧ fiOf f' = .mk f kind none ∧ (∃ fn, P.funcs[f]? = some fn) ∧
    ∀ (ρ : Env) (xs : Array Value), VRL ρ args xs.toList → SFR ρ f' (Frame.enter P f xs kind) := by
  by_cases hbad : ∀ K, enterK P f args kind K = .bad
  · exact .inl hbad
  · refine .inr ?_
    unfold enterK at hbad ⊢
    cases hf : funcO P f with
    | none => rw [hf] at hbad; exact absurd (fun K => rfl) hbad
    | some fn =>
      rw [hf] at hbad
      change ¬ ∀ K, enter2 fn.body f fn.ntmps args kind K = .bad at hbad
      cases hb : fn.body with
      | none => rw [hb] at hbad; exact absurd (fun K => rfl) hbad
      | some c =>
        rw [hb] at hbad
        change ¬ ∀ K, enter3 (okCode c fn.ntmps) c f args kind K = .bad at hbad
        cases hc : okCode c fn.ntmps with
        | false => rw [hc] at hbad; exact absurd (fun K => rfl) hbad
        | true =>
          obtain ⟨t', e, hg⟩ := argsK_ok args .nil .e (fun tm => .next (.mk (.mk f kind none) tm [.code c] [] .run) [] (.mk .e .nil))
          have heq : ∀ K : SF → Res, argsK args .nil .e (fun tm => K (.mk (.mk f kind none) tm [.code c] [] .run)) = K (.mk (.mk f kind none) t' [.code c] [] .run) := by
            have key : ∀ (args : List SV) (t : T SV) (i : Pa), ∃ t2, ∀ K : T SV → Res, argsK args t i K = K t2 := by
              intro args
              induction args with
              | nil => intro t i; exact ⟨t, fun K => rfl⟩
              | cons v l ih =>
                intro t i
                obtain ⟨t2, h2⟩ := ih (sset' i v t) (Pa.succ i)
                exact ⟨t2, fun K => by show sset i v t (fun t => argsK l t (Pa.succ i) K) = _; rw [sset_eq]; exact h2 K⟩
            obtain ⟨t2, h2⟩ := key args .nil .e
            have : t2 = t' := by
              have h3 := h2 (fun tm => .next (.mk (.mk f kind none) tm [.code c] [] .run) [] (.mk .e .nil))
              rw [e] at h3
              injection h3 with h3
              injection h3 with _ h3
              exact h3.symm
            intro K
            rw [h2, this]
          rw [funcO_eq] at hf
          refine ⟨.mk (.mk f kind none) t' [.code c] [] .run, fun K => ?_, rfl, ⟨fn, hf⟩, fun ρ xs hl => ?_⟩
          · rw [← heq K]
            show enter2 fn.body f fn.ntmps args kind K = _
            rw [hb]
            show enter3 (okCode c fn.ntmps) c f args kind K = _
            rw [hc]; rfl
          · have := enter_ok (P := P) (f := f) (args := args) (kind := kind) hl (K := fun f' => .next f' [] (.mk .e .nil)) (Q := fun r => ∀ f', r = .next f' [] (.mk .e .nil) → SFR ρ f' (Frame.enter P f xs kind)) (fun f' e => by cases e) (fun f' hf' _ _ f'' e => by cases e; exact hf')
            refine this _ ?_
            unfold enterK
            rw [funcO_eq, hf]
            show enter2 fn.body f fn.ntmps args kind _ = _
            rw [hb]
            show enter3 (okCode c fn.ntmps) c f args kind _ = _
            rw [hc]
            exact heq (fun f' => .next f' [] (.mk .e .nil))

section
variable {P : Program} {G : Glob} {ops : Array Oper} {tm0 : T SV} {h0 : H} {M : Nat → Prop} {ρ0 ρ ρ' : Env} {w0 w w' : World} {pl : List PI} {l : List Nat} {tm : T SV} {h : H} {fl : Fl} {ts : Array Value} {i : Nat} {o : Oper}

/-- A late operation is done. -/
theorem DInv.ran (hP : SlotP ops (masks ops.toList []) (writers ops.toList 0)) (ho : ops[i]? = some o) (hi : i ∉ plI pl) (hd : ∀ d, o.dst = some d → d < ts.size) (D : DInv P G ops tm0 h0 M ρ0 w0 pl (i :: l) tm h fl ts ρ w) (s' : Sim P G M ρ' h w') (g' : Grow M ρ0 h0 w0 ρ' h w') (hle : Env.le ρ ρ') {x : Value}
    (hv : ∀ d, o.dst = some d → VR ρ' (sget (pa d) tm) x) (hρ : ∀ j ∈ l, ∀ q, (j, q, true) ∈ fl → ρ q = none → ρ' q = none) : DInv P G ops tm0 h0 M ρ0 w0 pl l tm h fl (putT o.dst x ts) ρ' w' := by
  obtain ⟨hnd1, hnd2⟩ := List.nodup_cons.1 D.nodup
  refine ⟨s', g', fun t => ?_, D.keep0, fun j hj hjn => ?_, by rw [putT_size]; exact D.phantom, D.flb, D.fln, D.plan, D.mem, D.closed, fun j hj => ?_, hnd2, fun j hj => D.lt j (by simp [hj]), fun j hj hjn k hk hkn => ?_, fun j b e k hk hkn => ?_, fun a j b e k hk hkn => ?_⟩
  · have := D.slots t
    unfold slotV at this ⊢
    cases hw : findW t (writers ops.toList 0) with
    | none =>
      rw [hw] at this
      simp only [] at this ⊢
      rw [putT_other fun e => by rw [dst_writer hP ho e] at hw; cases hw]
      exact this.mono hle
    | some i' =>
      rw [hw] at this
      simp only [] at this ⊢
      by_cases e : i' = i
      · subst e
        obtain ⟨o', ho', hdo⟩ := writer_dst hw
        rw [ho] at ho'; cases ho'
        rw [if_neg hnd1, hdo, putT_at (hd t hdo)]
        exact hv t hdo
      · rw [putT_other fun e' => e (by rw [dst_writer hP ho e'] at hw; cases hw; rfl)]
        have hiff : i' ∈ i :: l ↔ i' ∈ l := by simp [e]
        by_cases hm : i' ∈ l
        · rw [if_pos (hiff.2 hm)] at this; rw [if_pos hm]; exact this.mono hle
        · rw [if_neg fun k => hm (hiff.1 k)] at this; rw [if_neg hm]; exact this.mono hle
  · obtain ⟨oj, tmj, k1, k2, k3, k4⟩ := D.late j (by simp [hj]) hjn
    refine ⟨oj, tmj, k1, k2, k3, ?_⟩
    rcases k4 with a | ⟨a, hj', u, hs, b1, b2, b3, b4, b5, b6, b7⟩
    · exact .inl a
    · refine .inr ⟨a, hj', u, hs, b1, b2, b3, b4, b5, b6, ?_⟩
      rcases b7 with c | ⟨c1, c2, c3, c4⟩
      · exact .inl c
      · exact .inr ⟨c1, hρ j hj _ c4 c2, c3, c4⟩
  · have := D.sub j hj
    cases this with
    | head => exact absurd hj hi
    | tail _ hm => exact hm
  · by_cases e : j = i
    · exact D.head i l rfl k (e ▸ hk) (by simp [hkn])
    · exact D.down j hj (by simp [e, hjn]) k hk (by simp [hkn])
  · have := D.tail [i] j b (by rw [e]; rfl) k hk (by simp [hkn])
    simp at this
    exact hnd1 (this ▸ hkn)
  · have := D.tail (i :: a) j b (by rw [e]; rfl) k hk (by simp [hkn])
    cases this with
    | head => exact absurd hkn hnd1
    | tail _ hm => exact hm
/-- A heavy operation is done, in the plan and in the run. -/
theorem DInv.heavy (hP : SlotP ops (masks ops.toList []) (writers ops.toList 0)) {p : PI} (hpi : p.i = i) (ho : ops[i]? = some o) (hd : ∀ d, o.dst = some d → d < ts.size) (D : DInv P G ops tm0 h0 M ρ0 w0 (p :: pl) (i :: l) tm h fl ts ρ w) {hu : H} (s' : Sim P G M ρ' hu w') (g' : Grow M ρ h w ρ' hu w')
    {v : SV} {x : Value} (hv : VR ρ' v x) (hph : Phantom P G (putS o.dst v tm) hu ts.size) (hq : ∀ q, Named fl p.mask q → hget hu q = hget h q) : DInv P G ops tm0 h0 M ρ0 w0 pl l (putS o.dst v tm) hu fl (putT o.dst x ts) ρ' w' := by
  obtain ⟨hnd1, hnd2⟩ := List.nodup_cons.1 D.nodup
  obtain ⟨pn1, pn2, _, pn4⟩ := D.plan
  obtain ⟨_, hpm⟩ := D.mem p (by simp)
  rw [hpi] at pn1 hpm
  refine ⟨s', D.grow.trans g', fun t => ?_, fun t ht => ?_, fun j hj hjn => ?_, by rw [putT_size]; exact hph, fun e he => Nat.lt_of_lt_of_le (D.flb e he) g'.nx, D.fln, pn4, fun q hq => D.mem q (by simp [hq]), fun j hj hjn k hk hkn => ?_, fun j hj => ?_, hnd2, fun j hj => D.lt j (by simp [hj]), fun j hj hjn k hk hkn => ?_, fun j b e k hk hkn => ?_, fun a j b e k hk hkn => ?_⟩
  · have := D.slots t
    unfold slotV at this ⊢
    cases hw : findW t (writers ops.toList 0) with
    | none =>
      rw [hw] at this
      simp only [] at this ⊢
      have hne : o.dst ≠ some t := fun e => by rw [dst_writer hP ho e] at hw; cases hw
      rw [putT_other hne, putS_other hne]
      exact this.mono g'.keep
    | some i' =>
      rw [hw] at this
      simp only [] at this ⊢
      by_cases e : i' = i
      · subst e
        obtain ⟨o', ho', hdo⟩ := writer_dst hw
        rw [ho] at ho'; cases ho'
        rw [if_neg hnd1, hdo, putT_at (hd t hdo), putS_at]
        exact hv
      · have hne : o.dst ≠ some t := fun e' => e (by rw [dst_writer hP ho e'] at hw; cases hw; rfl)
        rw [putT_other hne, putS_other hne]
        have hiff : i' ∈ i :: l ↔ i' ∈ l := by simp [e]
        by_cases hm : i' ∈ l
        · rw [if_pos (hiff.2 hm)] at this; rw [if_pos hm]; exact this.mono g'.keep
        · rw [if_neg fun k => hm (hiff.1 k)] at this; rw [if_neg hm]; exact this.mono g'.keep
  · rw [putS_other, D.keep0 t fun i' hi' => by rw [plI_cons]; simp [ht i' hi']]
    intro e
    exact pn1 (ht i (dst_writer hP ho e))
  · have hne : j ≠ i := fun e => hnd1 (e ▸ hj)
    refine (D.late j (by simp [hj]) (by rw [plI_cons, hpi]; simp [hne, hjn])).stays hP (p := p) (by rw [hpi]; exact ho) (by rw [hpi]; exact hne) (fun q b hqb => hq q ⟨_, hqb, ?_, rfl⟩) (fun _ he => he) (fun q hqt hn => ?_)
    · show Nat.testBit p.mask j = false
      cases hb : Nat.testBit p.mask j with
      | false => rfl
      | true => exact absurd (by simp [hj]) (D.head i l rfl j (by rw [hpm]; exact hb))
    · cases hr : ρ' q with
      | none => rfl
      | some b =>
        have := g'.new q hn (by rw [hr]; simp)
        have := D.flb _ hqt
        simp only at this
        omega
  · by_cases e : j = i
    · subst e; exact pn2 k (by rw [← hpm]; exact hk) (by rw [plI_cons]; simp [hkn])
    · exact D.closed j hj (by rw [plI_cons, hpi]; simp [e, hjn]) k hk (by rw [plI_cons]; simp [hkn])
  · have := D.sub j (by rw [plI_cons]; simp [hj])
    cases this with
    | head => exact absurd hj pn1
    | tail _ hm => exact hm
  · by_cases e : j = i
    · exact D.head i l rfl k (e ▸ hk) (by simp [hkn])
    · exact D.down j hj (by simp [e, hjn]) k hk (by simp [hkn])
  · have := D.tail [i] j b (by rw [e]; rfl) k hk (by simp [hkn])
    simp at this
    exact hnd1 (this ▸ hkn)
  · have := D.tail (i :: a) j b (by rw [e]; rfl) k hk (by simp [hkn])
    cases this with
    | head => exact absurd hkn hnd1
    | tail _ hm => exact hm
theorem mk_out {ops : Array Oper} {i j : Nat} (h : Nat.testBit (mkO ops i) j = true) : i < ops.size := by
  rcases Nat.lt_or_ge i ops.size with h1 | h1
  · exact h1
  · have : mkO ops i = 0 := by
      unfold mkO
      rw [List.getD_eq_getElem?_getD, List.getElem?_eq_none (by rw [(masks_spec _ _).1]; simpa using h1)]; rfl
    rw [this] at h; simp at h
/-- What decides what a late operation does, when its turn comes. -/
theorem DInv.late_slots (hP : SlotP ops (masks ops.toList []) (writers ops.toList 0)) (ho : ops[i]? = some o) (D : DInv P G ops tm0 h0 M ρ0 w0 pl (i :: l) tm h fl ts ρ w) {tmj : T SV} (ha : ∀ t ∈ needs ops o, Agree ops tm0 i tm tmj t) :
    ∀ t ∈ needs ops o, VR ρ (sget (pa t) tmj) (ts.getD t undef) := by
  intro t ht
  have h1 := D.slots t
  have h2 := ha t ht
  unfold slotV at h1
  unfold Agree at h2
  cases hw : findW t (writers ops.toList 0) with
  | none =>
    rw [hw] at h1 h2
    simp only [] at h1 h2
    rw [D.keep0 t fun i' hi' => (by rw [hw] at hi'; cases hi'), h2] at h1
    exact h1
  | some i' =>
    rw [hw] at h1 h2
    simp only [] at h1 h2
    by_cases hb : Nat.testBit (mkO ops i) i' = true
    · rw [if_pos hb] at h2
      rw [if_neg (D.head i l rfl i' hb), h2] at h1
      exact h1
    · rw [if_neg hb] at h2
      have hin : i' ∈ i :: l := by
        rcases needs_writer hP ho ht hw with k | k | k
        · rw [k]; simp
        · exact absurd k hb
        · exact Classical.byContradiction fun hn => D.down i' (mk_out k) hn i k (by simp)
      rw [if_pos hin, h2] at h1
      exact h1
theorem DInv.heavy_slots (hP : SlotP ops (masks ops.toList []) (writers ops.toList 0)) (ho : ops[i]? = some o) (hi : i ∈ plI pl) (D : DInv P G ops tm0 h0 M ρ0 w0 pl (i :: l) tm h fl ts ρ w) : ∀ t ∈ needs ops o, VR ρ (sget (pa t) tm) (ts.getD t undef) := by
  intro t ht
  have h1 := D.slots t
  unfold slotV at h1
  cases hw : findW t (writers ops.toList 0) with
  | none => rw [hw] at h1; exact h1
  | some i' =>
    rw [hw] at h1
    simp only [] at h1
    by_cases hin : i' ∈ i :: l
    · rw [if_pos hin] at h1
      rw [D.keep0 t fun i2 hi2 => ?_]
      · exact h1
      · rw [hw] at hi2; cases hi2
        rcases needs_writer hP ho ht hw with k | k | k
        · rw [k]; exact hi
        · exact absurd hin (D.head i l rfl i' k)
        · exact Classical.byContradiction fun hn => D.closed i' (mk_out k) hn i k hi
    · rw [if_neg hin] at h1; exact h1
/-- A guard, as the run sees it. -/
theorem want_ok {tmj : T SV} (hn : ∀ t ∈ needs ops o, VR ρ (sget (pa t) tmj) (ts.getD t undef)) : Region.wanted o (yielded ops ts) = wantG o.guard ops tmj := by
  obtain ⟨tm', ht, hag⟩ := slots_some ts (needs ops o) hn
  unfold Region.wanted
  cases hg : o.guard with
  | none => rfl
  | some g =>
    obtain ⟨j, want⟩ := g
    show (yielded ops ts j == some want) = guardB (syielded ops tmj j) want
    rw [guardB_eq, ← yielded_ok ht]
    congr 1
    unfold syielded
    rw [nthO_eq, Array.getElem?_toList]
    cases h0 : ops[j]? with
    | none => rfl
    | some o0 =>
      show yield2 (dstOf o0) tm' = yield2 (dstOf o0) tmj
      rw [dstOf_eq]
      cases hd : o0.dst with
      | none => rfl
      | some d =>
        show boolOf (sget (pa d) tm') = boolOf (sget (pa d) tmj)
        rw [hag d (needs_guard hg h0 hd)]
end
end Go.Play
