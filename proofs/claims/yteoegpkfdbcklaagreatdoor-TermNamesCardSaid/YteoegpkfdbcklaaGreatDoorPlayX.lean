/- Play: regions that draw their order: what holds between a plan and any order. -/
import Derived.Test.YteoegpkfdbcklaaGreatDoorPlayW
namespace Go.Play
set_option linter.unusedVariables false
set_option linter.unusedSimpArgs false

/-- The slots that decide what an operation does. -/
def needs (ops : Array Oper) (o : Oper) : List Tmp := tmpsOf o.op ++ (match o.guard with | some g => (match ops[g.1]? with | some o0 => o0.dst.toList | none => []) | none => [])
def putT (d : Option Tmp) (x : Value) (ts : Array Value) : Array Value := match d with | some d => ts.setIfInBounds d x | none => ts
noncomputable def putS (d : Option Tmp) (v : SV) (tm : T SV) : T SV := match d with | some d => sset' (pa d) v tm | none => tm
theorem setO_putS (d : Option Tmp) (v : SV) (tm : T SV) (K : T SV → Res) : setO d v tm K = K (putS d v tm) := by
  cases d with
  | none => rfl
  | some d => exact sset_eq _ _ _ _
theorem putS_at {d : Tmp} {v : SV} {tm : T SV} : sget (pa d) (putS (some d) v tm) = v := by show sget (pa d) (sset' (pa d) v tm) = v; rw [sget_set, if_pos rfl]
theorem putS_other {d : Option Tmp} {v : SV} {tm : T SV} {t : Tmp} (h : d ≠ some t) : sget (pa t) (putS d v tm) = sget (pa t) tm := by
  cases d with
  | none => rfl
  | some d => show sget (pa t) (sset' (pa d) v tm) = _; rw [sget_set, if_neg fun e => h (by rw [pa_inj e])]
theorem putT_at {d : Tmp} {x : Value} {ts : Array Value} (h : d < ts.size) : (putT (some d) x ts).getD d undef = x := by simp [putT, Array.getD, h]
theorem putT_other {d : Option Tmp} {x : Value} {ts : Array Value} {t : Tmp} (h : d ≠ some t) : (putT d x ts).getD t undef = ts.getD t undef := by
  cases d with
  | none => rfl
  | some d =>
    have : d ≠ t := fun e => h (by rw [e])
    simp only [putT, Array.getD_eq_getD_getElem?, Array.getElem?_setIfInBounds_ne this]
theorem putT_size (d : Option Tmp) (x : Value) (ts : Array Value) : (putT d x ts).size = ts.size := by cases d <;> simp [putT]
theorem TR.put {ρ : Env} {tm : T SV} {ts : Array Value} (h : TR ρ tm ts) {d : Option Tmp} (hd : ∀ t, d = some t → t < ts.size) {v : SV} {x : Value} (hv : VR ρ v x) : TR ρ (putS d v tm) (putT d x ts) := by
  cases d with
  | none => exact h
  | some d => exact h.set (hd d rfl) hv

section
variable (P : Program) (G : Glob) (ops : Array Oper) (tm0 : T SV) (h0 : H)
/-- What a slot says while the places of l are not done. -/
noncomputable def slotV (l : List Nat) (tm : T SV) (t : Tmp) : SV := match findW t (writers ops.toList 0) with
  | some i => if i ∈ l then sget (pa t) tm0 else sget (pa t) tm
  | none => sget (pa t) tm
def mkO (i : Nat) : Nat := (masks ops.toList []).getD i 0
def Agree (i : Nat) (tm tmj : T SV) (t : Tmp) : Prop := match findW t (writers ops.toList 0) with
  | some i' => if Nat.testBit (mkO ops i) i' = true then sget (pa t) tm = sget (pa t) tmj else sget (pa t) tm0 = sget (pa t) tmj
  | none => sget (pa t) tm0 = sget (pa t) tmj
/-- A light operation that the plan has done and the run has not. -/
def Late (pl : List PI) (tm : T SV) (h : H) (fl : Fl) (ρ : Env) (i : Nat) : Prop :=
  ∃ o tmj, ops[i]? = some o ∧ (∀ t ∈ needs ops o, Agree ops tm0 i tm tmj t) ∧ (∀ j, Nat.testBit (mkO ops i) j = true → j ∉ plI pl) ∧
    ((wantG o.guard ops tmj = false ∧ ∀ d, o.dst = some d → sget (pa d) tm = undefS) ∨
     (wantG o.guard ops tmj = true ∧ ∃ hj v hs, sop o.op o.type P G tmj (smallH (readsO o.op tmj) hj) = .val v hs ∧ (∀ d, o.dst = some d → sget (pa d) tm = v) ∧ (∀ t ∈ tmpsOf o.op, NS (nOf hj).num (sget (pa t) tmj)) ∧
        GS G (nOf hj).num ∧ (nOf h0).num ≤ (nOf hj).num ∧ (∀ q, readsO o.op tmj = some q → hget h q = hget hj q ∧ OS P (nOf hj).num (hget hj q) ∧ (i, q, false) ∈ fl) ∧
        (nOf hs = nOf hj ∨ nOf hs = Pa.succ (nOf hj) ∧ ρ (nOf hj) = none ∧ hget h (nOf hj) = hget hs (nOf hj) ∧ (i, nOf hj, true) ∈ fl)))
/-- Somewhere the plan itself was carried out. -/
def Phantom (tm : T SV) (h : H) (n : Nat) : Prop := ∃ (M : Nat → Prop) (ρ : Env) (w : World) (ts : Array Value), Sim P G M ρ h w ∧ TR ρ tm ts ∧ ts.size = n
/-- Between the plan, whose rest is pl, and the run, whose rest is l. -/
structure DInv (M : Nat → Prop) (ρ0 : Env) (w0 : World) (pl : List PI) (l : List Nat) (tm : T SV) (h : H) (fl : Fl) (ts : Array Value) (ρ : Env) (w : World) : Prop where
  sim : Sim P G M ρ h w
  grow : Grow M ρ0 h0 w0 ρ h w
  slots : ∀ t, VR ρ (slotV ops tm0 l tm t) (ts.getD t undef)
  keep0 : ∀ t, (∀ i, findW t (writers ops.toList 0) = some i → i ∈ plI pl) → sget (pa t) tm = sget (pa t) tm0
  late : ∀ i, i ∈ l → i ∉ plI pl → Late P G ops tm0 h0 pl tm h fl ρ i
  phantom : Phantom P G tm h ts.size
  flb : ∀ e ∈ fl, e.2.1.num < (nOf h).num
  fln : ∀ e ∈ fl, ∀ e' ∈ fl, e.2.2 = true → e'.2.2 = true → e.2.1 = e'.2.1 → e.1 = e'.1
  plan : PlanP pl
  mem : ∀ p ∈ pl, ops[p.i]? = some p.o ∧ mkO ops p.i = p.mask
  closed : ∀ i, i < ops.size → i ∉ plI pl → ∀ j, Nat.testBit (mkO ops i) j = true → j ∉ plI pl
  sub : ∀ i, i ∈ plI pl → i ∈ l
  nodup : l.Nodup
  lt : ∀ i, i ∈ l → i < ops.size
  down : ∀ i, i < ops.size → i ∉ l → ∀ j, Nat.testBit (mkO ops i) j = true → j ∉ l
  head : ∀ i b, l = i :: b → ∀ j, Nat.testBit (mkO ops i) j = true → j ∉ l
  tail : ∀ a i b, l = a ++ i :: b → ∀ j, Nat.testBit (mkO ops i) j = true → j ∈ l → j ∈ a
end

section
variable {P : Program} {G : Glob} {ops : Array Oper} {tm0 : T SV} {h0 : H} {M : Nat → Prop} {ρ0 ρ : Env} {w0 w : World} {pl : List PI} {l : List Nat} {tm : T SV} {h : H} {fl : Fl} {ts : Array Value}

theorem Sim.below_eq (s : Sim P G M ρ h w) : ρ.below (nOf h).num = ρ := by
  funext o
  cases hb : ρ o with
  | none => unfold Env.below; rw [hb]; split <;> rfl
  | some b => exact below_at hb (s.dom o b hb)
/-- A light operation's block gets its name. -/
theorem Sim.light (s : Sim P G M ρ h w) {o : Pa} {b : Loc} {N : Nat} (hn : ρ o = none) (hlt : o.num < (nOf h).num) {w' : World} (ho : w'.os = w.os) (ht : w'.tape = w.tape) (hu : w'.output = w.output)
    (hz : w.heap.size ≤ w'.heap.size) (hbz : b.block < w'.heap.size) (hk : ∀ k, k < w.heap.size → w'.heap[k]? = w.heap[k]?) (hob : OR P ((ρ.below N).put o b) (hget h o) b w'.heap[b.block]?) (hne : hget h o ≠ .none → w.heap.size ≤ b.block) : Sim P G M (ρ.put o b) h w' := by
  by_cases hnone : hget h o = .none
  · exact s.putNone hn hnone hlt hz hbz hk
  · have hbb := hne hnone
    have hle : Env.le ((ρ.below N).put o b) (ρ.put o b) := by
      intro p b' hb'
      unfold Env.put at hb' ⊢
      split at hb'
      · rename_i e; rw [if_pos e]; exact hb'
      · rename_i e; rw [if_neg e]; exact (below_dom hb').2
    exact s.place (h' := h) (fun _ _ => rfl) hn rfl hlt (Nat.le_refl _) ho ht hu hz hbz (fun k _ hk' => hk k hk') (s.fresh _ hbb) (fun o' b' hb' _ e => by have := s.size o' b' hb'; omega) (hob.mono hle)
theorem needs_tmps {o : Oper} {t : Tmp} (h : t ∈ tmpsOf o.op) : t ∈ needs ops o := List.mem_append_left _ h
theorem needs_guard {o o0 : Oper} {g : Nat × Bool} (hg : o.guard = some g) (ho : ops[g.1]? = some o0) {d : Tmp} (hd : o0.dst = some d) : d ∈ needs ops o := by
  unfold needs; rw [hg]; simp only [ho, hd]; simp
/-- The writer of a slot that decides what an operation does: it has none, or one that is ordered with it. -/
theorem needs_writer (hP : SlotP ops (masks ops.toList []) (writers ops.toList 0)) {i : Nat} {o : Oper} (ho : ops[i]? = some o) {t : Tmp} (ht : t ∈ needs ops o) {i' : Nat} (hw : findW t (writers ops.toList 0) = some i') :
    i' = i ∨ Nat.testBit (mkO ops i) i' = true ∨ Nat.testBit (mkO ops i') i = true := by
  unfold needs at ht
  rcases List.mem_append.1 ht with ht | ht
  · have := hP.reads i o ho t ht
    rw [hw] at this
    unfold apartW at this
    simp only [Bool.or_eq_true] at this
    rcases this with (k | k) | k
    · exact .inl (Nat.eq_of_beq_eq_true k)
    · exact .inr (.inl k)
    · exact .inr (.inr k)
  · cases hg : o.guard with
    | none => rw [hg] at ht; cases ht
    | some g =>
      rw [hg] at ht
      cases h0 : ops[g.1]? with
      | none => simp only [h0] at ht; cases ht
      | some o0 =>
        simp only [h0] at ht
        have hd : o0.dst = some t := by cases hdd : o0.dst with
          | none => rw [hdd] at ht; cases ht
          | some d => rw [hdd] at ht; simp at ht; rw [ht]
        have h1 := hP.own g.1 o0 h0 t hd
        rw [hw] at h1
        cases h1
        exact .inr (.inl (hP.guard i o ho g hg))
theorem dst_writer (hP : SlotP ops (masks ops.toList []) (writers ops.toList 0)) {i : Nat} {o : Oper} (ho : ops[i]? = some o) {d : Tmp} (hd : o.dst = some d) : findW d (writers ops.toList 0) = some i := hP.own i o ho d hd
/-- Another operation's slot stays. -/
theorem put_stays (hP : SlotP ops (masks ops.toList []) (writers ops.toList 0)) {i j : Nat} {o : Oper} (ho : ops[i]? = some o) {t : Tmp} (hw : findW t (writers ops.toList 0) = some j) (hne : j ≠ i) (v : SV) : sget (pa t) (putS o.dst v tm) = sget (pa t) tm :=
  putS_other fun e => hne (by have := dst_writer hP ho e; rw [hw] at this; cases this; rfl)
theorem put_stays0 (hP : SlotP ops (masks ops.toList []) (writers ops.toList 0)) {i : Nat} {o : Oper} (ho : ops[i]? = some o) {t : Tmp} (hw : findW t (writers ops.toList 0) = none) (v : SV) : sget (pa t) (putS o.dst v tm) = sget (pa t) tm :=
  putS_other fun e => by have := dst_writer hP ho e; rw [hw] at this; cases this
/-- An operation of the plan that is done now: what was late stays so. -/
theorem Late.stays (hP : SlotP ops (masks ops.toList []) (writers ops.toList 0)) {p : PI} {o : Oper} (hp : ops[p.i]? = some o) {i : Nat} (hne : i ≠ p.i) {h' : H} {fl' : Fl} {ρ' : Env} {v : SV} (k : Late P G ops tm0 h0 (p :: pl) tm h fl ρ i)
    (hq : ∀ q b, (i, q, b) ∈ fl → hget h' q = hget h q) (hfl : ∀ e ∈ fl, e ∈ fl') (hρ : ∀ q, (i, q, true) ∈ fl → ρ q = none → ρ' q = none) : Late P G ops tm0 h0 pl (putS o.dst v tm) h' fl' ρ' i := by
  obtain ⟨oi, tmj, k1, k2, k3, k4⟩ := k
  have own : ∀ d, oi.dst = some d → sget (pa d) (putS o.dst v tm) = sget (pa d) tm := fun d hd => put_stays hP hp (dst_writer hP k1 hd) hne v
  refine ⟨oi, tmj, k1, fun t ht => ?_, fun j hj hm => k3 j hj (by simp only [plI, List.map_cons, List.mem_cons]; exact .inr hm), ?_⟩
  · have := k2 t ht
    unfold Agree at this ⊢
    cases hw : findW t (writers ops.toList 0) with
    | none => rw [hw] at this; exact this
    | some i' =>
      rw [hw] at this
      simp only [] at this ⊢
      by_cases hb : Nat.testBit (mkO ops i) i' = true
      · rw [if_pos hb] at this ⊢
        rw [put_stays hP hp hw (fun e => k3 i' hb (by rw [e]; simp [plI])) v]; exact this
      · rw [if_neg hb] at this ⊢; exact this
  · rcases k4 with ⟨a, b⟩ | ⟨a, hj, u, hs, b1, b2, b3, b4, b5, b6, b7⟩
    · exact .inl ⟨a, fun d hd => by rw [own d hd]; exact b d hd⟩
    · refine .inr ⟨a, hj, u, hs, b1, fun d hd => by rw [own d hd]; exact b2 d hd, b3, b4, b5, fun q hq' => ?_, ?_⟩
      · obtain ⟨c1, c2, c3⟩ := b6 q hq'
        exact ⟨by rw [hq q _ c3]; exact c1, c2, hfl _ c3⟩
      · rcases b7 with c | ⟨c1, c2, c3, c4⟩
        · exact .inl c
        · exact .inr ⟨c1, hρ _ c4 c2, by rw [hq _ _ c4]; exact c3, hfl _ c4⟩
theorem flR_mem {q : Option Pa} {i : Nat} {e : Nat × Pa × Bool} : e ∈ flR q i fl ↔ (∃ o, q = some o ∧ e = (i, o, false)) ∨ e ∈ fl := by
  cases q with
  | none => show e ∈ fl ↔ _; simp
  | some o => show e ∈ (i, o, false) :: fl ↔ _; simp
/-- A phantom's light operation. -/
theorem Phantom.light {n : Nat} (hp : Phantom P G tm h n) {o : Oper} (hd : ∀ d, o.dst = some d → d < n) {v : SV} {hs : H} (he : sop o.op o.type P G tm (smallH (readsO o.op tm) h) = .val v hs) :
    (nOf hs = nOf h → Phantom P G (putS o.dst v tm) h n) ∧ (nOf hs = Pa.succ (nOf h) → Phantom P G (putS o.dst v tm) (hpush h (hget hs (nOf h))) n) ∧ (∀ t, NS (nOf h).num (sget (pa t) tm)) ∧
      (∀ q, readsO o.op tm = some q → OS P (nOf h).num (hget h q) ∧ q.num < (nOf h).num) := by
  obtain ⟨Mp, ρp, wp, tsp, s, ht, hz⟩ := hp
  have hns : ∀ t, NS (nOf h).num (sget (pa t) tm) := fun t => (ht t).ns s.dom
  have hrd : ∀ q, readsO o.op tm = some q → OS P (nOf h).num (hget h q) ∧ q.num < (nOf h).num := by
    intro q hq
    obtain ⟨b, hb⟩ := readsO_named (evalT_rel ht) hq
    exact ⟨(s.live q b hb).os s.dom, s.dom q b hb⟩
  have run := fun hn => light_run s (hj := h) (o := o) (tmj := tm) (ts := tsp) (fun t _ => ht t) (fun t _ => hns t) s.gs (fun q hq => ⟨rfl, (hrd q hq).1⟩) he hn
  refine ⟨fun hn => ?_, fun hn => ?_, hns, hrd⟩
  · obtain ⟨x, w', hr, a1, a2, a3, a4, a5, hc⟩ := run (.inl hn)
    rcases hc with hv | ⟨hs2, _⟩
    · exact ⟨Mp, ρp, w', putT o.dst x tsp, s.more a4 a5, ht.put (fun t e => by rw [hz]; exact hd t e) hv, by rw [putT_size, hz]⟩
    · rw [hn] at hs2; exact absurd hs2.symm (Pa.succ_ne _)
  · obtain ⟨x, w', hr, a1, a2, a3, a4, a5, hc⟩ := run (.inr hn)
    have hne : ρp (nOf h) = none := s.none_at
    rcases hc with hv | ⟨_, b, hv, hbz, hob, hbb⟩
    · exact ⟨Mp, ρp, w', putT o.dst x tsp, (s.ahead _).more a4 a5, ht.put (fun t e => by rw [hz]; exact hd t e) hv, by rw [putT_size, hz]⟩
    · have hat : hget (hpush h (hget hs (nOf h))) (nOf h) = hget hs (nOf h) := by rw [hget_push, if_pos rfl]
      have s2 := (s.ahead (hget hs (nOf h))).light (o := nOf h) (b := b) (N := (nOf h).num) hne (by rw [nOf_push, Pa.num_succ]; omega) a1 a2 a3 a4 hbz a5 (by rw [hat]; exact hob) (by rw [hat]; exact hbb)
      have hle : Env.le ρp (ρp.put (nOf h) b) := Env.put_le b hne
      rw [s.below_eq] at hv
      exact ⟨Mp, _, w', putT o.dst x tsp, s2, (ht.mono hle).put (fun t e => by rw [hz]; exact hd t e) hv, by rw [putT_size, hz]⟩
theorem plI_cons (p : PI) (pl : List PI) : plI (p :: pl) = p.i :: plI pl := rfl
/-- The plan does a light operation; the run does nothing. -/
theorem light_late (hP : SlotP ops (masks ops.toList []) (writers ops.toList 0)) {p : PI} (hl : p.heavy = false) (hd : ∀ (i : Nat) (o : Oper) (d : Tmp), ops[i]? = some o → o.dst = some d → d < ts.size) (D : DInv P G ops tm0 h0 M ρ0 w0 (p :: pl) l tm h fl ts ρ w) (b : Bd) (K : DrawK) :
    drawI p ops P G b tm h fl K = .bad ∨ ∃ tm' h' fl', drawI p ops P G b tm h fl K = K tm' h' fl' ∧ DInv P G ops tm0 h0 M ρ0 w0 pl l tm' h' fl' ts ρ w := by
  obtain ⟨i, o, heavy, mask⟩ := p
  obtain rfl : heavy = false := hl
  obtain ⟨hpo, hpm⟩ := D.mem _ (List.mem_cons_self ..)
  simp only [PI.i, PI.o, PI.mask] at hpo hpm
  have hil : i ∈ l := D.sub i (by rw [plI_cons]; simp [PI.i])
  obtain ⟨pn1, pn2, _, pn4⟩ := D.plan
  simp only [PI.i, PI.mask] at pn1 pn2
  -- the invariant, but for what is late
  have build : ∀ {v : SV} {h' : H} {fl' : Fl}, (nOf h).num ≤ (nOf h').num → (∀ q, q.num < (nOf h).num → hget h' q = hget h q) → Sim P G M ρ h' w → Grow M ρ0 h0 w0 ρ h' w → Phantom P G (putS o.dst v tm) h' ts.size → (∀ e ∈ fl, e ∈ fl') →
      (∀ e ∈ fl', e.2.1.num < (nOf h').num) → (∀ e ∈ fl', ∀ e' ∈ fl', e.2.2 = true → e'.2.2 = true → e.2.1 = e'.2.1 → e.1 = e'.1) → Late P G ops tm0 h0 pl (putS o.dst v tm) h' fl' ρ i → DInv P G ops tm0 h0 M ρ0 w0 pl l (putS o.dst v tm) h' fl' ts ρ w := by
    intro v h' fl' c1 c2 c3 c4 c5 c6 c7 c8 c9
    refine ⟨c3, c4, fun t => ?_, fun t ht => ?_, fun j hj hjn => ?_, c5, c7, c8, pn4, fun q hq => D.mem q (by simp [hq]), fun j hj hjn k hk hkn => ?_, fun j hj => D.sub j (by rw [plI_cons]; simp [hj]), D.nodup, D.lt, D.down, D.head, D.tail⟩
    · have := D.slots t
      unfold slotV at this ⊢
      cases hw : findW t (writers ops.toList 0) with
      | none => rw [hw] at this; simp only [] at this ⊢; rw [put_stays0 hP hpo hw]; exact this
      | some i' =>
        rw [hw] at this
        simp only [] at this ⊢
        by_cases hm : i' ∈ l
        · rw [if_pos hm] at this ⊢; exact this
        · rw [if_neg hm] at this ⊢
          rw [put_stays hP hpo hw fun e => hm (e ▸ hil)]; exact this
    · rw [putS_other, D.keep0 t fun i' hi' => by rw [plI_cons]; simp [ht i' hi']]
      intro e
      exact pn1 (ht i (dst_writer hP hpo e))
    · by_cases e : j = i
      · subst e; exact c9
      · exact (D.late j hj (by rw [plI_cons]; simp [PI.i, e, hjn])).stays hP (p := .mk i o false mask) hpo e (fun q b hq => c2 q (D.flb _ hq)) c6 (fun q _ hq => hq)
    · by_cases e : j = i
      · subst e; rw [hpm] at hk; exact pn2 k hk (by rw [plI_cons]; simp [hkn])
      · exact D.closed j hj (by rw [plI_cons]; simp [PI.i, e, hjn]) k hk (by rw [plI_cons]; simp [hkn])
  -- what is late now
  have agree : ∀ {v : SV}, ∀ t ∈ needs ops o, Agree ops tm0 i (putS o.dst v tm) tm t := by
    intro v t ht
    unfold Agree
    cases hw : findW t (writers ops.toList 0) with
    | none => exact (D.keep0 t fun i' hi' => by rw [hw] at hi'; cases hi').symm
    | some i' =>
      simp only []
      by_cases hb : Nat.testBit (mkO ops i) i' = true
      · rw [if_pos hb]
        exact put_stays hP hpo hw (fun e => pn2 i' (hpm ▸ hb) (by rw [plI_cons, e]; simp [PI.i])) v
      · rw [if_neg hb]
        refine (D.keep0 t fun i2 hi2 => ?_).symm
        rw [hw] at hi2; cases hi2
        rcases needs_writer hP hpo ht hw with k | k | k
        · rw [plI_cons, k]; simp [PI.i]
        · exact absurd k hb
        · refine Classical.byContradiction fun hn => ?_
          have hlt : i' < ops.size := by
            rcases Nat.lt_or_ge i' ops.size with h1 | h1
            · exact h1
            · have : mkO ops i' = 0 := by
                unfold mkO
                rw [List.getD_eq_getElem?_getD, List.getElem?_eq_none (by rw [(masks_spec _ _).1]; simpa using h1)]; rfl
              rw [this] at k; simp at k
          exact D.closed i' hlt hn i k (by rw [plI_cons]; simp [PI.i])
  have hmask : ∀ j, Nat.testBit (mkO ops i) j = true → j ∉ plI pl := fun j hj hm => pn2 j (hpm ▸ hj) (by rw [plI_cons]; simp [hm])
  have own : ∀ {v : SV} d, o.dst = some d → sget (pa d) (putS o.dst v tm) = v := fun d hd => by rw [hd]; exact putS_at
  have hdo : ∀ d, o.dst = some d → d < ts.size := fun d hd' => hd i o d hpo hd'
  change drawO o i false mask ops P G b tm h fl K = .bad ∨ ∃ tm' h' fl', drawO o i false mask ops P G b tm h fl K = K tm' h' fl' ∧ _
  obtain ⟨dst, op, ty, pos, after, guard⟩ := o
  change drawW (wantG guard ops tm) false i mask op ty P G b tm h fl (fun v h fl => setO dst v tm fun tm => K tm h fl) = .bad ∨ ∃ tm' h' fl', drawW (wantG guard ops tm) false i mask op ty P G b tm h fl (fun v h fl => setO dst v tm fun tm => K tm h fl) = K tm' h' fl' ∧ _
  cases hwant : wantG guard ops tm with
  | false =>
    refine .inr ⟨putS dst undefS tm, h, fl, setO_putS _ _ _ _, ?_⟩
    obtain ⟨Mp, ρp, wp, tsp, ps, pt, pz⟩ := D.phantom
    refine build (v := undefS) (Nat.le_refl _) (fun _ _ => rfl) D.sim D.grow ⟨Mp, ρp, wp, putT dst undef tsp, ps, pt.put (fun t e => by rw [pz]; exact hdo t e) (.lit _), by rw [putT_size, pz]⟩ (fun _ he => he) D.flb D.fln ?_
    exact ⟨_, tm, hpo, agree, hmask, .inl ⟨hwant, fun d hd => own d hd⟩⟩
  | true =>
    change lightE (sop op ty P G tm (smallH (readsO op tm) h)) h i (flR (readsO op tm) i fl) (fun v h fl => setO dst v tm fun tm => K tm h fl) = .bad ∨ ∃ tm' h' fl', lightE (sop op ty P G tm (smallH (readsO op tm) h)) h i (flR (readsO op tm) i fl) (fun v h fl => setO dst v tm fun tm => K tm h fl) = K tm' h' fl' ∧ _
    cases he : sop op ty P G tm (smallH (readsO op tm) h) with
    | val v hs =>
      obtain ⟨ph1, ph2, phn, phr⟩ := D.phantom.light (o := ⟨dst, op, ty, pos, after, guard⟩) hdo he
      obtain ⟨n', ob⟩ := hs
      change lightN (Pa.beq n' (nOf h)) v (nOf h) n' ob h i (flR (readsO op tm) i fl) (fun v h fl => setO dst v tm fun tm => K tm h fl) = .bad ∨ ∃ tm' h' fl', lightN (Pa.beq n' (nOf h)) v (nOf h) n' ob h i (flR (readsO op tm) i fl) (fun v h fl => setO dst v tm fun tm => K tm h fl) = K tm' h' fl' ∧ _
      have flb1 : ∀ e ∈ flR (readsO op tm) i fl, e.2.1.num < (nOf h).num := by
        intro e he'
        rcases flR_mem.1 he' with ⟨q, hq, rfl⟩ | he'
        · exact (phr q hq).2
        · exact D.flb e he'
      have fln1 : ∀ e ∈ flR (readsO op tm) i fl, ∀ e' ∈ flR (readsO op tm) i fl, e.2.2 = true → e'.2.2 = true → e.2.1 = e'.2.1 → e.1 = e'.1 := by
        intro e h1 e' h2 t1 t2 t3
        rcases flR_mem.1 h1 with ⟨q, hq, rfl⟩ | h1
        · cases t1
        · rcases flR_mem.1 h2 with ⟨q, hq, rfl⟩ | h2
          · cases t2
          · exact D.fln e h1 e' h2 t1 t2 t3
      cases hb : Pa.beq n' (nOf h) with
      | true =>
        have hn : n' = nOf h := (Pa.beq_iff _ _).1 hb
        refine .inr ⟨putS dst v tm, h, flR (readsO op tm) i fl, setO_putS _ _ _ _, ?_⟩
        refine build (v := v) (Nat.le_refl _) (fun _ _ => rfl) D.sim D.grow (ph1 hn) (fun e he' => flR_mem.2 (.inr he')) flb1 fln1 ?_
        exact ⟨_, tm, hpo, agree, hmask, .inr ⟨hwant, h, v, _, he, fun d hd => own d hd, fun t _ => phn t, D.sim.gs, D.grow.nx, fun q hq => ⟨rfl, (phr q hq).1, flR_mem.2 (.inl ⟨q, hq, rfl⟩)⟩, .inl hn⟩⟩
      | false =>
        change lightN2 (Pa.beq n' (Pa.succ (nOf h))) v (nOf h) (oget (nOf h) ob) h i (flR (readsO op tm) i fl) (fun v h fl => setO dst v tm fun tm => K tm h fl) = .bad ∨ ∃ tm' h' fl', lightN2 (Pa.beq n' (Pa.succ (nOf h))) v (nOf h) (oget (nOf h) ob) h i (flR (readsO op tm) i fl) (fun v h fl => setO dst v tm fun tm => K tm h fl) = K tm' h' fl' ∧ _
        cases hb2 : Pa.beq n' (Pa.succ (nOf h)) with
        | false => exact .inl rfl
        | true =>
          have hn : n' = Pa.succ (nOf h) := (Pa.beq_iff _ _).1 hb2
          have hob : oget (nOf h) ob = hget (.mk n' ob) (nOf h) := rfl
          refine .inr ⟨putS dst v tm, hpush h (oget (nOf h) ob), (i, nOf h, true) :: flR (readsO op tm) i fl, ?_, ?_⟩
          · show newR h (oget (nOf h) ob) (fun _ h' => setO dst v tm fun tm' => K tm' h' ((i, nOf h, true) :: flR (readsO op tm) i fl)) = _
            rw [newR_eq, setO_putS]
          · have hnx : (nOf (hpush h (oget (nOf h) ob))).num = (nOf h).num + 1 := by rw [nOf_push, Pa.num_succ]
            have hgo : ∀ q, q.num < (nOf h).num → hget (hpush h (oget (nOf h) ob)) q = hget h q := fun q hq => by rw [hget_push, if_neg fun e => by rw [e] at hq; exact Nat.lt_irrefl _ hq]
            have hgrow : Grow M ρ h w ρ (hpush h (oget (nOf h) ob)) w := ⟨rfl, rfl, rfl, Nat.le_refl _, fun _ _ => rfl, by rw [hnx]; omega, .refl _, fun q h1 h2 => absurd h1 h2, fun q b hb hne => .inr ⟨hb, by rw [← hgo q (D.sim.dom q b hb)]; exact hne⟩⟩
            refine build (v := v) (by rw [hnx]; omega) hgo (D.sim.ahead _) (D.grow.trans hgrow) (ph2 hn) (fun e he' => by simp [flR_mem, he']) (fun e he' => ?_) (fun e h1 e' h2 t1 t2 t3 => ?_) ?_
            · rw [hnx]
              cases he' with
              | head => show (nOf h).num < _; omega
              | tail _ hm => have := flb1 e hm; omega
            · cases h1 with
              | head =>
                cases h2 with
                | head => rfl
                | tail _ h2 =>
                  have k1 := flb1 e' h2
                  rw [← t3] at k1
                  exact absurd k1 (Nat.lt_irrefl _)
              | tail _ h1 =>
                cases h2 with
                | head =>
                  have k1 := flb1 e h1
                  rw [t3] at k1
                  exact absurd k1 (Nat.lt_irrefl _)
                | tail _ h2 => exact fln1 e h1 e' h2 t1 t2 t3
            · refine ⟨_, tm, hpo, agree, hmask, .inr ⟨hwant, h, v, _, he, fun d hd => own d hd, fun t _ => phn t, D.sim.gs, D.grow.nx, fun q hq => ⟨hgo q (phr q hq).2, (phr q hq).1, by simp [flR_mem]; exact .inl hq⟩, .inr ⟨hn, D.sim.none_at, ?_, by simp⟩⟩⟩
              rw [hget_push, if_pos rfl, hob]
    | _ => exact .inl rfl
end
end Go.Play
