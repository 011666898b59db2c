/- Play, PlayCut. -/
import Derived.Test.YtjbapjgagiaefaaPlayThree
import Derived.Below
import Derived.LaidSub
/- Play: regions that draw their order: what holds between a plan and any order. -/
namespace Go.Play
set_option linter.unusedVariables false
set_option linter.unusedSimpArgs false

/-- The slots that decide what an operation does. -/
def needs (ops : Array Oper) (o : Oper) : List Tmp := tmpsOf o.op ++ (match o.guard with | some g => (match ops[g.1]? with | some o0 => o0.dst.toList | none => []) | none => [])
def putT (d : Option Tmp) (x : Value) (ts : Array Value) : Array Value := match d with | some d => ts.setIfInBounds d x | none => ts
noncomputable def putS (d : Option Tmp) (v : SV) (tm : T SV) : T SV := match d with | some d => sset' (pa d) v tm | none => tm
theorem setO_putS (d : Option Tmp) (v : SV) (tm : T SV) (K : T SV → Res) : setO d v tm K = K (putS d v tm) := by
  cases d with
  | none => rfl
  | some d => exact sset_eq _ _ _ _
theorem putS_at {d : Tmp} {v : SV} {tm : T SV} : sget (pa d) (putS (some d) v tm) = v := by show sget (pa d) (sset' (pa d) v tm) = v; rw [sget_set, if_pos rfl]
theorem putS_other {d : Option Tmp} {v : SV} {tm : T SV} {t : Tmp} (h : d ≠ some t) : sget (pa t) (putS d v tm) = sget (pa t) tm := by
  cases d with
  | none => rfl
  | some d => show sget (pa t) (sset' (pa d) v tm) = _; rw [sget_set, if_neg fun e => h (by rw [pa_inj e])]
theorem putT_at {d : Tmp} {x : Value} {ts : Array Value} (h : d < ts.size) : (putT (some d) x ts).getD d undef = x := by simp [putT, Array.getD, h]
theorem putT_other {d : Option Tmp} {x : Value} {ts : Array Value} {t : Tmp} (h : d ≠ some t) : (putT d x ts).getD t undef = ts.getD t undef := by
  cases d with
  | none => rfl
  | some d =>
    have : d ≠ t := fun e => h (by rw [e])
    simp only [putT, Array.getD_eq_getD_getElem?, Array.getElem?_setIfInBounds_ne this]
theorem putT_size (d : Option Tmp) (x : Value) (ts : Array Value) : (putT d x ts).size = ts.size := by cases d <;> simp [putT]
theorem TR.put {ρ : Env} {tm : T SV} {ts : Array Value} (h : TR ρ tm ts) {d : Option Tmp} (hd : ∀ t, d = some t → t < ts.size) {v : SV} {x : Value} (hv : VR ρ v x) : TR ρ (putS d v tm) (putT d x ts) := by
  cases d with
  | none => exact h
  | some d => exact h.set (hd d rfl) hv

section
variable (P : Program) (G : Glob) (ops : Array Oper) (tm0 : T SV) (h0 : H)
/-- What a slot says while the places of l are not done. -/
noncomputable def slotV (l : List Nat) (tm : T SV) (t : Tmp) : SV := match findW t (writers ops.toList 0) with
  | some i => if i ∈ l then sget (pa t) tm0 else sget (pa t) tm
  | none => sget (pa t) tm
def mkO (i : Nat) : Nat := (masks ops.toList []).getD i 0
def Agree (i : Nat) (tm tmj : T SV) (t : Tmp) : Prop := match findW t (writers ops.toList 0) with
  | some i' => if Nat.testBit (mkO ops i) i' = true then sget (pa t) tm = sget (pa t) tmj else sget (pa t) tm0 = sget (pa t) tmj
  | none => sget (pa t) tm0 = sget (pa t) tmj
/-- A light operation that the plan has done and the run has not. -/
def Late (pl : List PI) (tm : T SV) (h : H) (fl : Fl) (ρ : Env) (i : Nat) : Prop :=
  ∃ o tmj, ops[i]? = some o ∧ (∀ t ∈ needs ops o, Agree ops tm0 i tm tmj t) ∧ (∀ j, Nat.testBit (mkO ops i) j = true → j ∉ plI pl) ∧
    ((wantG o.guard ops tmj = false ∧ ∀ d, o.dst = some d → sget (pa d) tm = undefS) ∨
     (wantG o.guard ops tmj = true ∧ ∃ hj v hs, sop o.op o.type P G tmj (smallH (readsO o.op tmj) hj) = .val v hs ∧ (∀ d, o.dst = some d → sget (pa d) tm = v) ∧ (∀ t ∈ tmpsOf o.op, NS (nOf hj).num (sget (pa t) tmj)) ∧
        GS G (nOf hj).num ∧ (nOf h0).num ≤ (nOf hj).num ∧ (∀ q, readsO o.op tmj = some q → hget h q = hget hj q ∧ OS P (nOf hj).num (hget hj q) ∧ (i, q, false) ∈ fl) ∧
        (nOf hs = nOf hj ∨ nOf hs = Pa.succ (nOf hj) ∧ ρ (nOf hj) = none ∧ hget h (nOf hj) = hget hs (nOf hj) ∧ (i, nOf hj, true) ∈ fl)))
/-- Somewhere the plan itself was carried out. -/
def Phantom (tm : T SV) (h : H) (n : Nat) : Prop := ∃ (M : Nat → Prop) (ρ : Env) (w : World) (ts : Array Value), Sim P G M ρ h w ∧ TR ρ tm ts ∧ ts.size = n
/-- Between the plan, whose rest is pl, and the run, whose rest is l. -/
structure DInv (M : Nat → Prop) (ρ0 : Env) (w0 : World) (pl : List PI) (l : List Nat) (tm : T SV) (h : H) (fl : Fl) (ts : Array Value) (ρ : Env) (w : World) : Prop where
  sim : Sim P G M ρ h w
  grow : Grow M ρ0 h0 w0 ρ h w
  slots : ∀ t, VR ρ (slotV ops tm0 l tm t) (ts.getD t undef)
  keep0 : ∀ t, (∀ i, findW t (writers ops.toList 0) = some i → i ∈ plI pl) → sget (pa t) tm = sget (pa t) tm0
  late : ∀ i, i ∈ l → i ∉ plI pl → Late P G ops tm0 h0 pl tm h fl ρ i
  phantom : Phantom P G tm h ts.size
  flb : ∀ e ∈ fl, e.2.1.num < (nOf h).num
  fln : ∀ e ∈ fl, ∀ e' ∈ fl, e.2.2 = true → e'.2.2 = true → e.2.1 = e'.2.1 → e.1 = e'.1
  plan : PlanP pl
  mem : ∀ p ∈ pl, ops[p.i]? = some p.o ∧ mkO ops p.i = p.mask
  closed : ∀ i, i < ops.size → i ∉ plI pl → ∀ j, Nat.testBit (mkO ops i) j = true → j ∉ plI pl
  sub : ∀ i, i ∈ plI pl → i ∈ l
  nodup : l.Nodup
  lt : ∀ i, i ∈ l → i < ops.size
  down : ∀ i, i < ops.size → i ∉ l → ∀ j, Nat.testBit (mkO ops i) j = true → j ∉ l
  head : ∀ i b, l = i :: b → ∀ j, Nat.testBit (mkO ops i) j = true → j ∉ l
  tail : ∀ a i b, l = a ++ i :: b → ∀ j, Nat.testBit (mkO ops i) j = true → j ∈ l → j ∈ a
end

section
variable {P : Program} {G : Glob} {ops : Array Oper} {tm0 : T SV} {h0 : H} {M : Nat → Prop} {ρ0 ρ : Env} {w0 w : World} {pl : List PI} {l : List Nat} {tm : T SV} {h : H} {fl : Fl} {ts : Array Value}

theorem Sim.below_eq (s : Sim P G M ρ h w) : ρ.below (nOf h).num = ρ := by
  funext o
  cases hb : ρ o with
  | none => unfold Env.below; rw [hb]; split <;> rfl
  | some b => exact below_at hb (s.dom o b hb)
/-- A light operation's block gets its name. -/
theorem Sim.light (s : Sim P G M ρ h w) {o : Pa} {b : Loc} {N : Nat} (hn : ρ o = none) (hlt : o.num < (nOf h).num) {w' : World} (ho : w'.os = w.os) (ht : w'.tape = w.tape) (hu : w'.output = w.output)
    (hz : w.heap.size ≤ w'.heap.size) (hbz : b.block < w'.heap.size) (hk : ∀ k, k < w.heap.size → w'.heap[k]? = w.heap[k]?) (hob : OR P ((ρ.below N).put o b) (hget h o) b w'.heap[b.block]?) (hne : hget h o ≠ .none → w.heap.size ≤ b.block) : Sim P G M (ρ.put o b) h w' := by
  by_cases hnone : hget h o = .none
  · exact s.putNone hn hnone hlt hz hbz hk
  · have hbb := hne hnone
    have hle : Env.le ((ρ.below N).put o b) (ρ.put o b) := by
      intro p b' hb'
      unfold Env.put at hb' ⊢
      split at hb'
      · rename_i e; rw [if_pos e]; exact hb'
      · rename_i e; rw [if_neg e]; exact (below_dom hb').2
    exact s.place (h' := h) (fun _ _ => rfl) hn rfl hlt (Nat.le_refl _) ho ht hu hz hbz (fun k _ hk' => hk k hk') (s.fresh _ hbb) (fun o' b' hb' _ e => by have := s.size o' b' hb'; omega) (hob.mono hle)
theorem needs_tmps {o : Oper} {t : Tmp} (h : t ∈ tmpsOf o.op) : t ∈ needs ops o := List.mem_append_left _ h
theorem needs_guard {o o0 : Oper} {g : Nat × Bool} (hg : o.guard = some g) (ho : ops[g.1]? = some o0) {d : Tmp} (hd : o0.dst = some d) : d ∈ needs ops o := by
  unfold needs; rw [hg]; simp only [ho, hd]; simp
/-- The writer of a slot that decides what an operation does: it has none, or one that is ordered with it. -/
theorem needs_writer (hP : SlotP ops (masks ops.toList []) (writers ops.toList 0)) {i : Nat} {o : Oper} (ho : ops[i]? = some o) {t : Tmp} (ht : t ∈ needs ops o) {i' : Nat} (hw : findW t (writers ops.toList 0) = some i') :
    i' = i ∨ Nat.testBit (mkO ops i) i' = true ∨ Nat.testBit (mkO ops i') i = true := by
  unfold needs at ht
  rcases List.mem_append.1 ht with ht | ht
  · have := hP.reads i o ho t ht
    rw [hw] at this
    unfold apartW at this
    simp only [Bool.or_eq_true] at this
    rcases this with (k | k) | k
    · exact .inl (Nat.eq_of_beq_eq_true k)
    · exact .inr (.inl k)
    · exact .inr (.inr k)
  · cases hg : o.guard with
    | none => rw [hg] at ht; cases ht
    | some g =>
      rw [hg] at ht
      cases h0 : ops[g.1]? with
      | none => simp only [h0] at ht; cases ht
      | some o0 =>
        simp only [h0] at ht
        have hd : o0.dst = some t := by cases hdd : o0.dst with
          | none => rw [hdd] at ht; cases ht
          | some d => rw [hdd] at ht; simp at ht; rw [ht]
        have h1 := hP.own g.1 o0 h0 t hd
        rw [hw] at h1
        cases h1
        exact .inr (.inl (hP.guard i o ho g hg))
theorem dst_writer (hP : SlotP ops (masks ops.toList []) (writers ops.toList 0)) {i : Nat} {o : Oper} (ho : ops[i]? = some o) {d : Tmp} (hd : o.dst = some d) : findW d (writers ops.toList 0) = some i := hP.own i o ho d hd
/-- Another operation's slot stays. -/
theorem put_stays (hP : SlotP ops (masks ops.toList []) (writers ops.toList 0)) {i j : Nat} {o : Oper} (ho : ops[i]? = some o) {t : Tmp} (hw : findW t (writers ops.toList 0) = some j) (hne : j ≠ i) (v : SV) : sget (pa t) (putS o.dst v tm) = sget (pa t) tm :=
  putS_other fun e => hne (by have := dst_writer hP ho e; rw [hw] at this; cases this; rfl)
theorem put_stays0 (hP : SlotP ops (masks ops.toList []) (writers ops.toList 0)) {i : Nat} {o : Oper} (ho : ops[i]? = some o) {t : Tmp} (hw : findW t (writers ops.toList 0) = none) (v : SV) : sget (pa t) (putS o.dst v tm) = sget (pa t) tm :=
  putS_other fun e => by have := dst_writer hP ho e; rw [hw] at this; cases this
/-- An operation of the plan that is done now: what was late stays so. -/
theorem Late.stays (hP : SlotP ops (masks ops.toList []) (writers ops.toList 0)) {p : PI} {o : Oper} (hp : ops[p.i]? = some o) {i : Nat} (hne : i ≠ p.i) {h' : H} {fl' : Fl} {ρ' : Env} {v : SV} (k : Late P G ops tm0 h0 (p :: pl) tm h fl ρ i)
    (hq : ∀ q b, (i, q, b) ∈ fl → hget h' q = hget h q) (hfl : ∀ e ∈ fl, e ∈ fl') (hρ : ∀ q, (i, q, true) ∈ fl → ρ q = none → ρ' q = none) : Late P G ops tm0 h0 pl (putS o.dst v tm) h' fl' ρ' i := by
  obtain ⟨oi, tmj, k1, k2, k3, k4⟩ := k
  have own : ∀ d, oi.dst = some d → sget (pa d) (putS o.dst v tm) = sget (pa d) tm := fun d hd => put_stays hP hp (dst_writer hP k1 hd) hne v
  refine ⟨oi, tmj, k1, fun t ht => ?_, fun j hj hm => k3 j hj (by simp only [plI, List.map_cons, List.mem_cons]; exact .inr hm), ?_⟩
  · have := k2 t ht
    unfold Agree at this ⊢
    cases hw : findW t (writers ops.toList 0) with
    | none => rw [hw] at this; exact this
    | some i' =>
      rw [hw] at this
      simp only [] at this ⊢
      by_cases hb : Nat.testBit (mkO ops i) i' = true
      · rw [if_pos hb] at this ⊢
        rw [put_stays hP hp hw (fun e => k3 i' hb (by rw [e]; simp [plI])) v]; exact this
      · rw [if_neg hb] at this ⊢; exact this
  · rcases k4 with ⟨a, b⟩ | ⟨a, hj, u, hs, b1, b2, b3, b4, b5, b6, b7⟩
    · exact .inl ⟨a, fun d hd => by rw [own d hd]; exact b d hd⟩
    · refine .inr ⟨a, hj, u, hs, b1, fun d hd => by rw [own d hd]; exact b2 d hd, b3, b4, b5, fun q hq' => ?_, ?_⟩
      · obtain ⟨c1, c2, c3⟩ := b6 q hq'
        exact ⟨by rw [hq q _ c3]; exact c1, c2, hfl _ c3⟩
      · rcases b7 with c | ⟨c1, c2, c3, c4⟩
        · exact .inl c
        · exact .inr ⟨c1, hρ _ c4 c2, by rw [hq _ _ c4]; exact c3, hfl _ c4⟩
theorem flR_mem {q : Option Pa} {i : Nat} {e : Nat × Pa × Bool} : e ∈ flR q i fl ↔ (∃ o, q = some o ∧ e = (i, o, false)) ∨ e ∈ fl := by
  cases q with
  | none => show e ∈ fl ↔ _; simp
  | some o => show e ∈ (i, o, false) :: fl ↔ _; simp
/-- A phantom's light operation. -/
theorem Phantom.light {n : Nat} (hp : Phantom P G tm h n) {o : Oper} (hd : ∀ d, o.dst = some d → d < n) {v : SV} {hs : H} (he : sop o.op o.type P G tm (smallH (readsO o.op tm) h) = .val v hs) :
    (nOf hs = nOf h → Phantom P G (putS o.dst v tm) h n) ∧ (nOf hs = Pa.succ (nOf h) → Phantom P G (putS o.dst v tm) (hpush h (hget hs (nOf h))) n) ∧ (∀ t, NS (nOf h).num (sget (pa t) tm)) ∧
      (∀ q, readsO o.op tm = some q → OS P (nOf h).num (hget h q) ∧ q.num < (nOf h).num) := by
  obtain ⟨Mp, ρp, wp, tsp, s, ht, hz⟩ := hp
  have hns : ∀ t, NS (nOf h).num (sget (pa t) tm) := fun t => (ht t).ns s.dom
  have hrd : ∀ q, readsO o.op tm = some q → OS P (nOf h).num (hget h q) ∧ q.num < (nOf h).num := by
    intro q hq
    obtain ⟨b, hb⟩ := readsO_named (evalT_rel ht) hq
    exact ⟨(s.live q b hb).os s.dom, s.dom q b hb⟩
  have run := fun hn => light_run s (hj := h) (o := o) (tmj := tm) (ts := tsp) (fun t _ => ht t) (fun t _ => hns t) s.gs (fun q hq => ⟨rfl, (hrd q hq).1⟩) he hn
  refine ⟨fun hn => ?_, fun hn => ?_, hns, hrd⟩
  · obtain ⟨x, w', hr, a1, a2, a3, a4, a5, hc⟩ := run (.inl hn)
    rcases hc with hv | ⟨hs2, _⟩
    · exact ⟨Mp, ρp, w', putT o.dst x tsp, s.more a4 a5, ht.put (fun t e => by rw [hz]; exact hd t e) hv, by rw [putT_size, hz]⟩
    · rw [hn] at hs2; exact absurd hs2.symm (Pa.succ_ne _)
  · obtain ⟨x, w', hr, a1, a2, a3, a4, a5, hc⟩ := run (.inr hn)
    have hne : ρp (nOf h) = none := s.none_at
    rcases hc with hv | ⟨_, b, hv, hbz, hob, hbb⟩
    · exact ⟨Mp, ρp, w', putT o.dst x tsp, (s.ahead _).more a4 a5, ht.put (fun t e => by rw [hz]; exact hd t e) hv, by rw [putT_size, hz]⟩
    · have hat : hget (hpush h (hget hs (nOf h))) (nOf h) = hget hs (nOf h) := by rw [hget_push, if_pos rfl]
      have s2 := (s.ahead (hget hs (nOf h))).light (o := nOf h) (b := b) (N := (nOf h).num) hne (by rw [nOf_push, Pa.num_succ]; omega) a1 a2 a3 a4 hbz a5 (by rw [hat]; exact hob) (by rw [hat]; exact hbb)
      have hle : Env.le ρp (ρp.put (nOf h) b) := Env.put_le b hne
      rw [s.below_eq] at hv
      exact ⟨Mp, _, w', putT o.dst x tsp, s2, (ht.mono hle).put (fun t e => by rw [hz]; exact hd t e) hv, by rw [putT_size, hz]⟩
theorem plI_cons (p : PI) (pl : List PI) : plI (p :: pl) = p.i :: plI pl := rfl
/-- The plan does a light operation; the run does nothing. -/
theorem light_late (hP : SlotP ops (masks ops.toList []) (writers ops.toList 0)) {p : PI} (hl : p.heavy = false) (hd : ∀ (i : Nat) (o : Oper) (d : Tmp), ops[i]? = some o → o.dst = some d → d < ts.size) (D : DInv P G ops tm0 h0 M ρ0 w0 (p :: pl) l tm h fl ts ρ w) (b : Bd) (K : DrawK) :
    drawI p ops P G b tm h fl K = .bad ∨ ∃ tm' h' fl', drawI p ops P G b tm h fl K = K tm' h' fl' ∧ DInv P G ops tm0 h0 M ρ0 w0 pl l tm' h' fl' ts ρ w := by
  obtain ⟨i, o, heavy, mask⟩ := p
  obtain rfl : heavy = false := hl
  obtain ⟨hpo, hpm⟩ := D.mem _ (List.mem_cons_self ..)
  simp only [PI.i, PI.o, PI.mask] at hpo hpm
  have hil : i ∈ l := D.sub i (by rw [plI_cons]; simp [PI.i])
  obtain ⟨pn1, pn2, _, pn4⟩ := D.plan
  simp only [PI.i, PI.mask] at pn1 pn2
  -- the invariant, but for what is late
  have build : ∀ {v : SV} {h' : H} {fl' : Fl}, (nOf h).num ≤ (nOf h').num → (∀ q, q.num < (nOf h).num → hget h' q = hget h q) → Sim P G M ρ h' w → Grow M ρ0 h0 w0 ρ h' w → Phantom P G (putS o.dst v tm) h' ts.size → (∀ e ∈ fl, e ∈ fl') →
      (∀ e ∈ fl', e.2.1.num < (nOf h').num) → (∀ e ∈ fl', ∀ e' ∈ fl', e.2.2 = true → e'.2.2 = true → e.2.1 = e'.2.1 → e.1 = e'.1) → Late P G ops tm0 h0 pl (putS o.dst v tm) h' fl' ρ i → DInv P G ops tm0 h0 M ρ0 w0 pl l (putS o.dst v tm) h' fl' ts ρ w := by
    intro v h' fl' c1 c2 c3 c4 c5 c6 c7 c8 c9
    refine ⟨c3, c4, fun t => ?_, fun t ht => ?_, fun j hj hjn => ?_, c5, c7, c8, pn4, fun q hq => D.mem q (by simp [hq]), fun j hj hjn k hk hkn => ?_, fun j hj => D.sub j (by rw [plI_cons]; simp [hj]), D.nodup, D.lt, D.down, D.head, D.tail⟩
    · have := D.slots t
      unfold slotV at this ⊢
      cases hw : findW t (writers ops.toList 0) with
      | none => rw [hw] at this; simp only [] at this ⊢; rw [put_stays0 hP hpo hw]; exact this
      | some i' =>
        rw [hw] at this
        simp only [] at this ⊢
        by_cases hm : i' ∈ l
        · rw [if_pos hm] at this ⊢; exact this
        · rw [if_neg hm] at this ⊢
          rw [put_stays hP hpo hw fun e => hm (e ▸ hil)]; exact this
    · rw [putS_other, D.keep0 t fun i' hi' => by rw [plI_cons]; simp [ht i' hi']]
      intro e
      exact pn1 (ht i (dst_writer hP hpo e))
    · by_cases e : j = i
      · subst e; exact c9
      · exact (D.late j hj (by rw [plI_cons]; simp [PI.i, e, hjn])).stays hP (p := .mk i o false mask) hpo e (fun q b hq => c2 q (D.flb _ hq)) c6 (fun q _ hq => hq)
    · by_cases e : j = i
      · subst e; rw [hpm] at hk; exact pn2 k hk (by rw [plI_cons]; simp [hkn])
      · exact D.closed j hj (by rw [plI_cons]; simp [PI.i, e, hjn]) k hk (by rw [plI_cons]; simp [hkn])
  -- what is late now
  have agree : ∀ {v : SV}, ∀ t ∈ needs ops o, Agree ops tm0 i (putS o.dst v tm) tm t := by
    intro v t ht
    unfold Agree
    cases hw : findW t (writers ops.toList 0) with
    | none => exact (D.keep0 t fun i' hi' => by rw [hw] at hi'; cases hi').symm
    | some i' =>
      simp only []
      by_cases hb : Nat.testBit (mkO ops i) i' = true
      · rw [if_pos hb]
        exact put_stays hP hpo hw (fun e => pn2 i' (hpm ▸ hb) (by rw [plI_cons, e]; simp [PI.i])) v
      · rw [if_neg hb]
        refine (D.keep0 t fun i2 hi2 => ?_).symm
        rw [hw] at hi2; cases hi2
        rcases needs_writer hP hpo ht hw with k | k | k
        · rw [plI_cons, k]; simp [PI.i]
        · exact absurd k hb
        · refine Classical.byContradiction fun hn => ?_
          have hlt : i' < ops.size := by
            rcases Nat.lt_or_ge i' ops.size with h1 | h1
            · exact h1
            · have : mkO ops i' = 0 := by
                unfold mkO
                rw [List.getD_eq_getElem?_getD, List.getElem?_eq_none (by rw [(masks_spec _ _).1]; simpa using h1)]; rfl
              rw [this] at k; simp at k
          exact D.closed i' hlt hn i k (by rw [plI_cons]; simp [PI.i])
  have hmask : ∀ j, Nat.testBit (mkO ops i) j = true → j ∉ plI pl := fun j hj hm => pn2 j (hpm ▸ hj) (by rw [plI_cons]; simp [hm])
  have own : ∀ {v : SV} d, o.dst = some d → sget (pa d) (putS o.dst v tm) = v := fun d hd => by rw [hd]; exact putS_at
  have hdo : ∀ d, o.dst = some d → d < ts.size := fun d hd' => hd i o d hpo hd'
  change drawO o i false mask ops P G b tm h fl K = .bad ∨ ∃ tm' h' fl', drawO o i false mask ops P G b tm h fl K = K tm' h' fl' ∧ _
  obtain ⟨dst, op, ty, pos, after, guard⟩ := o
  change drawW (wantG guard ops tm) false i mask op ty P G b tm h fl (fun v h fl => setO dst v tm fun tm => K tm h fl) = .bad ∨ ∃ tm' h' fl', drawW (wantG guard ops tm) false i mask op ty P G b tm h fl (fun v h fl => setO dst v tm fun tm => K tm h fl) = K tm' h' fl' ∧ _
  cases hwant : wantG guard ops tm with
  | false =>
    refine .inr ⟨putS dst undefS tm, h, fl, setO_putS _ _ _ _, ?_⟩
    obtain ⟨Mp, ρp, wp, tsp, ps, pt, pz⟩ := D.phantom
    refine build (v := undefS) (Nat.le_refl _) (fun _ _ => rfl) D.sim D.grow ⟨Mp, ρp, wp, putT dst undef tsp, ps, pt.put (fun t e => by rw [pz]; exact hdo t e) (.lit _), by rw [putT_size, pz]⟩ (fun _ he => he) D.flb D.fln ?_
    exact ⟨_, tm, hpo, agree, hmask, .inl ⟨hwant, fun d hd => own d hd⟩⟩
  | true =>
    change lightE (sop op ty P G tm (smallH (readsO op tm) h)) h i (flR (readsO op tm) i fl) (fun v h fl => setO dst v tm fun tm => K tm h fl) = .bad ∨ ∃ tm' h' fl', lightE (sop op ty P G tm (smallH (readsO op tm) h)) h i (flR (readsO op tm) i fl) (fun v h fl => setO dst v tm fun tm => K tm h fl) = K tm' h' fl' ∧ _
    cases he : sop op ty P G tm (smallH (readsO op tm) h) with
    | val v hs =>
      obtain ⟨ph1, ph2, phn, phr⟩ := D.phantom.light (o := ⟨dst, op, ty, pos, after, guard⟩) hdo he
      obtain ⟨n', ob⟩ := hs
      change lightN (Pa.beq n' (nOf h)) v (nOf h) n' ob h i (flR (readsO op tm) i fl) (fun v h fl => setO dst v tm fun tm => K tm h fl) = .bad ∨ ∃ tm' h' fl', lightN (Pa.beq n' (nOf h)) v (nOf h) n' ob h i (flR (readsO op tm) i fl) (fun v h fl => setO dst v tm fun tm => K tm h fl) = K tm' h' fl' ∧ _
      have flb1 : ∀ e ∈ flR (readsO op tm) i fl, e.2.1.num < (nOf h).num := by
        intro e he'
        rcases flR_mem.1 he' with ⟨q, hq, rfl⟩ | he'
        · exact (phr q hq).2
        · exact D.flb e he'
      have fln1 : ∀ e ∈ flR (readsO op tm) i fl, ∀ e' ∈ flR (readsO op tm) i fl, e.2.2 = true → e'.2.2 = true → e.2.1 = e'.2.1 → e.1 = e'.1 := by
        intro e h1 e' h2 t1 t2 t3
        rcases flR_mem.1 h1 with ⟨q, hq, rfl⟩ | h1
        · cases t1
        · rcases flR_mem.1 h2 with ⟨q, hq, rfl⟩ | h2
          · cases t2
          · exact D.fln e h1 e' h2 t1 t2 t3
      cases hb : Pa.beq n' (nOf h) with
      | true =>
        have hn : n' = nOf h := (Pa.beq_iff _ _).1 hb
        refine .inr ⟨putS dst v tm, h, flR (readsO op tm) i fl, setO_putS _ _ _ _, ?_⟩
        refine build (v := v) (Nat.le_refl _) (fun _ _ => rfl) D.sim D.grow (ph1 hn) (fun e he' => flR_mem.2 (.inr he')) flb1 fln1 ?_
        exact ⟨_, tm, hpo, agree, hmask, .inr ⟨hwant, h, v, _, he, fun d hd => own d hd, fun t _ => phn t, D.sim.gs, D.grow.nx, fun q hq => ⟨rfl, (phr q hq).1, flR_mem.2 (.inl ⟨q, hq, rfl⟩)⟩, .inl hn⟩⟩
      | false =>
        change lightN2 (Pa.beq n' (Pa.succ (nOf h))) v (nOf h) (oget (nOf h) ob) h i (flR (readsO op tm) i fl) (fun v h fl => setO dst v tm fun tm => K tm h fl) = .bad ∨ ∃ tm' h' fl', lightN2 (Pa.beq n' (Pa.succ (nOf h))) v (nOf h) (oget (nOf h) ob) h i (flR (readsO op tm) i fl) (fun v h fl => setO dst v tm fun tm => K tm h fl) = K tm' h' fl' ∧ _
        cases hb2 : Pa.beq n' (Pa.succ (nOf h)) with
        | false => exact .inl rfl
        | true =>
          have hn : n' = Pa.succ (nOf h) := (Pa.beq_iff _ _).1 hb2
          have hob : oget (nOf h) ob = hget (.mk n' ob) (nOf h) := rfl
          refine .inr ⟨putS dst v tm, hpush h (oget (nOf h) ob), (i, nOf h, true) :: flR (readsO op tm) i fl, ?_, ?_⟩
          · show newR h (oget (nOf h) ob) (fun _ h' => setO dst v tm fun tm' => K tm' h' ((i, nOf h, true) :: flR (readsO op tm) i fl)) = _
            rw [newR_eq, setO_putS]
          · have hnx : (nOf (hpush h (oget (nOf h) ob))).num = (nOf h).num + 1 := by rw [nOf_push, Pa.num_succ]
            have hgo : ∀ q, q.num < (nOf h).num → hget (hpush h (oget (nOf h) ob)) q = hget h q := fun q hq => by rw [hget_push, if_neg fun e => by rw [e] at hq; exact Nat.lt_irrefl _ hq]
            have hgrow : Grow M ρ h w ρ (hpush h (oget (nOf h) ob)) w := ⟨rfl, rfl, rfl, Nat.le_refl _, fun _ _ => rfl, by rw [hnx]; omega, .refl _, fun q h1 h2 => absurd h1 h2, fun q b hb hne => .inr ⟨hb, by rw [← hgo q (D.sim.dom q b hb)]; exact hne⟩⟩
            refine build (v := v) (by rw [hnx]; omega) hgo (D.sim.ahead _) (D.grow.trans hgrow) (ph2 hn) (fun e he' => by simp [flR_mem, he']) (fun e he' => ?_) (fun e h1 e' h2 t1 t2 t3 => ?_) ?_
            · rw [hnx]
              cases he' with
              | head => show (nOf h).num < _; omega
              | tail _ hm => have := flb1 e hm; omega
            · cases h1 with
              | head =>
                cases h2 with
                | head => rfl
                | tail _ h2 =>
                  have k1 := flb1 e' h2
                  rw [← t3] at k1
                  exact absurd k1 (Nat.lt_irrefl _)
              | tail _ h1 =>
                cases h2 with
                | head =>
                  have k1 := flb1 e h1
                  rw [t3] at k1
                  exact absurd k1 (Nat.lt_irrefl _)
                | tail _ h2 => exact fln1 e h1 e' h2 t1 t2 t3
            · refine ⟨_, tm, hpo, agree, hmask, .inr ⟨hwant, h, v, _, he, fun d hd => own d hd, fun t _ => phn t, D.sim.gs, D.grow.nx, fun q hq => ⟨hgo q (phr q hq).2, (phr q hq).1, by simp [flR_mem]; exact .inl hq⟩, .inr ⟨hn, D.sim.none_at, ?_, by simp⟩⟩⟩
              rw [hget_push, if_pos rfl, hob]
    | _ => exact .inl rfl
end
end Go.Play

/- Play: regions that draw their order are sound; a run is sound. -/
namespace Go.Play
set_option linter.unusedVariables false
set_option linter.unusedSimpArgs false

theorem findW_dst {t : Tmp} : ∀ (os : List Oper) (k j : Nat), findW t (writers os k) = some j → ∃ o, os[j - k]? = some o ∧ o.dst = some t ∧ k ≤ j := by
  intro os
  induction os with
  | nil => intro k j h; cases h
  | cons o os ih =>
    intro k j h
    unfold writers at h
    have next : findW t (writers os (Nat.succ k)) = some j → ∃ o', (o :: os)[j - k]? = some o' ∧ o'.dst = some t ∧ k ≤ j := by
      intro h
      obtain ⟨o', h1, h2, h3⟩ := ih _ _ h
      refine ⟨o', ?_, h2, by omega⟩
      rw [show j - k = (j - Nat.succ k) + 1 by omega]; simpa using h1
    cases hd : o.dst with
    | none => rw [hd] at h; exact next h
    | some d =>
      rw [hd] at h
      simp only [] at h
      unfold findW at h
      cases hb : Nat.beq d t with
      | true =>
        rw [hb] at h
        cases h
        exact ⟨o, by simp, by rw [hd, Nat.eq_of_beq_eq_true hb], Nat.le_refl _⟩
      | false => rw [hb] at h; exact next h
theorem writer_dst {ops : Array Oper} {t : Tmp} {i : Nat} (h : findW t (writers ops.toList 0) = some i) : ∃ o, ops[i]? = some o ∧ o.dst = some t := by
  obtain ⟨o, h1, h2, _⟩ := findW_dst _ _ _ h
  exact ⟨o, by simpa using h1, h2⟩
theorem enter_cases (P : Program) (f : FuncId) (args : List SV) (kind : CallKind) : (∀ K, enterK P f args kind K = .bad) ∨ ∃ f' : SF, (∀ K, enterK P f args kind K = K f') ∧ fiOf f' = .mk f kind none ∧ (∃ fn, P.funcs[f]? = some fn) ∧
    ∀ (ρ : Env) (xs : Array Value), VRL ρ args xs.toList → SFR ρ f' (Frame.enter P f xs kind) := by
  by_cases hbad : ∀ K, enterK P f args kind K = .bad
  · exact .inl hbad
  · refine .inr ?_
    unfold enterK at hbad ⊢
    cases hf : funcO P f with
    | none => rw [hf] at hbad; exact absurd (fun K => rfl) hbad
    | some fn =>
      rw [hf] at hbad
      change ¬ ∀ K, enter2 fn.body f fn.ntmps args kind K = .bad at hbad
      cases hb : fn.body with
      | none => rw [hb] at hbad; exact absurd (fun K => rfl) hbad
      | some c =>
        rw [hb] at hbad
        change ¬ ∀ K, enter3 (okCode c fn.ntmps) c f args kind K = .bad at hbad
        cases hc : okCode c fn.ntmps with
        | false => rw [hc] at hbad; exact absurd (fun K => rfl) hbad
        | true =>
          obtain ⟨t', e, hg⟩ := argsK_ok args .nil .e (fun tm => .next (.mk (.mk f kind none) tm [.code c] [] .run) [] (.mk .e .nil))
          have heq : ∀ K : SF → Res, argsK args .nil .e (fun tm => K (.mk (.mk f kind none) tm [.code c] [] .run)) = K (.mk (.mk f kind none) t' [.code c] [] .run) := by
            have key : ∀ (args : List SV) (t : T SV) (i : Pa), ∃ t2, ∀ K : T SV → Res, argsK args t i K = K t2 := by
              intro args
              induction args with
              | nil => intro t i; exact ⟨t, fun K => rfl⟩
              | cons v l ih =>
                intro t i
                obtain ⟨t2, h2⟩ := ih (sset' i v t) (Pa.succ i)
                exact ⟨t2, fun K => by show sset i v t (fun t => argsK l t (Pa.succ i) K) = _; rw [sset_eq]; exact h2 K⟩
            obtain ⟨t2, h2⟩ := key args .nil .e
            have : t2 = t' := by
              have h3 := h2 (fun tm => .next (.mk (.mk f kind none) tm [.code c] [] .run) [] (.mk .e .nil))
              rw [e] at h3
              injection h3 with h3
              injection h3 with _ h3
              exact h3.symm
            intro K
            rw [h2, this]
          rw [funcO_eq] at hf
          refine ⟨.mk (.mk f kind none) t' [.code c] [] .run, fun K => ?_, rfl, ⟨fn, hf⟩, fun ρ xs hl => ?_⟩
          · rw [← heq K]
            show enter2 fn.body f fn.ntmps args kind K = _
            rw [hb]
            show enter3 (okCode c fn.ntmps) c f args kind K = _
            rw [hc]; rfl
          · have := enter_ok (P := P) (f := f) (args := args) (kind := kind) hl (K := fun f' => .next f' [] (.mk .e .nil)) (Q := fun r => ∀ f', r = .next f' [] (.mk .e .nil) → SFR ρ f' (Frame.enter P f xs kind)) (fun f' e => by cases e) (fun f' hf' _ _ f'' e => by cases e; exact hf')
            refine this _ ?_
            unfold enterK
            rw [funcO_eq, hf]
            show enter2 fn.body f fn.ntmps args kind _ = _
            rw [hb]
            show enter3 (okCode c fn.ntmps) c f args kind _ = _
            rw [hc]
            exact heq (fun f' => .next f' [] (.mk .e .nil))

section
variable {P : Program} {G : Glob} {ops : Array Oper} {tm0 : T SV} {h0 : H} {M : Nat → Prop} {ρ0 ρ ρ' : Env} {w0 w w' : World} {pl : List PI} {l : List Nat} {tm : T SV} {h : H} {fl : Fl} {ts : Array Value} {i : Nat} {o : Oper}

/-- A late operation is done. -/
theorem DInv.ran (hP : SlotP ops (masks ops.toList []) (writers ops.toList 0)) (ho : ops[i]? = some o) (hi : i ∉ plI pl) (hd : ∀ d, o.dst = some d → d < ts.size) (D : DInv P G ops tm0 h0 M ρ0 w0 pl (i :: l) tm h fl ts ρ w) (s' : Sim P G M ρ' h w') (g' : Grow M ρ0 h0 w0 ρ' h w') (hle : Env.le ρ ρ') {x : Value}
    (hv : ∀ d, o.dst = some d → VR ρ' (sget (pa d) tm) x) (hρ : ∀ j ∈ l, ∀ q, (j, q, true) ∈ fl → ρ q = none → ρ' q = none) : DInv P G ops tm0 h0 M ρ0 w0 pl l tm h fl (putT o.dst x ts) ρ' w' := by
  obtain ⟨hnd1, hnd2⟩ := List.nodup_cons.1 D.nodup
  refine ⟨s', g', fun t => ?_, D.keep0, fun j hj hjn => ?_, by rw [putT_size]; exact D.phantom, D.flb, D.fln, D.plan, D.mem, D.closed, fun j hj => ?_, hnd2, fun j hj => D.lt j (by simp [hj]), fun j hj hjn k hk hkn => ?_, fun j b e k hk hkn => ?_, fun a j b e k hk hkn => ?_⟩
  · have := D.slots t
    unfold slotV at this ⊢
    cases hw : findW t (writers ops.toList 0) with
    | none =>
      rw [hw] at this
      simp only [] at this ⊢
      rw [putT_other fun e => by rw [dst_writer hP ho e] at hw; cases hw]
      exact this.mono hle
    | some i' =>
      rw [hw] at this
      simp only [] at this ⊢
      by_cases e : i' = i
      · subst e
        obtain ⟨o', ho', hdo⟩ := writer_dst hw
        rw [ho] at ho'; cases ho'
        rw [if_neg hnd1, hdo, putT_at (hd t hdo)]
        exact hv t hdo
      · rw [putT_other fun e' => e (by rw [dst_writer hP ho e'] at hw; cases hw; rfl)]
        have hiff : i' ∈ i :: l ↔ i' ∈ l := by simp [e]
        by_cases hm : i' ∈ l
        · rw [if_pos (hiff.2 hm)] at this; rw [if_pos hm]; exact this.mono hle
        · rw [if_neg fun k => hm (hiff.1 k)] at this; rw [if_neg hm]; exact this.mono hle
  · obtain ⟨oj, tmj, k1, k2, k3, k4⟩ := D.late j (by simp [hj]) hjn
    refine ⟨oj, tmj, k1, k2, k3, ?_⟩
    rcases k4 with a | ⟨a, hj', u, hs, b1, b2, b3, b4, b5, b6, b7⟩
    · exact .inl a
    · refine .inr ⟨a, hj', u, hs, b1, b2, b3, b4, b5, b6, ?_⟩
      rcases b7 with c | ⟨c1, c2, c3, c4⟩
      · exact .inl c
      · exact .inr ⟨c1, hρ j hj _ c4 c2, c3, c4⟩
  · have := D.sub j hj
    cases this with
    | head => exact absurd hj hi
    | tail _ hm => exact hm
  · by_cases e : j = i
    · exact D.head i l rfl k (e ▸ hk) (by simp [hkn])
    · exact D.down j hj (by simp [e, hjn]) k hk (by simp [hkn])
  · have := D.tail [i] j b (by rw [e]; rfl) k hk (by simp [hkn])
    simp at this
    exact hnd1 (this ▸ hkn)
  · have := D.tail (i :: a) j b (by rw [e]; rfl) k hk (by simp [hkn])
    cases this with
    | head => exact absurd hkn hnd1
    | tail _ hm => exact hm
/-- A heavy operation is done, in the plan and in the run. -/
theorem DInv.heavy (hP : SlotP ops (masks ops.toList []) (writers ops.toList 0)) {p : PI} (hpi : p.i = i) (ho : ops[i]? = some o) (hd : ∀ d, o.dst = some d → d < ts.size) (D : DInv P G ops tm0 h0 M ρ0 w0 (p :: pl) (i :: l) tm h fl ts ρ w) {hu : H} (s' : Sim P G M ρ' hu w') (g' : Grow M ρ h w ρ' hu w')
    {v : SV} {x : Value} (hv : VR ρ' v x) (hph : Phantom P G (putS o.dst v tm) hu ts.size) (hq : ∀ q, Named fl p.mask q → hget hu q = hget h q) : DInv P G ops tm0 h0 M ρ0 w0 pl l (putS o.dst v tm) hu fl (putT o.dst x ts) ρ' w' := by
  obtain ⟨hnd1, hnd2⟩ := List.nodup_cons.1 D.nodup
  obtain ⟨pn1, pn2, _, pn4⟩ := D.plan
  obtain ⟨_, hpm⟩ := D.mem p (by simp)
  rw [hpi] at pn1 hpm
  refine ⟨s', D.grow.trans g', fun t => ?_, fun t ht => ?_, fun j hj hjn => ?_, by rw [putT_size]; exact hph, fun e he => Nat.lt_of_lt_of_le (D.flb e he) g'.nx, D.fln, pn4, fun q hq => D.mem q (by simp [hq]), fun j hj hjn k hk hkn => ?_, fun j hj => ?_, hnd2, fun j hj => D.lt j (by simp [hj]), fun j hj hjn k hk hkn => ?_, fun j b e k hk hkn => ?_, fun a j b e k hk hkn => ?_⟩
  · have := D.slots t
    unfold slotV at this ⊢
    cases hw : findW t (writers ops.toList 0) with
    | none =>
      rw [hw] at this
      simp only [] at this ⊢
      have hne : o.dst ≠ some t := fun e => by rw [dst_writer hP ho e] at hw; cases hw
      rw [putT_other hne, putS_other hne]
      exact this.mono g'.keep
    | some i' =>
      rw [hw] at this
      simp only [] at this ⊢
      by_cases e : i' = i
      · subst e
        obtain ⟨o', ho', hdo⟩ := writer_dst hw
        rw [ho] at ho'; cases ho'
        rw [if_neg hnd1, hdo, putT_at (hd t hdo), putS_at]
        exact hv
      · have hne : o.dst ≠ some t := fun e' => e (by rw [dst_writer hP ho e'] at hw; cases hw; rfl)
        rw [putT_other hne, putS_other hne]
        have hiff : i' ∈ i :: l ↔ i' ∈ l := by simp [e]
        by_cases hm : i' ∈ l
        · rw [if_pos (hiff.2 hm)] at this; rw [if_pos hm]; exact this.mono g'.keep
        · rw [if_neg fun k => hm (hiff.1 k)] at this; rw [if_neg hm]; exact this.mono g'.keep
  · rw [putS_other, D.keep0 t fun i' hi' => by rw [plI_cons]; simp [ht i' hi']]
    intro e
    exact pn1 (ht i (dst_writer hP ho e))
  · have hne : j ≠ i := fun e => hnd1 (e ▸ hj)
    refine (D.late j (by simp [hj]) (by rw [plI_cons, hpi]; simp [hne, hjn])).stays hP (p := p) (by rw [hpi]; exact ho) (by rw [hpi]; exact hne) (fun q b hqb => hq q ⟨_, hqb, ?_, rfl⟩) (fun _ he => he) (fun q hqt hn => ?_)
    · show Nat.testBit p.mask j = false
      cases hb : Nat.testBit p.mask j with
      | false => rfl
      | true => exact absurd (by simp [hj]) (D.head i l rfl j (by rw [hpm]; exact hb))
    · cases hr : ρ' q with
      | none => rfl
      | some b =>
        have := g'.new q hn (by rw [hr]; simp)
        have := D.flb _ hqt
        simp only at this
        omega
  · by_cases e : j = i
    · subst e; exact pn2 k (by rw [← hpm]; exact hk) (by rw [plI_cons]; simp [hkn])
    · exact D.closed j hj (by rw [plI_cons, hpi]; simp [e, hjn]) k hk (by rw [plI_cons]; simp [hkn])
  · have := D.sub j (by rw [plI_cons]; simp [hj])
    cases this with
    | head => exact absurd hj pn1
    | tail _ hm => exact hm
  · by_cases e : j = i
    · exact D.head i l rfl k (e ▸ hk) (by simp [hkn])
    · exact D.down j hj (by simp [e, hjn]) k hk (by simp [hkn])
  · have := D.tail [i] j b (by rw [e]; rfl) k hk (by simp [hkn])
    simp at this
    exact hnd1 (this ▸ hkn)
  · have := D.tail (i :: a) j b (by rw [e]; rfl) k hk (by simp [hkn])
    cases this with
    | head => exact absurd hkn hnd1
    | tail _ hm => exact hm
theorem mk_out {ops : Array Oper} {i j : Nat} (h : Nat.testBit (mkO ops i) j = true) : i < ops.size := by
  rcases Nat.lt_or_ge i ops.size with h1 | h1
  · exact h1
  · have : mkO ops i = 0 := by
      unfold mkO
      rw [List.getD_eq_getElem?_getD, List.getElem?_eq_none (by rw [(masks_spec _ _).1]; simpa using h1)]; rfl
    rw [this] at h; simp at h
/-- What decides what a late operation does, when its turn comes. -/
theorem DInv.late_slots (hP : SlotP ops (masks ops.toList []) (writers ops.toList 0)) (ho : ops[i]? = some o) (D : DInv P G ops tm0 h0 M ρ0 w0 pl (i :: l) tm h fl ts ρ w) {tmj : T SV} (ha : ∀ t ∈ needs ops o, Agree ops tm0 i tm tmj t) :
    ∀ t ∈ needs ops o, VR ρ (sget (pa t) tmj) (ts.getD t undef) := by
  intro t ht
  have h1 := D.slots t
  have h2 := ha t ht
  unfold slotV at h1
  unfold Agree at h2
  cases hw : findW t (writers ops.toList 0) with
  | none =>
    rw [hw] at h1 h2
    simp only [] at h1 h2
    rw [D.keep0 t fun i' hi' => (by rw [hw] at hi'; cases hi'), h2] at h1
    exact h1
  | some i' =>
    rw [hw] at h1 h2
    simp only [] at h1 h2
    by_cases hb : Nat.testBit (mkO ops i) i' = true
    · rw [if_pos hb] at h2
      rw [if_neg (D.head i l rfl i' hb), h2] at h1
      exact h1
    · rw [if_neg hb] at h2
      have hin : i' ∈ i :: l := by
        rcases needs_writer hP ho ht hw with k | k | k
        · rw [k]; simp
        · exact absurd k hb
        · exact Classical.byContradiction fun hn => D.down i' (mk_out k) hn i k (by simp)
      rw [if_pos hin, h2] at h1
      exact h1
theorem DInv.heavy_slots (hP : SlotP ops (masks ops.toList []) (writers ops.toList 0)) (ho : ops[i]? = some o) (hi : i ∈ plI pl) (D : DInv P G ops tm0 h0 M ρ0 w0 pl (i :: l) tm h fl ts ρ w) : ∀ t ∈ needs ops o, VR ρ (sget (pa t) tm) (ts.getD t undef) := by
  intro t ht
  have h1 := D.slots t
  unfold slotV at h1
  cases hw : findW t (writers ops.toList 0) with
  | none => rw [hw] at h1; exact h1
  | some i' =>
    rw [hw] at h1
    simp only [] at h1
    by_cases hin : i' ∈ i :: l
    · rw [if_pos hin] at h1
      rw [D.keep0 t fun i2 hi2 => ?_]
      · exact h1
      · rw [hw] at hi2; cases hi2
        rcases needs_writer hP ho ht hw with k | k | k
        · rw [k]; exact hi
        · exact absurd hin (D.head i l rfl i' k)
        · exact Classical.byContradiction fun hn => D.closed i' (mk_out k) hn i k hi
    · rw [if_neg hin] at h1; exact h1
/-- A guard, as the run sees it. -/
theorem want_ok {tmj : T SV} (hn : ∀ t ∈ needs ops o, VR ρ (sget (pa t) tmj) (ts.getD t undef)) : Region.wanted o (yielded ops ts) = wantG o.guard ops tmj := by
  obtain ⟨tm', ht, hag⟩ := slots_some ts (needs ops o) hn
  unfold Region.wanted
  cases hg : o.guard with
  | none => rfl
  | some g =>
    obtain ⟨j, want⟩ := g
    show (yielded ops ts j == some want) = guardB (syielded ops tmj j) want
    rw [guardB_eq, ← yielded_ok ht]
    congr 1
    unfold syielded
    rw [nthO_eq, Array.getElem?_toList]
    cases h0 : ops[j]? with
    | none => rfl
    | some o0 =>
      show yield2 (dstOf o0) tm' = yield2 (dstOf o0) tmj
      rw [dstOf_eq]
      cases hd : o0.dst with
      | none => rfl
      | some d =>
        show boolOf (sget (pa d) tm') = boolOf (sget (pa d) tmj)
        rw [hag d (needs_guard hg h0 hd)]
end
end Go.Play

/- Play: regions that draw their order are sound; a run is sound. -/
namespace Go.Play
set_option linter.unusedVariables false
set_option linter.unusedSimpArgs false

theorem heavy_sym {P : Program} {G : Glob} {ops : Array Oper} {p : PI} (hp : p.heavy = true) (b : Bd) (tm : T SV) (h : H) (fl : Fl) (K : DrawK) :
    drawI p ops P G b tm h fl K = match wantG p.o.guard ops tm with
      | false => K (putS p.o.dst undefS tm) h fl
      | true => dimK fl p.mask h [] fun hd u => heavyE (sop p.o.op p.o.type P G tm hd) P b hd u fun v h' => K (putS p.o.dst v tm) h' fl := by
  obtain ⟨i, ⟨dst, op, ty, pos, after, guard⟩, heavy, mask⟩ := p
  obtain rfl : heavy = true := hp
  show drawW (wantG guard ops tm) true i mask op ty P G b tm h fl (fun v h fl => setO dst v tm fun tm => K tm h fl) = _
  have hK : (fun v h fl => setO dst v tm fun tm => K tm h fl) = fun v h fl => K (putS dst v tm) h fl := by
    funext v h fl; rw [setO_putS]
  rw [hK]
  simp only [PI.o, PI.mask]
  cases wantG guard ops tm with
  | false => rfl
  | true => rfl
section
variable {P : Program} {G : Glob} {ops : Array Oper} {tm0 : T SV} {h0 : H} {M : Nat → Prop} {ρ0 ρ ρ' : Env} {w0 w w' : World} {pl : List PI} {l : List Nat} {tm : T SV} {h : H} {fl : Fl} {i : Nat} {o : Oper} {f0 : FuncId} {base : List Frame}
  {fi : FI} {de : List SDef} {cs : List SF} {k : List SI} {kt : List Item} {crs : List Frame}

theorem finish_put {fr : Frame} (hft : fr.todo = .inRegion ops (i :: l) :: kt) (ho : ops[i]? = some o) (x : Value) : fr.finish x = { fr with tmps := putT o.dst x fr.tmps, todo := .inRegion ops l :: kt } := by
  simp only [Frame.finish, hft, ho, Option.bind_some]
  cases o.dst <;> rfl
/-- A frame in a region, what of it stays. -/
def InReg (ρ : Env) (f0 : FuncId) (base : List Frame) (fi : FI) (de : List SDef) (cs : List SF) (k : List SI) (ops : Array Oper) (kt : List Item) (crs : List Frame) (l : List Nat) (fr : Frame) : Prop :=
  fr.todo = .inRegion ops l :: kt ∧ ∃ tmx lops, SR ρ f0 base (.mk fi tmx (.inReg ops lops :: k) de .run) cs fr crs
theorem InReg.opers {fr : Frame} (h : InReg ρ f0 base fi de cs k ops kt crs l fr) : ∃ tmx lops, SR ρ f0 base (.mk fi tmx (.inReg ops lops :: k) de .run) cs fr crs ∧ l.map (ops[·]?) = lops.map some := by
  obtain ⟨hft, tmx, lops, hs⟩ := h
  obtain ⟨it, kt', e, hi, hk⟩ := todo_cons hs.top.todo
  rw [hft] at e
  cases e
  cases hi with
  | inReg he _ => exact ⟨tmx, lops, hs, he⟩
theorem InReg.mode {fr : Frame} (h : InReg ρ f0 base fi de cs k ops kt crs l fr) : fr.mode = .run := by
  obtain ⟨_, tmx, lops, hs⟩ := h; exact hs.mode
theorem InReg.done {fr : Frame} (hr : InReg ρ f0 base fi de cs k ops kt crs (i :: l) fr) (ho : ops[i]? = some o) (hle : Env.le ρ ρ') (x : Value) : InReg ρ' f0 base fi de cs k ops kt crs l (fr.finish x) := by
  obtain ⟨tmx, lops, hs, he⟩ := hr.opers
  cases lops with
  | nil => cases he
  | cons o' rest =>
    obtain ⟨tm', _, hs'⟩ := finish_reg hs hle (.lit x) (fun _ => .bad)
    exact ⟨by rw [finish_put hr.1 ho], tm', rest, hs'⟩
theorem InReg.raised {fr : Frame} (hr : InReg ρ f0 base fi de cs k ops kt crs l fr) (hle : Env.le ρ ρ') {c : List (SV × Bool)} {es : List PanicEntry} (hc : CR ρ' c es) : ∃ tmx todo, SR ρ' f0 base (.mk fi tmx todo de (.pan c)) cs (fr.raise es) crs := by
  obtain ⟨_, tmx, lops, hs⟩ := hr
  have h1 := raise_ok (SFR.mono hle hs.top) hc
  exact ⟨tmx, _, hs.re hle h1.1 rfl⟩
theorem step_panic {fr : Frame} (hm : fr.mode = .run) (hft : fr.todo = .inRegion ops (i :: l) :: kt) (ho : ops[i]? = some o) (hw : Region.wanted o (yielded ops fr.tmps) = true) (hd : fr.roundOf = none ∨ ∀ c, o.op ≠ .defer c) {x : Value} (hr : (execOp fr.eval o).run P w = .halt (.panic x) w) :
    Go.step P (lone fr crs w) = .next (lone (fr.raise [{ v := x, recovered := false }]) crs w) :=
  step_lone_go (by rw [stepG_oper hm hft ho hw hd]; simp only [stepG.apply, Sem.runT_eq, hr, GStep.bare_after, if_true]; rfl)
theorem step_value {fr : Frame} (hm : fr.mode = .run) (hft : fr.todo = .inRegion ops (i :: l) :: kt) (ho : ops[i]? = some o) (hw : Region.wanted o (yielded ops fr.tmps) = true) (hd : fr.roundOf = none ∨ ∀ c, o.op ≠ .defer c) {x : Value}
    (hr : (execOp fr.eval o).run P w = .ok (.value x) w' ∨ (execOp fr.eval o).run P w = .ok .skip w' ∧ x = undef) : Go.step P (lone fr crs w) = .next (lone (fr.finish x) crs w') := by
  rcases hr with hr | ⟨hr, rfl⟩
  · exact step_lone_go (by rw [stepG_oper hm hft ho hw hd]; simp only [stepG.apply, Sem.runT_eq, hr, GStep.bare_after, if_true]; rfl)
  · exact step_lone_go (by rw [stepG_oper hm hft ho hw hd]; simp only [stepG.apply, Sem.runT_eq, hr, GStep.bare_after, if_true]; rfl)
theorem not_defer {op : Op} {ty : TypeId} {tm : T SV} {h : H} (hb : sop op ty P G tm h ≠ .bad) (hd : ∀ d, sop op ty P G tm h ≠ .defer d) : ∀ c, op ≠ .defer c := by
  intro c e
  rcases sop_defer (P := P) (G := G) e ty tm h with k | ⟨d, k⟩
  · exact hb k
  · exact hd d k
/-- The run does a late operation; the plan has done it. -/
theorem late_step (hP : SlotP ops (masks ops.toList []) (writers ops.toList 0)) {fr : Frame} (hd : ∀ (i : Nat) (o : Oper) (d : Tmp), ops[i]? = some o → o.dst = some d → d < fr.tmps.size) (hi : i ∉ plI pl) (D : DInv P G ops tm0 h0 M ρ0 w0 pl (i :: l) tm h fl fr.tmps ρ w)
    (s0 : ∀ k, w0.heap.size ≤ k → M k) (hr : InReg ρ f0 base fi de cs k ops kt crs (i :: l) fr) :
    ∃ ρ' w' fr', Go.step P (lone fr crs w) = .next (lone fr' crs w') ∧ DInv P G ops tm0 h0 M ρ0 w0 pl l tm h fl fr'.tmps ρ' w' ∧ InReg ρ' f0 base fi de cs k ops kt crs l fr' ∧ fr'.tmps.size = fr.tmps.size := by
  obtain ⟨o, tmj, ho, ha, hm, hc⟩ := D.late i (by simp) hi
  have hsl := D.late_slots hP ho ha
  have hwant := want_ok hsl
  have hdo : ∀ d, o.dst = some d → d < fr.tmps.size := fun d e => hd i o d ho e
  have htm : ∀ x, (fr.finish x).tmps = putT o.dst x fr.tmps := fun x => by rw [finish_put hr.1 ho]
  rcases hc with ⟨hw, hu⟩ | ⟨hw, hj, v, hs, b1, b2, b3, b4, b5, b6, b7⟩
  · refine ⟨ρ, w, fr.finish undef, step_unwanted hr.mode hr.1 ho (by rw [hwant, hw]), ?_, hr.done ho (.refl _) undef, by rw [htm, putT_size]⟩
    rw [htm]
    exact D.ran hP ho hi hdo D.sim D.grow (.refl _) (fun d e => by rw [hu d e]; exact .lit _) fun _ _ _ _ hn => hn
  · have hnd : ∀ c, o.op ≠ .defer c := not_defer (P := P) (G := G) (ty := o.type) (tm := tmj) (h := smallH (readsO o.op tmj) hj) (by rw [b1]; simp) (by rw [b1]; simp)
    obtain ⟨x, w', hrun, a1, a2, a3, a4, a5, hcase⟩ := light_run D.sim (hj := hj) (ts := fr.tmps) (fun t ht => hsl t (needs_tmps ht)) b3 b4 (fun q hq => ⟨(b6 q hq).1, (b6 q hq).2.1⟩) b1 (by rcases b7 with c | ⟨c, _⟩; exact .inl c; exact .inr c)
    rw [← eval_eq] at hrun
    have hst := step_value (crs := crs) hr.mode hr.1 ho (by rw [hwant, hw]) (.inr hnd) hrun
    have far : ∀ k, ¬ M k → k < w.heap.size := fun k hk => by
      rcases Nat.lt_or_ge k w.heap.size with h1 | h1
      · exact h1
      · exact absurd (s0 k (Nat.le_trans D.grow.size h1)) hk
    rcases hcase with hv | ⟨hs2, b, hv, hbz, hob, hbb⟩
    · have hg : Grow M ρ h w ρ h w' := ⟨a1, a2, a3, a4, fun k hk => a5 k (far k hk), Nat.le_refl _, .refl _, fun o h1 h2 => absurd h1 h2, fun o b hb hne => .inr ⟨hb, hne⟩⟩
      refine ⟨ρ, w', fr.finish x, hst, ?_, hr.done ho (.refl _) x, by rw [htm, putT_size]⟩
      rw [htm]
      exact D.ran hP ho hi hdo (D.sim.more a4 a5) (D.grow.trans hg) (.refl _) (fun d e => by rw [b2 d e]; exact hv) fun _ _ _ _ hn => hn
    · obtain ⟨c2, c3, c4⟩ : ρ (nOf hj) = none ∧ hget h (nOf hj) = hget hs (nOf hj) ∧ (i, nOf hj, true) ∈ fl := by
        rcases b7 with c | ⟨_, c⟩
        · rw [c] at hs2; exact absurd hs2.symm (Pa.succ_ne _)
        · exact c
      have hlt := D.flb _ c4
      simp only at hlt
      have s2 := D.sim.light (o := nOf hj) (b := b) (N := (nOf hj).num) c2 hlt a1 a2 a3 a4 hbz a5 (by rw [c3]; exact hob) (by rw [c3]; exact hbb)
      have hle : Env.le ρ (ρ.put (nOf hj) b) := Env.put_le b c2
      have hlev : Env.le ((ρ.below (nOf hj).num).put (nOf hj) b) (ρ.put (nOf hj) b) := by
        intro o' b' hb'
        unfold Env.put at hb' ⊢
        split at hb'
        · rename_i e; rw [if_pos e]; exact hb'
        · rename_i e; rw [if_neg e]; exact (below_dom hb').2
      have hgrow : Grow M ρ0 h0 w0 (ρ.put (nOf hj) b) h w' := by
        refine ⟨a1.trans D.grow.os, a2.trans D.grow.tape, a3.trans D.grow.output, Nat.le_trans D.grow.size a4, fun k hk => (a5 k (far k hk)).trans (D.grow.same k hk), D.grow.nx, D.grow.keep.trans hle, fun o' h1 h2 => ?_, fun o' b' hb' hne => ?_⟩
        · unfold Env.put at h2
          split at h2
          · rename_i e; rw [e]; exact b5
          · exact D.grow.new o' h1 h2
        · unfold Env.put at hb'
          split at hb'
          · rename_i e
            cases hb'
            rw [e, c3] at hne
            exact .inl (s0 _ (Nat.le_trans D.grow.size (hbb hne)))
          · exact D.grow.track o' b' hb' hne
      refine ⟨ρ.put (nOf hj) b, w', fr.finish x, hst, ?_, hr.done ho hle x, by rw [htm, putT_size]⟩
      rw [htm]
      refine D.ran hP ho hi hdo s2 hgrow hle (fun d e => by rw [b2 d e]; exact hv.mono hlev) fun j hj' q hq hn => ?_
      unfold Env.put
      rw [if_neg fun e => ?_]
      · exact hn
      · have := D.fln _ hq _ c4 rfl rfl e
        simp only at this
        exact (List.nodup_cons.1 D.nodup).1 (this ▸ hj')

/-- A phantom's heavy operation. -/
theorem Phantom.dims {n : Nat} (hp : Phantom P G tm h n) {mask : Nat} {hd : H} {u : List (Pa × SO)} (hn : nOf hd = nOf h) (h1 : ∀ o, Named fl mask o → Dimmed (hget hd o) (hget h o)) (h2 : ∀ o, ¬ Named fl mask o → hget hd o = hget h o)
    (hb : ∀ e ∈ fl, e.2.1.num < (nOf h).num) (u1 : ∀ h' o, Named fl mask o → hget (undim u h') o = hget h o) (u2 : ∀ p ∈ u, Named fl mask p.1) {dst : Option Tmp} (hdst : ∀ d, dst = some d → d < n) :
    ∃ (M : Nat → Prop) (ρ : Env) (w : World) (ts : Array Value), Sim P G M ρ hd w ∧ TR ρ tm ts ∧ ∀ (ρ' : Env) (w' : World) (h' : H) (v : SV) (x : Value), Sim P G M ρ' h' w' → Grow M ρ hd w ρ' h' w' → VR ρ' v x → Phantom P G (putS dst v tm) (undim u h') n := by
  obtain ⟨Mp, ρp, wp, tsp, s, ht, hz⟩ := hp
  have hnb : ∀ o, Named fl mask o → o.num < (nOf h).num := fun o ⟨e, he, _, ho⟩ => by rw [← ho]; exact hb e he
  refine ⟨_, ρp, wp, tsp, s.dim hn h1 h2, ht, fun ρ' w' h' v x s' g' hv => ?_⟩
  obtain ⟨s2, g2⟩ := s.undim hn h1 h2 hnb (nOf_undim u h') (u1 h') (fun o ho => hget_undim_other u h' o fun p hp e => ho (e ▸ u2 p hp)) s' g'
  exact ⟨Mp, ρ', w', putT dst x tsp, s2, (ht.mono g'.keep).put (fun t e => by rw [hz]; exact hdst t e) hv, by rw [putT_size, hz]⟩

/-- The plan and the run do a heavy operation. -/
theorem heavy_step {R : RunF} (hR : RunOK P G R) (hf0 : ∃ fn, P.funcs[f0]? = some fn) (hP : SlotP ops (masks ops.toList []) (writers ops.toList 0)) {fr : Frame} (hd : ∀ (i : Nat) (o : Oper) (d : Tmp), ops[i]? = some o → o.dst = some d → d < fr.tmps.size) {p : PI} (hp : p.heavy = true) (hpi : p.i = i)
    (D : DInv P G ops tm0 h0 M ρ0 w0 (p :: pl) (i :: l) tm h fl fr.tmps ρ w) (hr : InReg ρ f0 base fi de cs k ops kt crs (i :: l) fr) (K : DrawK)
    (hK : ∀ {ρ' : Env} {w' : World} {fr' : Frame} {tm' : T SV} {h' : H}, DInv P G ops tm0 h0 M ρ0 w0 pl l tm' h' fl fr'.tmps ρ' w' → InReg ρ' f0 base fi de cs k ops kt crs l fr' → fr'.tmps.size = fr.tmps.size → ResOK P G M ρ0 h0 w0 f0 base (lone fr' crs w') (K tm' h' fl)) :
    ResOK P G M ρ0 h0 w0 f0 base (lone fr crs w) (drawI p ops P G (.mk fi de cs R) tm h fl K) := by
  obtain ⟨ho, hpm⟩ := D.mem p (by simp)
  rw [hpi] at ho
  generalize hpo : p.o = o at ho
  have hsl := D.heavy_slots hP ho (by rw [plI_cons, hpi]; simp)
  have hwant := want_ok hsl
  have hdo : ∀ d, o.dst = some d → d < fr.tmps.size := fun d e => hd i o d ho e
  have htm : ∀ x, (fr.finish x).tmps = putT o.dst x fr.tmps := fun x => by rw [finish_put hr.1 ho]
  rw [heavy_sym hp, hpo]
  cases hw : wantG o.guard ops tm with
  | false =>
    simp only []
    have hst := step_unwanted (P := P) (w := w) (crs := crs) hr.mode hr.1 ho (by rw [hwant, hw])
    refine ResOK.after (.one hst) .refl (hK ?_ (hr.done ho (.refl _) undef) (by rw [htm, putT_size]))
    obtain ⟨Mp, ρp, wp, tsp, ps, pt, pz⟩ := D.phantom
    rw [htm]
    exact D.heavy hP hpi ho hdo D.sim .refl (.lit _) ⟨Mp, ρp, wp, putT o.dst undef tsp, ps, pt.put (fun t e => by rw [pz]; exact hdo t e) (.lit _), by rw [putT_size, pz]⟩ fun _ _ => rfl
  | true =>
    simp only []
    obtain ⟨hdm, u, e, d1, d2, d3, d4, d5⟩ := dimK_ok p.mask fl h h [] (fun hd u => heavyE (sop o.op o.type P G tm hd) P (.mk fi de cs R) hd u fun v h' => K (putS o.dst v tm) h' fl) (fun _ => False) rfl (fun _ k => k.elim) (fun _ _ => rfl) (fun _ _ k => k.elim) (fun q hq => by cases hq)
    rw [e]
    clear e
    have d2 : ∀ o, Named fl p.mask o → Dimmed (hget hdm o) (hget h o) := fun o ho => d2 o (.inr ho)
    have d3 : ∀ o, ¬ Named fl p.mask o → hget hdm o = hget h o := fun o ho => d3 o fun k => ho (k.resolve_left id)
    have d4 : ∀ h' o, Named fl p.mask o → hget (undim u h') o = hget h o := fun h' o ho => d4 h' o (.inr ho)
    have d5 : ∀ q ∈ u, Named fl p.mask q.1 := fun q hq => (d5 q hq).resolve_left id
    have hnb : ∀ o, Named fl p.mask o → o.num < (nOf h).num := fun o ⟨e, he, _, ho⟩ => by rw [← ho]; exact D.flb e he
    have sd := D.sim.dim d1 d2 d3
    have back := fun {ρ' : Env} {w' : World} {h' : H} (s' : Sim P G (Mdim M ρ h (Named fl p.mask)) ρ' h' w') (g' : Grow (Mdim M ρ h (Named fl p.mask)) ρ hdm w ρ' h' w') =>
      D.sim.undim d1 d2 d3 hnb (nOf_undim u h') (d4 h') (fun o ho => hget_undim_other u h' o fun q hq e => ho (e ▸ d5 q hq)) s' g'
    obtain ⟨tm', htr, hag⟩ := slots_some fr.tmps (tmpsOf o.op) (ρ := ρ) (tm := tm) fun t ht => hsl t (needs_tmps ht)
    have hok := sop_ok sd o (f := fr.eval) (by rw [eval_eq]; exact evalT_rel htr)
    rw [sop_congr (tm' := tm) fun t ht => hag t ht] at hok
    -- the phantom's part
    obtain ⟨Mp, ρp, wp, tsp, ps, pt, pback⟩ := D.phantom.dims d1 d2 d3 D.flb d4 d5 hdo
    have pok := sop_ok ps o (evalT_rel pt)
    -- what a value gives
    have value : ∀ {ρ' : Env} {w' : World} {h' : H} {v : SV} {x : Value}, Sim P G (Mdim M ρ h (Named fl p.mask)) ρ' h' w' → Grow (Mdim M ρ h (Named fl p.mask)) ρ hdm w ρ' h' w' → VR ρ' v x → Phantom P G (putS o.dst v tm) (undim u h') fr.tmps.size →
        Steps P (lone fr crs w) (lone (fr.finish x) crs w') → ResOK P G M ρ0 h0 w0 f0 base (lone fr crs w) (undimK u h' fun h' => K (putS o.dst v tm) h' fl) := by
      intro ρ' w' h' v x s' g' hv hph hst
      obtain ⟨s2, g2⟩ := back s' g'
      rw [undimK_eq]
      refine ResOK.after hst .refl (hK ?_ (hr.done ho g2.keep x) (by rw [htm, putT_size]))
      rw [htm]
      exact D.heavy hP hpi ho hdo s2 g2 hv hph fun q hq => d4 h' q hq
    -- what a panic gives
    have panics : ∀ {ρ' : Env} {w' : World} {h' : H} {c : List (SV × Bool)} {es : List PanicEntry}, Sim P G (Mdim M ρ h (Named fl p.mask)) ρ' h' w' → Grow (Mdim M ρ h (Named fl p.mask)) ρ hdm w ρ' h' w' → CR ρ' c es →
        Steps P (lone fr crs w) (lone (fr.raise es) crs w') → ResOK P G M ρ0 h0 w0 f0 base (lone fr crs w) (undimK u h' fun h => panB (isNil (deB (.mk fi de cs R))) (.mk fi de cs R) c h) := by
      intro ρ' w' h' c es s' g' hc hst
      obtain ⟨s2, g2⟩ := back s' g'
      rw [undimK_eq]
      show ResOK P G M ρ0 h0 w0 f0 base _ (panB (isNil de) (.mk fi de cs R) c (undim u h'))
      cases hde : isNil de with
      | false => exact .bad
      | true =>
        have hde : de = [] := by cases de with
          | nil => rfl
          | cons d ds => cases hde
        subst hde
        obtain ⟨tmx, todo, hs⟩ := hr.raised g2.keep hc
        exact (unwindP_ok s2 hf0 hs).after hst (D.grow.trans g2)
    cases he : sop o.op o.type P G tm hdm with
    | val v h' =>
      rw [he] at hok pok
      obtain ⟨ρ', w', s', g', hrun⟩ := hok
      obtain ⟨ρq, wq, sq, gq, hrunq⟩ := pok
      have hnd : ∀ c, o.op ≠ .defer c := not_defer (P := P) (G := G) (ty := o.type) (tm := tm) (h := hdm) (by rw [he]; simp) (by rw [he]; simp)
      have hph : Phantom P G (putS o.dst v tm) (undim u h') fr.tmps.size := by
        rcases hrunq with ⟨x, _, hv⟩ | ⟨_, rfl⟩
        · exact pback _ _ _ _ _ sq gq hv
        · exact pback _ _ _ _ undef sq gq (.lit _)
      rcases hrun with ⟨x, hrun, hv⟩ | ⟨hrun, rfl⟩
      · exact value s' g' hv hph (.one (step_value hr.mode hr.1 ho (by rw [hwant, hw]) (.inr hnd) (.inl hrun)))
      · exact value s' g' (.lit undef) hph (.one (step_value hr.mode hr.1 ho (by rw [hwant, hw]) (.inr hnd) (.inr ⟨hrun, rfl⟩)))
    | enter f args =>
      rw [he] at hok pok
      obtain ⟨xs, hrun, hl⟩ := hok
      obtain ⟨ys, _, hly⟩ := pok
      have hnd : ∀ c, o.op ≠ .defer c := not_defer (P := P) (G := G) (ty := o.type) (tm := tm) (h := hdm) (by rw [he]; simp) (by rw [he]; simp)
      change ResOK P G M ρ0 h0 w0 f0 base _ (enterK P f args .normal fun f' => subR (R f' [] hdm) (.mk fi de cs R) u fun v h' => K (putS o.dst v tm) h' fl)
      rcases enter_cases P f args .normal with hb | ⟨f', hK', hfi, hfn, hfr⟩
      · rw [hb]; exact .bad
      · rw [hK']
        have hst : Go.step P (lone fr crs w) = .next (lone (Frame.enter P f xs .normal) (fr :: crs) w) := by
          obtain ⟨tmx, lops, hs⟩ := hr.2
          exact step_lone_go (by rw [stepG_oper hs.mode hr.1 ho (by rw [hwant, hw]) (.inr hnd)]; exact apply_enter hs.top.todo hrun)
        have hsub := hR _ ρ hdm w f (fr :: crs) f' [] _ (fr :: crs) hfn sd (.last (hfr ρ xs hl) hfi)
        have hsubp := hR _ ρp hdm wp f [] f' [] _ [] hfn ps (.last (hfr ρp ys hly) hfi)
        cases hres : R f' [] hdm with
        | done v h' =>
          rw [hres] at hsub hsubp
          obtain ⟨ρ', w', fr', x, k1, k2, k3, k4, k5, k6⟩ := hsub
          obtain ⟨ρq, wq, _, y, _, _, _, q4, q5, q6⟩ := hsubp
          exact value k5 k6 k4 (pback _ _ _ _ _ q5 q6 q4) (.head hst (k1.trans (.one (step_leave_returned k3))))
        | pan c h' =>
          rw [hres] at hsub
          obtain ⟨ρ', w', fr', es, k1, k2, k3, k4, k5, k6⟩ := hsub
          exact panics k5 k6 k4 (.head hst (k1.trans (.one (step_leave_panicked k3))))
        | next _ _ _ => exact .bad
        | bad => exact .bad
    | panic v =>
      rw [he] at hok
      obtain ⟨x, hrun, hv⟩ := hok
      have hnd : ∀ c, o.op ≠ .defer c := not_defer (P := P) (G := G) (ty := o.type) (tm := tm) (h := hdm) (by rw [he]; simp) (by rw [he]; simp)
      exact panics sd .refl (.cons hv .nil) (.one (step_panic hr.mode hr.1 ho (by rw [hwant, hw]) (.inr hnd) hrun))
    | _ => exact .bad

/-- A region between its plan and any order. -/
theorem draw_run {R : RunF} (hR : RunOK P G R) (hf0 : ∃ fn, P.funcs[f0]? = some fn) (hP : SlotP ops (masks ops.toList []) (writers ops.toList 0)) (s0 : ∀ k, w0.heap.size ≤ k → M k) (n : Nat) (hd : ∀ (i : Nat) (o : Oper) (d : Tmp), ops[i]? = some o → o.dst = some d → d < n) :
    ∀ (m : Nat) {l : List Nat} {pl : List PI} {tm : T SV} {h : H} {fl : Fl} {ρ : Env} {w : World} {fr : Frame}, l.length + pl.length ≤ m → fr.tmps.size = n → DInv P G ops tm0 h0 M ρ0 w0 pl l tm h fl fr.tmps ρ w → InReg ρ f0 base fi de cs k ops kt crs l fr →
      ResOK P G M ρ0 h0 w0 f0 base (lone fr crs w) (drawL pl ops P G (.mk fi de cs R) tm k h fl) := by
  intro m
  induction m with
  | zero =>
    intro l pl tm h fl ρ w fr hlen hz D hr
    have hl : l = [] := List.length_eq_zero_iff.1 (by omega)
    have hpl : pl = [] := List.length_eq_zero_iff.1 (by omega)
    subst hl hpl
    obtain ⟨tmx, lops, hs⟩ := hr.2
    have ht : TR ρ tm fr.tmps := fun t => by
      have := D.slots t
      unfold slotV at this
      cases hw : findW t (writers ops.toList 0) with
      | none => rw [hw] at this; exact this
      | some i => rw [hw] at this; simpa using this
    obtain ⟨it, kt', e, hi, hk⟩ := todo_cons hs.top.todo
    rw [hr.1] at e
    cases e
    have hs2 : SR ρ f0 base (.mk fi tm k de .run) cs { fr with todo := kt } crs := hs.re (.refl _) (f' := .mk fi tm k de .run) ⟨fi_todo hs.top.fi kt, ht, hk, hs.top.defers, hs.top.mode⟩ rfl
    have hst : Go.step P (lone fr crs w) = .next (lone { fr with todo := kt } crs w) := step_lone_go (by simp [stepG, hs.mode, stepG.exec, hr.1])
    exact (nextB_ok D.sim R hs2).after (.one hst) D.grow
  | succ m ih =>
    intro l pl tm h fl ρ w fr hlen hz D hr
    have hd' : ∀ (i : Nat) (o : Oper) (d : Tmp), ops[i]? = some o → o.dst = some d → d < fr.tmps.size := by rw [hz]; exact hd
    have late : ∀ i l', l = i :: l' → i ∉ plI pl → ResOK P G M ρ0 h0 w0 f0 base (lone fr crs w) (drawL pl ops P G (.mk fi de cs R) tm k h fl) := by
      intro i l' e hi
      subst e
      obtain ⟨ρ', w', fr', h1, h2, h3, h4⟩ := late_step hP hd' hi D s0 hr
      exact ResOK.after (.one h1) .refl (ih (by simp at hlen; omega) (h4.trans hz) h2 h3)
    cases pl with
    | nil =>
      cases l with
      | nil => exact ih (by simp) hz D hr
      | cons i l' => exact late i l' rfl (by simp [plI])
    | cons p pl =>
      change ResOK P G M ρ0 h0 w0 f0 base _ (drawI p ops P G (.mk fi de cs R) tm h fl fun tm h fl => drawL pl ops P G (.mk fi de cs R) tm k h fl)
      cases hh : p.heavy with
      | false =>
        rcases light_late hP hh hd' D (.mk fi de cs R) (fun tm h fl => drawL pl ops P G (.mk fi de cs R) tm k h fl) with e | ⟨tm', h', fl', e, D'⟩
        · rw [e]; exact .bad
        · rw [e]
          exact ih (by simp at hlen; omega) hz D' hr
      | true =>
        cases l with
        | nil => have := D.sub p.i (by rw [plI_cons]; simp); cases this
        | cons i l' =>
          by_cases hi : i ∈ plI (p :: pl)
          · have hpi : p.i = i := by
              rw [plI_cons] at hi
              cases hi with
              | head => rfl
              | tail _ hm =>
                exfalso
                obtain ⟨q, hq, e⟩ := List.mem_map.1 hm
                have h1 := D.plan.2.2.1 hh q hq
                rw [← (D.mem q (by simp [hq])).2, e] at h1
                exact D.head i l' rfl p.i h1 (D.sub p.i (by rw [plI_cons]; simp))
            exact heavy_step hR hf0 hP hd' hh hpi D hr (fun tm h fl => drawL pl ops P G (.mk fi de cs R) tm k h fl) fun D' hr' hz' => ih (by simp at hlen; omega) (hz'.trans hz) D' hr'
          · exact late i l' rfl hi
theorem okOps_mem {l : List Oper} {n : Nat} : okOps l n = true ↔ ∀ o ∈ l, ∀ d, o.dst = some d → d < n := by
  induction l with
  | nil => exact ⟨fun _ o ho => (by cases ho), fun _ => rfl⟩
  | cons o l ih =>
    show andB (okDst (dstOf o) n) (okOps l n) = true ↔ _
    rw [andB_eq, Bool.and_eq_true, ih, dstOf_eq]
    constructor
    · rintro ⟨h1, h2⟩ o' ho'
      cases ho' with
      | head => exact fun d hd => by rw [hd] at h1; exact Nat.le_of_ble_eq_true h1
      | tail _ hm => exact h2 o' hm
    · intro h
      refine ⟨?_, fun o' ho' => h o' (by simp [ho'])⟩
      cases hd : o.dst with
      | none => rfl
      | some d => exact Nat.ble_eq_true_of_le (h o (by simp) d hd)
/-- Regions that draw their order are sound. -/
theorem draw_ok {R : RunF} (hR : RunOK P G R) : DrawOK P G R := by
  intro M ρ h w f0 base fi tm id ops k de cs fr crs hf0 s hs
  cases hpl : plan ops with
  | none => exact .bad
  | some pl =>
    have pp := plan_some hpl
    change ResOK P G M ρ h w f0 base _ (drawL pl ops P G (.mk fi de cs R) tm k h [])
    obtain ⟨it, kt, hft, hi, hk⟩ := todo_cons hs.top.todo
    cases hi with
    | code hc =>
      have hc : okOps ops.toList fr.tmps.size = true := hc
      rw [okOps_mem] at hc
      let t := w.tape w.drawn (.order fr.fn id)
      let w1 : World := { w with drawn := w.drawn + 1 }
      have hst : Go.step P (lone fr crs w) = .next (lone { fr with todo := .inRegion ops (Region.schedule (P.follows .mixedOrders) ops t) :: kt } crs w1) :=
        step_lone_go (by simp [stepG, stepG.exec, hs.mode, hft, choose, Sem.run, Question.forced, Question.cut, t, w1])
      have ord := pp.order (P.follows .mixedOrders) t
      generalize Region.schedule (P.follows .mixedOrders) ops t = l at hst ord
      have s1 : Sim P G M ρ h w1 := s.drew rfl
      have g1 : Grow M ρ h w ρ h w1 := .drew rfl rfl rfl rfl
      have hlops : ∃ lops : List Oper, l.map (ops[·]?) = lops.map some ∧ okOps lops fr.tmps.size = true := by
        have key : ∀ l : List Nat, (∀ i ∈ l, i < ops.size) → ∃ lops : List Oper, l.map (ops[·]?) = lops.map some ∧ ∀ o ∈ lops, o ∈ ops.toList := by
          intro l
          induction l with
          | nil => intro _; exact ⟨[], rfl, fun o ho => by cases ho⟩
          | cons i l ih =>
            intro hl
            obtain ⟨lo, h1, h2⟩ := ih fun j hj => hl j (by simp [hj])
            have hi := hl i (by simp)
            refine ⟨ops[i] :: lo, by simp [h1, hi], fun o ho => ?_⟩
            cases ho with
            | head => simp
            | tail _ hm => exact h2 o hm
        obtain ⟨lo, h1, h2⟩ := key l fun i hi => (ord.all i).1 hi
        exact ⟨lo, h1, okOps_mem.2 fun o ho => hc o (h2 o ho)⟩
      obtain ⟨lops, hlo1, hlo2⟩ := hlops
      have hs1 : SR ρ f0 base (.mk fi tm (.inReg ops lops :: k) de .run) cs { fr with todo := .inRegion ops l :: kt } crs := hs.to (.cons (.inReg hlo1 hlo2) hk)
      have ahead : ∀ a i b, l = a ++ i :: b → ∀ j, Nat.testBit (mkO ops i) j = true → j ∈ a := fun a i b e j hj => mask_ahead ord.resp i a b e ((ord.all i).1 (by rw [e]; simp)) j hj
      have D : DInv P G ops tm h M ρ w1 pl l tm h [] fr.tmps ρ w1 := by
        refine ⟨s1, .refl, fun t => ?_, fun _ _ => rfl, fun i hi hn => absurd (pp.all i ((ord.all i).1 hi)) hn, ⟨M, ρ, w1, fr.tmps, s1, hs.top.tmps, rfl⟩, fun e he => (by cases he), fun e he => (by cases he), pp.plan, fun p hp => pp.mem p hp, fun i hi hn => absurd (pp.all i hi) hn, fun i hi => ?_, ord.nodup, fun i hi => (ord.all i).1 hi, fun i hi hn => absurd ((ord.all i).2 hi) hn, fun i b e j hj => ?_, fun a i b e j hj _ => ahead a i b e j hj⟩
        · unfold slotV
          cases findW t (writers ops.toList 0) with
          | none => exact hs.top.tmps t
          | some i => simp only [ite_self]; exact hs.top.tmps t
        · obtain ⟨p, hp, e⟩ := List.mem_map.1 hi
          have := (pp.mem p hp).1
          rw [e] at this
          refine (ord.all i).2 ?_
          rcases Nat.lt_or_ge i ops.size with h1 | h1
          · exact h1
          · rw [Array.getElem?_eq_none h1] at this; cases this
        · have := ahead [] i b e j hj
          cases this
      have hrun := draw_run (fr := { fr with todo := .inRegion ops l :: kt }) (k := k) (kt := kt) hR hf0 pp.slots s1.fresh fr.tmps.size (fun i o d ho hd => hc o (by
        have := Array.mem_of_getElem? ho; simpa using this) d hd) (l.length + pl.length) (Nat.le_refl _) rfl D ⟨rfl, tm, lops, hs1⟩
      exact hrun.after (.one hst) g1
/-- A run is sound. -/
theorem run_ok (n : Nat) : RunOK P G (runF P G n) := runF_ok (fun _ h => draw_ok h) n
end
end Go.Play

/- Play: what a run says of a call; what the listed package variables give it. -/
namespace Go.Play
open Go.RowKit
set_option linter.unusedVariables false
set_option linter.unusedSimpArgs false

/-- A run without arguments that ends in true. -/
theorem play_true {P : Program} {G : Glob} {n : Nat} {f : FuncId} (hr : isTrue (start P G n f [] (.mk .e .nil)) = true) (w : World)
    (hG : ∀ g cs, gfind G g = some cs → ∃ (c : Array Value) (el : TypeId) (fr : Nat × Nat), w.heap[g]? = some (.cells c el fr) ∧ ∀ (i : Nat) (v : SV), cs[i]? = some v → ∃ x : Value, c[i]? = some x ∧ VR (fun _ => none) v x) :
    Calls P f #[] w fun e w' => e = .returned (.bool true) ∧ Below w.heap.size w w' := by
  have s : Sim P G (fun k => w.heap.size ≤ k) (fun _ => none) (.mk .e .nil) w := by
    refine ⟨fun o b hb => (by cases hb), fun o b hb => (by cases hb), fun o b hb => (by cases hb), fun o o' b b' hb => (by cases hb), fun o b hb => (by cases hb), fun k hk => hk, fun g cs hg => ?_⟩
    obtain ⟨c, el, fr, h1, h2⟩ := hG g cs hg
    have := lt_of_at h1
    exact ⟨by omega, c, el, fr, h1, h2⟩
  intro cs
  unfold start at hr
  rcases enter_cases P f [] .normal with hb | ⟨f', hK, hfi, hfn, hfr⟩
  · rw [hb] at hr; cases hr
  · rw [hK] at hr
    have h1 := run_ok (G := G) n _ _ _ w f cs f' [] _ cs hfn s (.last (hfr _ #[] .nil) hfi)
    generalize runF P G n f' [] (.mk .e .nil) = r at hr h1
    cases r with
    | done v h' =>
      obtain ⟨ρ', w', fr, x, k1, k2, k3, k4, k5, k6⟩ := h1
      have hv : v = .lit (.bool true) := by
        unfold isTrue at hr
        split at hr
        · rename_i e; cases e; rfl
        · cases hr
      subst hv
      cases k4
      exact ⟨.returned (.bool true), w', fr, ⟨rfl, k6.os, k6.tape, k6.output, k6.size, fun k hk => k6.same k (by omega)⟩, k1, k2, k3⟩
    | _ => cases hr

-- listed package variables
def layFields (P : Program) (lay : TypeId → DataW Unit → Option (List SV)) : List Field → List (DataW Unit) → Nat → Option (List SV)
  | [], [], _ => some []
  | f :: fs, d :: ds, off => match f.offset == off, lay f.type d, layFields P lay fs ds (off + P.cellsOf f.type) with
    | true, some a, some b => match a.length == P.cellsOf f.type with
      | true => some (a ++ b)
      | false => none
    | _, _, _ => none
  | _, _, _ => none
def layElems (k : Nat) (lay : DataW Unit → Option (List SV)) : List (DataW Unit) → Option (List SV)
  | [] => some []
  | d :: ds => match lay d, layElems k lay ds with
    | some a, some b => match a.length == k with
      | true => some (a ++ b)
      | false => none
    | _, _ => none
/-- The cells of a plain datum of a type. -/
def layC (P : Program) : Nat → TypeId → DataW Unit → Option (List SV)
  | 0, _, _ => none
  | n + 1, t, d => match P.underlying t, d with
    | some .bool, .lit (.bool b) => some [.lit (.bool b)]
    | some (.int k), .lit (.int _ z) => some [.lit (.int k z)]
    | some .string, .lit (.string s) => some [.lit (.string ⟨s.toArray⟩)]
    | some (.struct fs), .agg ds => layFields P (layC P n) fs.toList ds 0
    | some (.array m e), .agg ds => layElems (P.cellsOf e) (layC P n e) ds
    | _, _ => none
section
variable {P : Program} {w : World} {ρ : Env}
theorem fields_rel {enc : TypeId × Value → Unit} {spare : Nat → Bool} {held : Bool} {fuel n : Nat} {cs : List Value} (ih : ∀ {t : TypeId} {d : DataW Unit} {cs : List Value} {p : List MemPlace} {vs : List SV}, layC P n t d = some vs → DataW.trod enc P w 0 spare held fuel t cs = some (d, p) → VRL ρ vs (cs.take vs.length)) :
    ∀ (fs : List Field) {xs : List (DataW Unit × List MemPlace)} {off : Nat} {vs : List SV}, (fs.mapM fun f => DataW.trod enc P w 0 spare held fuel f.type ((cs.drop f.offset).take (P.cellsOf f.type))) = some xs →
      layFields P (layC P n) fs (xs.map (·.1)) off = some vs → VRL ρ vs ((cs.drop off).take vs.length) := by
  intro fs
  induction fs with
  | nil => intro xs off vs hx hv; cases hx; cases hv; simpa using VRL.nil
  | cons f fs ihf =>
    intro xs off vs hx hv
    rw [List.mapM_cons] at hx
    cases h1 : DataW.trod enc P w 0 spare held fuel f.type ((cs.drop f.offset).take (P.cellsOf f.type)) with
    | none => rw [h1] at hx; cases hx
    | some x =>
      rw [h1] at hx
      cases h2 : (fs.mapM fun f => DataW.trod enc P w 0 spare held fuel f.type ((cs.drop f.offset).take (P.cellsOf f.type))) with
      | none => rw [h2] at hx; cases hx
      | some ys =>
        rw [h2] at hx
        cases hx
        obtain ⟨d, p⟩ := x
        unfold layFields at hv
        simp only [List.map_cons] at hv
        split at hv
        · rename_i a b ho ha hb
          split at hv
          · rename_i hl
            cases hv
            have ho : f.offset = off := by simpa using ho
            have hl : a.length = P.cellsOf f.type := by simpa using hl
            subst ho
            have r1 := ih ha h1
            have r2 := ihf h2 hb
            rw [List.length_append, List.take_add]
            rw [← hl, List.take_take, Nat.min_self] at r1
            refine r1.append ?_
            rw [List.drop_drop]
            rw [← hl] at r2
            exact r2
          · cases hv
        · cases hv
theorem elems_rel {enc : TypeId × Value → Unit} {spare : Nat → Bool} {held : Bool} {fuel n k : Nat} {e : TypeId} {cs : List Value} (ih : ∀ {t : TypeId} {d : DataW Unit} {cs : List Value} {p : List MemPlace} {vs : List SV}, layC P n t d = some vs → DataW.trod enc P w 0 spare held fuel t cs = some (d, p) → VRL ρ vs (cs.take vs.length)) :
    ∀ (m s : Nat) {xs : List (DataW Unit × List MemPlace)} {vs : List SV}, ((List.range' s m).mapM fun i => DataW.trod enc P w 0 spare held fuel e ((cs.drop (i * k)).take k)) = some xs →
      layElems k (layC P n e) (xs.map (·.1)) = some vs → VRL ρ vs ((cs.drop (s * k)).take vs.length) ∧ vs.length = m * k := by
  intro m
  induction m with
  | zero => intro s xs vs hx hv; cases hx; cases hv; exact ⟨by simpa using VRL.nil, by simp⟩
  | succ m ihm =>
    intro s xs vs hx hv
    rw [List.range'_succ, List.mapM_cons] at hx
    cases h1 : DataW.trod enc P w 0 spare held fuel e ((cs.drop (s * k)).take k) with
    | none => rw [h1] at hx; cases hx
    | some x =>
      rw [h1] at hx
      cases h2 : ((List.range' (s + 1) m).mapM fun i => DataW.trod enc P w 0 spare held fuel e ((cs.drop (i * k)).take k)) with
      | none => rw [h2] at hx; cases hx
      | some ys =>
        rw [h2] at hx
        cases hx
        obtain ⟨d, p⟩ := x
        unfold layElems at hv
        simp only [List.map_cons] at hv
        split at hv
        · rename_i a b ha hb
          split at hv
          · rename_i hl
            cases hv
            have hl : a.length = k := by simpa using hl
            have r1 := ih ha h1
            obtain ⟨r2, r3⟩ := ihm _ h2 hb
            refine ⟨?_, by rw [List.length_append, hl, r3, Nat.add_mul]; omega⟩
            rw [List.length_append, List.take_add]
            rw [← hl, List.take_take, Nat.min_self, hl] at r1
            refine VRL.append (by rw [hl]; exact r1) ?_
            rw [List.drop_drop, hl, show s * k + k = (s + 1) * k by rw [Nat.add_mul]; omega]
            exact r2
          · cases hv
        · cases hv
theorem lay_rel {enc : TypeId × Value → Unit} {spare : Nat → Bool} {held : Bool} : ∀ (n : Nat) {fuel : Nat} {t : TypeId} {d : DataW Unit} {cs : List Value} {p : List MemPlace} {vs : List SV}, layC P n t d = some vs → DataW.trod enc P w 0 spare held fuel t cs = some (d, p) → VRL ρ vs (cs.take vs.length) := by
  intro n
  induction n with
  | zero => intro fuel t d cs p vs h; cases h
  | succ n ih =>
    intro fuel t d cs p vs hv ht
    cases fuel with
    | zero => unfold DataW.trod at ht; cases ht
    | succ fuel =>
      unfold layC at hv
      unfold DataW.trod at ht
      split at hv
      · rename_i b hu
        rw [hu] at ht
        cases hv
        split at ht <;> first | (cases ht; done) | skip
        all_goals (first | (rename_i e; cases e; done) | skip)
        all_goals (first | (cases ht; exact .cons (.lit _) .nil) | (split at ht <;> cases ht) | skip)
      · rename_i k k' z hu
        rw [hu] at ht
        cases hv
        split at ht <;> first | (cases ht; done) | skip
        all_goals (first | (rename_i e; cases e; done) | skip)
        all_goals
          rename_i e
          cases e
          split at ht
          · rename_i e2
            obtain ⟨rfl, _⟩ := e2
            cases ht
            exact .cons (.lit _) .nil
          · cases ht
      · rename_i s hu
        rw [hu] at ht
        cases hv
        split at ht <;> first | (cases ht; done) | skip
        all_goals (first | (rename_i e; cases e; done) | skip)
        all_goals (first | (split at ht <;> first | (cases ht; done) | (cases ht; exact .cons (.lit _) .nil)) | skip)
      · rename_i fs ds hu
        rw [hu] at ht
        simp only [] at ht
        split at ht
        · rename_i hl
          cases hx : (fs.toList.mapM fun f => DataW.trod enc P w 0 spare held fuel f.type ((cs.drop f.offset).take (P.cellsOf f.type))) with
          | none => rw [hx] at ht; cases ht
          | some xs =>
            rw [hx] at ht
            cases ht
            have := fields_rel (ρ := ρ) (cs := cs) (fun h1 h2 => ih h1 h2) fs.toList hx hv
            rw [List.drop_zero] at this
            exact this
        · cases ht
      · rename_i m e ds hu
        rw [hu] at ht
        simp only [] at ht
        split at ht
        · rename_i hl
          rw [List.range_eq_range'] at ht
          cases hx : ((List.range' 0 m).mapM fun i => DataW.trod enc P w 0 spare held fuel e ((cs.drop (i * P.cellsOf e)).take (P.cellsOf e))) with
          | none => rw [hx] at ht; cases ht
          | some xs =>
            rw [hx] at ht
            cases ht
            obtain ⟨r1, r2⟩ := elems_rel (ρ := ρ) (cs := cs) (fun h1 h2 => ih h1 h2) m 0 hx hv
            rw [Nat.zero_mul, List.drop_zero] at r1
            exact r1
        · cases ht
      · cases hv
theorem laid_mem {l : List (String × DataW Unit)} : ∀ {ps : List MemPlace}, DataW.LaidVars P w l ps → ∀ {n : String} {d : DataW Unit}, (n, d) ∈ l → ∃ g t cs fuel p, P.globalNamed n = some g ∧ (P.globals[g]?).map (·.type) = some t ∧ w.var? P n = some cs ∧ DataW.trod (fun _ => ()) P w 0 (fun _ => true) false fuel t cs.toList = some (d, p) := by
  induction l with
  | nil => intro ps _ n d h; cases h
  | cons x l ih =>
    intro ps h n d hm
    obtain ⟨g, t, cs, fuel, p, q, h1, h2, h3, h4, h5, _⟩ := h
    cases hm with
    | head => exact ⟨g, t, cs, fuel, p, h1, h2, h3, h4⟩
    | tail _ hm => exact ih h5 hm
theorem var_cells {n : String} {g : Nat} {cs : Array Value} (hg : P.globalNamed n = some g) (hv : w.var? P n = some cs) : ∃ el fr, w.heap[g]? = some (.cells cs el fr) := by
  unfold World.var? at hv
  rw [hg] at hv
  simp only [Option.bind_some] at hv
  split at hv
  · rename_i e; cases hv; exact ⟨_, _, e⟩
  · cases hv
/-- A listed table. -/
theorem laid_table {l : List (String × DataW Unit)} (hm : laidMet P l w) {n : String} {d : DataW Unit} (hn : (n, d) ∈ l) {g : Nat} (hg : P.globalNamed n = some g) {t : TypeId} (ht : (P.globals[g]?).map (·.type) = some t) {k : Nat} {vs : List SV} (hl : layC P k t d = some vs) :
    ∃ (c : Array Value) (el : TypeId) (fr : Nat × Nat), w.heap[g]? = some (.cells c el fr) ∧ ∀ (i : Nat) (v : SV), vs[i]? = some v → ∃ x : Value, c[i]? = some x ∧ VR ρ v x := by
  obtain ⟨ps, hv, _⟩ := hm
  obtain ⟨g', t', cs, fuel, p, h1, h2, h3, h4⟩ := laid_mem hv hn
  rw [hg] at h1; cases h1
  rw [ht] at h2; cases h2
  obtain ⟨el, fr, hc⟩ := var_cells hg h3
  refine ⟨cs, el, fr, hc, fun i v hi => ?_⟩
  obtain ⟨x, hx, hvx⟩ := (lay_rel (ρ := ρ) k hl h4).get i v hi
  rw [List.getElem?_take] at hx
  split at hx
  · exact ⟨x, by simpa using hx, hvx⟩
  · cases hx
def isIface (d : Option TypeDesc) : Bool := match d with | some (.interface _) => true | _ => false
/-- A listed variable of an interface's type that holds something. -/
theorem laid_iface {l : List (String × DataW Unit)} (hm : laidMet P l w) {n : String} {s : String} {d : DataW Unit} (hn : (n, DataW.iface s d) ∈ l) {g : Nat} (hg : P.globalNamed n = some g) {t : TypeId} (ht : (P.globals[g]?).map (·.type) = some t) (hi : isIface (P.underlying t) = true) :
    ∃ (u : TypeId) (y : Value) (c : Array Value) (el : TypeId) (fr : Nat × Nat), w.heap[g]? = some (.cells c el fr) ∧ c[0]? = some (.iface u y) := by
  obtain ⟨ps, hv, _⟩ := hm
  obtain ⟨g', t', cs, fuel, p, h1, h2, h3, h4⟩ := laid_mem hv hn
  rw [hg] at h1; cases h1
  rw [ht] at h2; cases h2
  obtain ⟨el, fr, hc⟩ := var_cells hg h3
  obtain ⟨ms, hu⟩ : ∃ ms, P.underlying t = some (.interface ms) := by
    unfold isIface at hi
    split at hi
    · rename_i ms e; exact ⟨ms, e⟩
    · cases hi
  cases fuel with
  | zero => unfold DataW.trod at h4; cases h4
  | succ fuel =>
    unfold DataW.trod at h4
    rw [hu] at h4
    simp only [] at h4
    split at h4 <;> first | (cases h4; done) | (rename_i e; cases e; done) | skip
    all_goals (first | (rename_i e1 e2; cases e1; done) | skip)
    all_goals
      first
      | (rename_i u y hcs; exact ⟨u, y, cs, el, fr, hc, by rw [← Array.getElem?_toList, hcs]; rfl⟩)
      | (rename_i u y e hcs; exact ⟨u, y, cs, el, fr, hc, by rw [← Array.getElem?_toList, hcs]; rfl⟩)
end
end Go.Play

/- Play: runs in pieces; between them what is not looked at again is forgotten. -/
namespace Go.Play
open Go.RowKit
set_option linter.unusedVariables false
set_option linter.unusedSimpArgs false

section
variable {P : Program} {G : Glob}
theorem runM_ok {big : RunF} (hb : RunOK P G big) : ∀ n, RunOK P G (runM P G big n) := by
  intro n
  induction n with
  | zero => intro M ρ h w f0 base f cs fr crs hf0 s hs; exact .here s hs
  | succ n ih =>
    intro M ρ h w f0 base f cs fr crs hf0 s hs
    have h1 := step_ok hf0 (draw_ok hb) s hs
    show ResOK P G M ρ h w f0 base _ (runR (step f big P G cs h) (runM P G big n))
    generalize step f big P G cs h = r at h1
    cases r with
    | next f' cs' h' =>
      obtain ⟨ρ', w', fr', crs', k1, k2, k3, k4⟩ := h1
      exact (ih M ρ' h' w' f0 base f' cs' fr' crs' hf0 k3 k2).after k1 k4
    | _ => exact h1
mutual
theorem fgV_rel {ρ : Env} : ∀ {v : SV} {x : Value}, VR ρ v x → VR ρ (fgV v) x
  | _, _, .lit v => by
    show VR ρ (fgLit (anyOk v) v) v
    cases h : anyOk v with
    | true => exact .any h
    | false => exact .lit v
  | _, _, .ptr _ _ => .any rfl
  | _, _, .slc _ _ _ _ _ _ _ _ _ => .any rfl
  | _, _, .eslc _ _ => .any rfl
  | _, _, .mapv _ => .any rfl
  | _, _, .fn _ _ => .any rfl
  | _, _, .yld _ => .any rfl
  | _, _, .ifc _ _ => .any rfl
  | _, _, .agg h => .agg (fgL_rel h)
  | _, _, .tup h => .tup (fgL_rel h)
  | _, _, .any h => .any h
theorem fgL_rel {ρ : Env} : ∀ {l : List SV} {xs : List Value}, VRL ρ l xs → VRL ρ (fgL l) xs
  | _, _, .nil => .nil
  | _, _, .cons h t => .cons (fgV_rel h) (fgL_rel t)
end
theorem sget_map (p : Pa) : ∀ t : T SV, sget p (mapT t) = fgV (sget p t) := by
  induction p with
  | e => intro t; cases t <;> rfl
  | l p ih => intro t; cases t with
    | nil => show sget p .nil = fgV (sget p .nil); rw [sget_nil]; rfl
    | node v l r => show sget p (mapT l) = _; rw [ih]; rfl
  | r p ih => intro t; cases t with
    | nil => show sget p .nil = fgV (sget p .nil); rw [sget_nil]; rfl
    | node v l r => show sget p (mapT r) = _; rw [ih]; rfl
theorem putT1_eq (p : Pa) : ∀ (x : SV) (t : T SV), putT1 p x t = sset' p x t := by
  induction p with
  | e => intro x t; cases t <;> rfl
  | l p ih => intro x t; cases t <;> (simp only [putT1, sset', ih])
  | r p ih => intro x t; cases t <;> (simp only [putT1, sset', ih])
theorem putO1_eq (p : Pa) : ∀ (x : SO) (t : T SO), putO1 p x t = oset' p x t := by
  induction p with
  | e => intro x t; cases t <;> rfl
  | l p ih => intro x t; cases t <;> (simp only [putO1, oset', ih])
  | r p ih => intro x t; cases t <;> (simp only [putO1, oset', ih])
theorem ovrT_get (tm : T SV) (p : Pa) : ∀ l : List Pa, sget p (ovrT (mapT tm) (pickT tm l)) = sget p tm ∨ sget p (ovrT (mapT tm) (pickT tm l)) = fgV (sget p tm) := by
  intro l
  induction l with
  | nil => exact .inr (sget_map p tm)
  | cons q l ih =>
    show sget p (putT1 q (sget q tm) (ovrT (mapT tm) (pickT tm l))) = _ ∨ sget p (putT1 q (sget q tm) (ovrT (mapT tm) (pickT tm l))) = _
    rw [putT1_eq, sget_set]
    by_cases e : p = q
    · rw [if_pos e, e]; exact .inl rfl
    · rw [if_neg e]; exact ih
theorem mkHeap_get (h : H) (p : Pa) : ∀ l : List Pa, hget (mkHeap (nOf h) (pickH h l)) p = hget h p ∨ hget (mkHeap (nOf h) (pickH h l)) p = .none := by
  intro l
  show oget p ((pickH h l).foldr (fun p t => putO1 p.1 p.2 t) .nil) = _ ∨ oget p ((pickH h l).foldr (fun p t => putO1 p.1 p.2 t) .nil) = _
  induction l with
  | nil => exact .inr (oget_nil p)
  | cons q l ih =>
    show oget p (putO1 q (hget h q) _) = _ ∨ oget p (putO1 q (hget h q) _) = _
    rw [putO1_eq, oget_set]
    by_cases e : p = q
    · rw [if_pos e, e]; exact .inl rfl
    · rw [if_neg e]; exact ih
theorem Sim.drop {M : Nat → Prop} {ρ : Env} {h h' : H} {w : World} (s : Sim P G M ρ h w) (hn : nOf h' = nOf h) (hh : ∀ o, hget h' o = hget h o ∨ hget h' o = .none) : Sim P G M ρ h' w ∧ Grow M ρ h w ρ h' w := by
  have hne : ∀ o, hget h' o ≠ .none → hget h' o = hget h o := fun o k => (hh o).resolve_right k
  refine ⟨⟨fun o b hb => ?_, s.size, fun o b hb => by rw [hn]; exact s.dom o b hb, fun o o' b b' h1 h2 n1 n2 e => s.apart o o' b b' h1 h2 (by rw [← hne o n1]; exact n1) (by rw [← hne o' n2]; exact n2) e, fun o b hb hm => ?_, s.fresh, s.globs⟩, ⟨rfl, rfl, rfl, Nat.le_refl _, fun _ _ => rfl, Nat.le_of_eq (by rw [hn]), .refl _, fun o h0 h1 => absurd h0 h1, fun o b hb k => .inr ⟨hb, by rw [← hne o k]; exact k⟩⟩⟩
  · rcases hh o with e | e
    · rw [e]; exact s.live o b hb
    · rw [e]; exact .none _ _
  · have : hget h' o ≠ .none := fun e => by rw [e] at hm; cases hm
    rw [hne o this] at hm
    exact s.mine o b hb hm
theorem cutF_rel {ρ : Env} {k : List Pa} {f : SF} {fr : Frame} (h : SFR ρ f fr) : SFR ρ (cutF k f) fr ∧ fiOf (cutF k f) = fiOf f := by
  obtain ⟨fi, tm, todo, de, mode⟩ := f
  refine ⟨⟨h.fi, fun i => ?_, h.todo, h.defers, h.mode⟩, rfl⟩
  rcases ovrT_get tm (pa i) k with e | e
  · show VR ρ (sget (pa i) (ovrT (mapT tm) (pickT tm k))) _; rw [e]; exact h.tmps i
  · show VR ρ (sget (pa i) (ovrT (mapT tm) (pickT tm k))) _; rw [e]; exact fgV_rel (h.tmps i)
theorem cut_rel {ρ : Env} {f0 : FuncId} {base : List Frame} : ∀ {f : SF} {cs : List SF} {fr : Frame} {crs : List Frame}, SR ρ f0 base f cs fr crs → ∀ (k : List Pa) (ks : List (List Pa)), SR ρ f0 base (cutF k f) (cutFs ks cs) fr crs := by
  intro f cs fr crs h
  induction h with
  | last h hf => intro k ks; cases ks <;> exact .last (cutF_rel h).1 ((cutF_rel h).2.trans hf)
  | @cons f g cs fr gr crs h t ih =>
    intro k ks
    cases ks with
    | nil => exact .cons (cutF_rel h).1 t
    | cons k2 ks => exact .cons (cutF_rel h).1 (ih k2 ks)
/-- From here the run ends in true. -/
def Good (P : Program) (G : Glob) (f : SF) (cs : List SF) (h : H) : Prop :=
  ∀ (M : Nat → Prop) (ρ : Env) (w : World) (f0 : FuncId) (base : List Frame) (fr : Frame) (crs : List Frame), (∃ fn, P.funcs[f0]? = some fn) → Sim P G M ρ h w → SR ρ f0 base f cs fr crs →
    ∃ ρ' h' w' fr', Steps P (lone fr crs w) (lone fr' base w') ∧ fr'.fn = f0 ∧ fr'.leaving P w' (.returned (.bool true)) ∧ Grow M ρ h w ρ' h' w'
theorem isTrue_done {r : Res} (h : isTrue r = true) : ∃ h', r = .done (.lit (.bool true)) h' := by
  unfold isTrue at h
  split at h
  · exact ⟨_, rfl⟩
  · cases h
theorem good_last {big n : Nat} {f : SF} {cs : List SF} {h : H} (hr : isTrue (runM P G (runF P G big) n f cs h) = true) : Good P G f cs h := by
  intro M ρ w f0 base fr crs hf0 s hs
  have h1 := runM_ok (run_ok (G := G) big) n M ρ h w f0 base f cs fr crs hf0 s hs
  obtain ⟨h', e⟩ := isTrue_done hr
  rw [e] at h1
  obtain ⟨ρ', w', fr', x, k1, k2, k3, k4, k5, k6⟩ := h1
  cases k4
  exact ⟨ρ', h', w', fr', k1, k2, k3, k6⟩
theorem cutR_next {keep : List Pa} {keeps : List (List Pa)} {objs : List Pa} {r : Res} {f : SF} {cs : List SF} {h : H} (hr : cutR keep keeps objs r = .next f cs h) : ∃ f1 cs1 h1, r = .next f1 cs1 h1 ∧ f = cutF keep f1 ∧ cs = cutFs keeps cs1 ∧ h = mkHeap (nOf h1) (pickH h1 objs) := by
  unfold cutR at hr
  split at hr
  · cases hr; exact ⟨_, _, _, rfl, rfl, rfl, rfl⟩
  · cases hr
theorem good_piece {M : Nat → Prop} {ρ : Env} {h : H} {w : World} {f0 : FuncId} {base : List Frame} {m : Machine} {r : Res} {keep : List Pa} {keeps : List (List Pa)} {objs : List Pa} {f' : SF} {cs' : List SF} {h' : H} (hf0 : ∃ fn, P.funcs[f0]? = some fn)
    (h1 : ResOK P G M ρ h w f0 base m r) (hr : cutR keep keeps objs r = .next f' cs' h') (hg : Good P G f' cs' h') :
    ∃ ρ' h' w' fr', Steps P m (lone fr' base w') ∧ fr'.fn = f0 ∧ fr'.leaving P w' (.returned (.bool true)) ∧ Grow M ρ h w ρ' h' w' := by
  obtain ⟨f1, cs1, h2, rfl, rfl, rfl, rfl⟩ := cutR_next hr
  obtain ⟨ρ', w', fr', crs', k1, k2, k3, k4⟩ := h1
  obtain ⟨s2, g2⟩ := k3.drop (h' := mkHeap (nOf h2) (pickH h2 objs)) rfl fun o => mkHeap_get h2 o objs
  obtain ⟨ρ3, h3, w3, fr3, q1, q2, q3, q4⟩ := hg M ρ' w' f0 base fr' crs' hf0 s2 (cut_rel k2 keep keeps)
  exact ⟨ρ3, h3, w3, fr3, k1.trans q1, q2, q3, (k4.trans g2).trans q4⟩
theorem good_cut {big n : Nat} {f : SF} {cs : List SF} {h : H} {keep : List Pa} {keeps : List (List Pa)} {objs : List Pa} {f' : SF} {cs' : List SF} {h' : H} (hr : cutR keep keeps objs (runM P G (runF P G big) n f cs h) = .next f' cs' h') (hg : Good P G f' cs' h') : Good P G f cs h := by
  intro M ρ w f0 base fr crs hf0 s hs
  exact good_piece hf0 (runM_ok (run_ok (G := G) big) n M ρ h w f0 base f cs fr crs hf0 s hs) hr hg
/-- A call without arguments, in pieces. -/
theorem play_pieces {big n : Nat} {f : FuncId} {keep : List Pa} {keeps : List (List Pa)} {objs : List Pa} {f' : SF} {cs' : List SF} {h' : H} (hr : cutR keep keeps objs (startM P G big n f [] (.mk .e .nil)) = .next f' cs' h') (hgood : Good P G f' cs' h') (w : World)
    (hG : ∀ g cs, gfind G g = some cs → ∃ (c : Array Value) (el : TypeId) (fr : Nat × Nat), w.heap[g]? = some (.cells c el fr) ∧ ∀ (i : Nat) (v : SV), cs[i]? = some v → ∃ x : Value, c[i]? = some x ∧ VR (fun _ => none) v x) :
    Calls P f #[] w fun e w' => e = .returned (.bool true) ∧ Below w.heap.size w w' := by
  have s : Sim P G (fun k => w.heap.size ≤ k) (fun _ => none) (.mk .e .nil) w := by
    refine ⟨fun o b hb => (by cases hb), fun o b hb => (by cases hb), fun o b hb => (by cases hb), fun o o' b b' hb => (by cases hb), fun o b hb => (by cases hb), fun k hk => hk, fun g cs hg => ?_⟩
    obtain ⟨c, el, fr, h1, h2⟩ := hG g cs hg
    have := lt_of_at h1
    exact ⟨by omega, c, el, fr, h1, h2⟩
  intro cs
  unfold startM at hr
  rcases enter_cases P f [] .normal with hb | ⟨f2, hK, hfi, hfn, hfr⟩
  · rw [hb] at hr; cases hr
  · rw [hK] at hr
    have h1 := runM_ok (run_ok (G := G) big) n _ _ _ w f cs f2 [] _ cs hfn s (.last (hfr _ #[] .nil) hfi)
    obtain ⟨ρ', h2, w', fr, k1, k2, k3, k6⟩ := good_piece hfn h1 hr hgood
    exact ⟨.returned (.bool true), w', fr, ⟨rfl, k6.os, k6.tape, k6.output, k6.size, fun k hk => k6.same k (by omega)⟩, k1, k2, k3⟩
end
end Go.Play

/- Play: a call with arguments that are literals. -/
namespace Go.Play
open Go.RowKit
set_option linter.unusedVariables false
set_option linter.unusedSimpArgs false
mutual
/-- The value that a told value is, where it names no object. -/
def vlit : SV → Option Value
  | .lit v => some v
  | .tup l => match vlits l with | some xs => some (.tuple xs.toArray) | none => none
  | .agg l => match vlits l with | some xs => some (.agg xs.toArray) | none => none
  | .ifc t v => match vlit v with | some x => some (.iface t x) | none => none
  | _ => none
def vlits : List SV → Option (List Value)
  | [] => some []
  | v :: l => match vlit v, vlits l with | some x, some xs => some (x :: xs) | _, _ => none
end
section
variable {ρ : Env}
mutual
theorem vlit_ok : ∀ {v : SV} {x : Value}, VR ρ v x → ∀ {y : Value}, vlit v = some y → x = y
  | _, _, .lit v, y, h => by cases h; rfl
  | _, _, .tup hl, y, h => by
    unfold vlit at h
    split at h
    · rename_i xs e
      cases h
      have := vlits_ok hl e
      rw [← this]
    · cases h
  | _, _, .agg hl, y, h => by
    unfold vlit at h
    split at h
    · rename_i xs e
      cases h
      have := vlits_ok hl e
      rw [← this]
    · cases h
  | _, _, .ifc t hv, y, h => by
    unfold vlit at h
    split at h
    · rename_i x e
      cases h
      rw [vlit_ok hv e]
    · cases h
  | _, _, .ptr off _, y, h => by cases h
  | _, _, .slc .., y, h => by cases h
  | _, _, .eslc .., y, h => by cases h
  | _, _, .mapv _, y, h => by cases h
  | _, _, .fn .., y, h => by cases h
  | _, _, .yld _, y, h => by cases h
  | _, _, .any _, y, h => by cases h
theorem vlits_ok : ∀ {l : List SV} {xs : List Value}, VRL ρ l xs → ∀ {ys : List Value}, vlits l = some ys → xs = ys
  | _, _, .nil, ys, h => by cases h; rfl
  | _, _, .cons hv hl, ys, h => by
    unfold vlits at h
    split at h
    · rename_i x xs e1 e2
      cases h
      rw [vlit_ok hv e1, vlits_ok hl e2]
    · cases h
end
end
def litOf (r : Res) : Option Value := match r with
  | .done v _ => vlit v
  | _ => none
theorem VRL.lits' (ρ : Env) : ∀ l : List Value, VRL ρ (l.map .lit) l
  | [] => .nil
  | v :: l => .cons (.lit v) (VRL.lits' ρ l)
/-- A call with literal arguments whose run ends in a literal. -/
theorem play_lit {P : Program} {G : Glob} {n : Nat} {f : FuncId} {args : List Value} {v : Value} (hr : litOf (start P G n f (args.map .lit) (.mk .e .nil)) = some v) (w : World)
    (hG : ∀ g cs, gfind G g = some cs → ∃ (c : Array Value) (el : TypeId) (fr : Nat × Nat), w.heap[g]? = some (.cells c el fr) ∧ ∀ (i : Nat) (v : SV), cs[i]? = some v → ∃ x : Value, c[i]? = some x ∧ VR (fun _ => none) v x) :
    Calls P f args.toArray w fun e w' => e = .returned v ∧ Below w.heap.size w w' := by
  have s : Sim P G (fun k => w.heap.size ≤ k) (fun _ => none) (.mk .e .nil) w := by
    refine ⟨fun o b hb => (by cases hb), fun o b hb => (by cases hb), fun o b hb => (by cases hb), fun o o' b b' hb => (by cases hb), fun o b hb => (by cases hb), fun k hk => hk, fun g cs hg => ?_⟩
    obtain ⟨c, el, fr, h1, h2⟩ := hG g cs hg
    have := lt_of_at h1
    exact ⟨by omega, c, el, fr, h1, h2⟩
  intro cs
  unfold start at hr
  rcases enter_cases P f (args.map .lit) .normal with hb | ⟨f', hK, hfi, hfn, hfr⟩
  · rw [hb] at hr; cases hr
  · rw [hK] at hr
    have hA : VRL (fun _ => none) (args.map .lit) args.toArray.toList := by simpa using VRL.lits' (fun _ => none) args
    have h1 := run_ok (G := G) n _ _ _ w f cs f' [] _ cs hfn s (.last (hfr _ args.toArray hA) hfi)
    generalize runF P G n f' [] (.mk .e .nil) = r at hr h1
    cases r with
    | done v' h' =>
      obtain ⟨ρ', w', fr, x, k1, k2, k3, k4, k5, k6⟩ := h1
      have hx : x = v := vlit_ok k4 (show vlit v' = some v from hr)
      subst hx
      exact ⟨.returned x, w', fr, ⟨rfl, k6.os, k6.tape, k6.output, k6.size, fun k hk => k6.same k (by omega)⟩, k1, k2, k3⟩
    | _ => cases hr
end Go.Play
