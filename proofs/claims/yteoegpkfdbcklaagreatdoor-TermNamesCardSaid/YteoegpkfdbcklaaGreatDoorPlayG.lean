/- Play: the operations: slices of slices, built values. -/
import Derived.Test.YteoegpkfdbcklaaGreatDoorPlayF
namespace Go.Play
set_option linter.unusedVariables false
set_option linter.unusedSimpArgs false
section
variable {P : Program} {G : Glob} {M : Nat → Prop} {ρ : Env} {h : H} {w : World}

theorem run_bound {k : IntKind} {i y : Nat} (hi : i ≤ y) (c : BoundsCode) : (Instr.sliceBound (.int k i) y c).run P w = .ok i w := by
  have h0 : (0 : Int) ≤ (i : Int) ∧ (i : Int) ≤ (y : Int) := by omega
  simp only [Instr.sliceBound, Sem.run_bind, asIntOf, Sem.run_pure, Result.andThen_ok, h0, and_self, if_true, Int.toNat_natCast]
theorem run_bounds (b : Bool) {len cap l hh m : Nat} {low high max : Option Value} (hl : (low = none ∧ l = 0) ∨ ∃ k, low = some (.int k l))
    (hh' : (high = none ∧ max = none ∧ hh = len) ∨ ∃ k, high = some (.int k hh)) (hm : (max = none ∧ m = cap) ∨ ∃ k, max = some (.int k m)) (h1 : l ≤ hh) (h2 : hh ≤ m) (h3 : m ≤ cap) :
    (Instr.sliceBounds b len cap low high max).run P w = .ok (l, hh, m) w := by
  rcases hm with ⟨rfl, rfl⟩ | ⟨k3, rfl⟩ <;> rcases hh' with ⟨rfl, hx, rfl⟩ | ⟨k2, rfl⟩ <;> rcases hl with ⟨rfl, rfl⟩ | ⟨k1, rfl⟩ <;>
    first
    | (cases hx; done)
    | simp only [Instr.sliceBounds, Sem.run_bind, Sem.run_pure, Result.andThen_ok, run_bound h1, run_bound h2, run_bound h3]
/-- A bound as the evaluator and the model read it. -/
theorem optN_some {x : Option Operand} {d n : Nat} {t : T SV} {ev : Operand → Value} (hev : ∀ x, VR ρ (Play.ev x t) (ev x)) (hx : optN x d t = some n) : (x.map ev = none ∧ x = none ∧ n = d) ∨ ∃ k, x.map ev = some (.int k n) ∧ x ≠ none := by
  cases x with
  | none => cases hx; exact .inl ⟨rfl, rfl, rfl⟩
  | some v => obtain ⟨k, hk⟩ := asN_some (hev v) hx; exact .inr ⟨k, by simp [hk], by simp⟩
theorem optV_some {x : Option Operand} {a : Option Value} {t : T SV} {ev : Operand → Value} (hev : ∀ x, VR ρ (Play.ev x t) (ev x)) (hx : optV x t = some a) : x.map ev = a := by
  cases x with
  | none => cases hx; rfl
  | some v =>
    have hv := hev v
    change someO (litO (Play.ev v t)) = some a at hx
    cases hy : Play.ev v t with
    | lit z => rw [hy] at hx hv; cases hx; cases hv; rfl
    | _ => rw [hy] at hx; cases hx
theorem slcB_some {l hh m : Option Nat} {K : Nat → Nat → Nat → Eff} {Q : Eff → Prop} (hbad : Q .bad) (hK : ∀ a b c, l = some a → hh = some b → m = some c → Q (K a b c)) : Q (slcB l hh m K) := by
  cases l with
  | none => exact hbad
  | some a => cases hh with
    | none => exact hbad
    | some b => cases m with
      | none => exact hbad
      | some c => exact hK a b c rfl rfl rfl
theorem boundsOk_some {hi mx : Option Operand} (h : boundsOk hi mx = true) : hi ≠ none ∨ mx = none := by
  cases hi with
  | some _ => exact .inl (by simp)
  | none => cases mx with
    | none => exact .inr rfl
    | some _ => cases h
theorem elemIs_esz (s : Sim P G M ρ h w) {o : Pa} {b : Loc} {t : TypeId} (hb : ρ o = some b) (he : elemIs (hget h o) t = true) : P.cellsOf t = b.esz := by
  have hlive := s.live o b hb
  cases ho : hget h o with
  | cells vs e own =>
    rw [ho] at he hlive
    have : e = t := Nat.eq_of_beq_eq_true he
    subst this
    cases hk : w.heap[b.block]? with
    | none => rw [hk] at hlive; cases hlive
    | some ob => rw [hk] at hlive; cases hlive with | cells hs => exact hs
  | _ => rw [ho] at he; cases he
theorem slc_ok (s : Sim P G M ρ h w) (ty : TypeId) {x : SV} {y : Value} (hx : VR ρ x y) {t : T SV} {ev : Operand → Value} (hev : ∀ x, VR ρ (Play.ev x t) (ev x)) (lo hi mx : Option Operand) :
    ValOK P G M ρ h w ((Instr.sliceAt ty y (lo.map ev) (hi.map ev) (mx.map ev)).run P w) (slc1 x P t h ty lo hi mx) := by
  cases x with
  | slc o off n cap ex =>
    cases hx with
    | @slc _ b _ _ _ _ cap' hb hc he hr =>
      change ValOK P G M ρ h w _ (slcS P t h o off n cap ex ty lo hi mx)
      unfold slcS
      cases hu : undO P ty with
      | none => exact .bad
      | some d =>
        cases d with
        | slice el =>
          simp only []
          refine ifB_ok (Q := ValOK P G M ρ h w _) .bad fun hbo => ?_
          refine slcB_some (Q := ValOK P G M ρ h w _) .bad fun l hh m hl hhh hm => ?_
          refine ifB_ok (Q := ValOK P G M ρ h w _) .bad fun hle => ?_
          simp only [Bool.and_eq_true, Nat.ble_eq] at hle
          obtain ⟨h1, h2, h3⟩ := hle
          refine ifB_ok (Q := ValOK P G M ρ h w _) .bad fun hok => ?_
          cases hn : sizeO P el with
          | none => exact .bad
          | some size =>
            have run : ∀ m', ((mx = none ∧ m' = cap') ∨ (mx ≠ none ∧ m' = m)) → hh ≤ m' → m' ≤ cap' →
                (Instr.sliceAt ty (.slice (some ⟨b.block, b.off + off, none⟩) n cap') (lo.map ev) (hi.map ev) (mx.map ev)).run P w =
                  .ok (.slice (if m' = l then some ⟨b.block, b.off + off, none⟩ else some ⟨b.block, b.off + (off + l * size), none⟩) (hh - l) (m' - l)) w := by
              intro m' hm' hle1 hle2
              have hb0 := run_bounds (P := P) (w := w) true (len := n) (cap := cap') (l := l) (hh := hh) (m := m') (low := lo.map ev) (high := hi.map ev) (max := mx.map ev)
                (by rcases optN_some hev hl with ⟨q1, _, q2⟩ | ⟨k, q, _⟩
                    · exact .inl ⟨q1, q2⟩
                    · exact .inr ⟨k, q⟩)
                (by rcases optN_some hev hhh with ⟨q1, q2, q3⟩ | ⟨k, q, _⟩
                    · refine .inl ⟨q1, ?_, q3⟩
                      rcases boundsOk_some hbo with q | q
                      · exact absurd q2 q
                      · rw [q]; rfl
                    · exact .inr ⟨k, q⟩)
                (by rcases hm' with ⟨q1, q2⟩ | ⟨q1, q2⟩
                    · exact .inl ⟨by rw [q1]; rfl, q2⟩
                    · rcases optN_some hev hm with ⟨_, q3, _⟩ | ⟨k, q, _⟩
                      · exact absurd q3 q1
                      · exact .inr ⟨k, by rw [q, q2]⟩) h1 hle1 hle2
              simp only [Instr.sliceAt, Instr.slice, Sem.run_bind, run_und hu, Result.andThen_ok, hb0, run_size hn, Sem.run_pure, Option.map_some, add_at, Nat.add_assoc]
            have exq : ∀ (q : Bool), (q = true → m = if mx = none then cap' else m) → ValOK P G M ρ h w ((Instr.sliceAt ty (.slice (some ⟨b.block, b.off + off, none⟩) n cap') (lo.map ev) (hi.map ev) (mx.map ev)).run P w)
                (slcN (some size) true h o off l hh m) ∨ q = false := by
              intro q hq
              cases q with
              | false => exact .inr rfl
              | true =>
                left
                have hq := hq rfl
                have hr0 := run m (by
                  by_cases hmx : mx = none
                  · rw [if_pos hmx] at hq; exact .inl ⟨hmx, hq⟩
                  · exact .inr ⟨hmx, rfl⟩) h2 (Nat.le_trans h3 hc)
                change ValOK P G M ρ h w _ (slcQ (Nat.beq m l) true h o off l hh m size)
                cases hml : Nat.beq m l with
                | true =>
                  have hml' : m = l := Nat.eq_of_beq_eq_true hml
                  rw [if_pos hml'] at hr0
                  exact .quiet s hr0 (.slc off _ _ true _ hb (Nat.le_refl _) (fun _ => rfl) fun e => by cases e)
                | false =>
                  have hml' : m ≠ l := fun e => by rw [e, Nat.beq_refl] at hml; cases hml
                  rw [if_neg hml'] at hr0
                  exact .quiet s hr0 (.slc (off + l * size) _ _ true _ hb (Nat.le_refl _) (fun _ => rfl) fun e => by cases e)
            cases hmx : mx with
            | some v =>
              have : (ex || isSome' (some v)) = true := by cases ex <;> rfl
              rw [this]
              rcases exq true (fun _ => by rw [hmx]; simp) with h4 | h4
              · rw [hmx] at h4; exact h4
              · cases h4
            | none =>
              subst hmx
              have hmc : m = cap := by
                rcases optN_some hev hm with ⟨_, _, q⟩ | ⟨_, _, q⟩
                · exact q
                · exact absurd rfl q
              subst hmc
              cases ex with
              | true =>
                rcases exq true (fun _ => by rw [if_pos rfl, he rfl]) with h4 | h4
                · exact h4
                · cases h4
              | false =>
                change ValOK P G M ρ h w _ (slcQ (Nat.beq m l) false h o off l hh m size)
                have hesz := elemIs_esz s hb (show elemIs (hget h o) el = true from hok)
                rw [sizeO_cellsOf hn] at hesz
                have hr0 := run cap' (.inl ⟨rfl, rfl⟩) (by omega) (Nat.le_refl _)
                cases hml : Nat.beq m l with
                | true =>
                  have hml' : m = l := Nat.eq_of_beq_eq_true hml
                  have h0 : hh - l = 0 := by omega
                  rw [h0] at hr0
                  by_cases hcl : cap' = l
                  · rw [if_pos hcl] at hr0; exact .quiet s hr0 (.eslc _ _)
                  · rw [if_neg hcl] at hr0; exact .quiet s hr0 (.eslc _ _)
                | false =>
                  have hml' : m ≠ l := fun e => by rw [e, Nat.beq_refl] at hml; cases hml
                  rw [if_neg (by omega)] at hr0
                  refine .quiet s hr0 (.slc (off + l * size) _ _ false _ hb (show m - l ≤ cap' - l by omega) (fun e => by cases e) fun _ => ?_)
                  have hr := hr rfl
                  rw [← hesz] at hr ⊢
                  have : l * size + (cap' - l) * size = cap' * size := by rw [← Nat.add_mul]; congr 1; omega
                  omega
        | _ => exact .bad
  | ptr o off =>
    cases hx with
    | @ptr _ b _ hb =>
      change ValOK P G M ρ h w _ (slcA P t h o off ty lo hi mx)
      unfold slcA
      cases hu : undO P ty with
      | none => exact .bad
      | some d =>
        cases d with
        | array n el =>
          simp only []
          refine ifB_ok (Q := ValOK P G M ρ h w _) .bad fun hbo => ?_
          refine slcB_some (Q := ValOK P G M ρ h w _) .bad fun l hh m hl hhh hm => ?_
          refine ifB_ok (Q := ValOK P G M ρ h w _) .bad fun hle => ?_
          simp only [Bool.and_eq_true, Nat.ble_eq] at hle
          obtain ⟨h1, h2, h3⟩ := hle
          cases hn : sizeO P el with
          | none => exact .bad
          | some size =>
            have hb0 := run_bounds (P := P) (w := w) false (len := n) (cap := n) (l := l) (hh := hh) (m := m) (low := lo.map ev) (high := hi.map ev) (max := mx.map ev)
                (by rcases optN_some hev hl with ⟨q1, _, q2⟩ | ⟨k, q, _⟩
                    · exact .inl ⟨q1, q2⟩
                    · exact .inr ⟨k, q⟩)
                (by rcases optN_some hev hhh with ⟨q1, q2, q3⟩ | ⟨k, q, _⟩
                    · refine .inl ⟨q1, ?_, q3⟩
                      rcases boundsOk_some hbo with q | q
                      · exact absurd q2 q
                      · rw [q]; rfl
                    · exact .inr ⟨k, q⟩)
                (by rcases optN_some hev hm with ⟨q3, _, q4⟩ | ⟨k, q, _⟩
                    · exact .inl ⟨q3, q4⟩
                    · exact .inr ⟨k, q⟩) h1 h2 h3
            have hr0 : (Instr.sliceAt ty (.pointer (some ⟨b.block, b.off + off, none⟩)) (lo.map ev) (hi.map ev) (mx.map ev)).run P w =
                  .ok (.slice (some (if m = l then ⟨b.block, b.off + off, none⟩ else ⟨b.block, b.off + (off + l * size), none⟩)) (hh - l) (m - l)) w := by
              simp only [Instr.sliceAt, Instr.sureAddr, Sem.run_bind, run_und hu, Result.andThen_ok, hb0, run_size hn, Sem.run_pure, add_at, Nat.add_assoc]
            change ValOK P G M ρ h w _ (slcQ (Nat.beq m l) true h o off l hh m size)
            cases hml : Nat.beq m l with
            | true =>
              have hml' : m = l := Nat.eq_of_beq_eq_true hml
              rw [if_pos hml'] at hr0
              exact .quiet s hr0 (.slc off _ _ true _ hb (Nat.le_refl _) (fun _ => rfl) fun e => by cases e)
            | false =>
              have hml' : m ≠ l := fun e => by rw [e, Nat.beq_refl] at hml; cases hml
              rw [if_neg hml'] at hr0
              exact .quiet s hr0 (.slc (off + l * size) _ _ true _ hb (Nat.le_refl _) (fun _ => rfl) fun e => by cases e)
        | _ => exact .bad
  | lit v =>
    cases hx
    change ValOK P G M ρ h w _ (slcL P h ty y (optV lo t) (optV hi t) (optV mx t))
    unfold slcL
    cases h1 : optV lo t with
    | none => exact .bad
    | some a => cases h2 : optV hi t with
      | none => exact .bad
      | some b => cases h3 : optV mx t with
        | none => exact .bad
        | some c =>
          rw [optV_some hev h1, optV_some hev h2, optV_some hev h3]
          exact .still s _
  | _ => exact .bad
end
end Go.Play
