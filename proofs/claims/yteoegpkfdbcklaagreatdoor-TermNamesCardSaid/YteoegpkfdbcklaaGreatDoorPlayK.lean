/- Play: the operations: equality, conversions, copies, views. -/
import Derived.Test.YteoegpkfdbcklaaGreatDoorPlayJ
import Derived.KernelRfl
namespace Go.Play
set_option linter.unusedVariables false
set_option linter.unusedSimpArgs false
section
variable {P : Program} {G : Glob} {M : Nat → Prop} {ρ : Env} {h : H} {w : World}

-- equality
theorem obj_row (s : Sim P G M ρ h w) {o : Pa} {b : Loc} (hb : ρ o = some b) (ho : ownO (hget h o) = true) : ∃ c e, w.heap[b.block]? = some (.cells c e (0, 0)) ∧ hget h o ≠ .none := by
  have hlive := s.live o b hb
  cases hob : hget h o with
  | cells vs e own =>
    rw [hob] at hlive ho
    obtain rfl : own = true := ho
    cases hk : w.heap[b.block]? with
    | none => rw [hk] at hlive; cases hlive
    | some ob => rw [hk] at hlive; cases hlive with | @cells _ _ _ _ c fr hs hm hf => obtain rfl : fr = (0, 0) := hf rfl; exact ⟨c, e, rfl, by simp⟩
  | _ => rw [hob] at ho; cases ho
theorem run_sameAddr_same (bk i j : Nat) : (sameAddr ⟨bk, i, none⟩ ⟨bk, j, none⟩).run P w = .ok (decide (i = j)) w := by
  simp only [sameAddr, beq_self_eq_true, if_true, Sem.run_pure]
  congr 1
  rw [Bool.eq_iff_iff]; simp
theorem run_sameAddr_other {bk bk' i j : Nat} {c c' : Array Value} {e e' : TypeId} (hne : bk ≠ bk') (h1 : w.heap[bk]? = some (.cells c e (0, 0))) (h2 : w.heap[bk']? = some (.cells c' e' (0, 0))) :
    (sameAddr ⟨bk, i, none⟩ ⟨bk', j, none⟩).run P w = .ok false w := by
  have hb : (bk == bk') = false := by simpa using hne
  simp only [sameAddr, hb, Bool.false_eq_true, if_false, Sem.run_bind, run_frozen, frozen_at h1, frozen_at h2, Result.andThen_ok, noView, viewAt, run_shape, shape_at h1, shape_at h2, Option.isSome_some, if_true, Option.isSome_none, Sem.run_pure, mayBeOne, stringish, Bool.false_and, Bool.and_self, Bool.or_self]
theorem run_eq_of {op : BinOp} {t : TypeId} {x y : Operand} {a b : Value} {r : Bool} (hg : ∀ o, (eqGuard o t x y a b).run P w = .ok () w) (he : (Op.equal t a b).run P w = .ok r w)
    (h1 : Go.binOp .eql t a b = (do pure (.bool (← Op.equal t a b)))) (h2 : Go.binOp .neq t a b = (do pure (.bool (!(← Op.equal t a b))))) :
    (op = .eql → (do eqGuard op t x y a b; Go.binOp op t a b : Sem Value).run P w = .ok (.bool r) w) ∧ (op = .neq → (do eqGuard op t x y a b; Go.binOp op t a b : Sem Value).run P w = .ok (.bool (!r)) w) := by
  constructor <;> rintro rfl
  · simp only [Sem.run_bind, hg, Result.andThen_ok, h1, he, Sem.run_pure]
  · simp only [Sem.run_bind, hg, Result.andThen_ok, h2, he, Sem.run_pure]
theorem equal_succ {t : TypeId} {x y : Value} {r : Bool} (hq : ∀ n, (Op.equalIn (n + 1) t x y).run P w = .ok r w) : (Op.equal t x y).run P w = .ok r w := hq 9999
/-- What the symbolic equality says, one of the values naming an object. -/
def EqOK (P : Program) (w : World) (t : TypeId) (a b : Value) (r : Bool) : Prop :=
  (∀ o x y, (eqGuard o t x y a b).run P w = .ok () w) ∧ (∀ n, (Op.equalIn (n + 1) t a b).run P w = .ok r w) ∧ Go.binOp .eql t a b = (do pure (.bool (← Op.equal t a b))) ∧ Go.binOp .neq t a b = (do pure (.bool (!(← Op.equal t a b))))
theorem opEq_ok (s : Sim P G M ρ h w) {xT : TypeId} {a b : SV} {a' b' : Value} {r : Bool} (ha : VR ρ a a') (hb : VR ρ b b') (hr : opEq P h xT a b = some r) : EqOK P w xT a' b' r := by
  unfold opEq at hr
  cases hz : eqSized P (undO P xT) with
  | false => rw [hz] at hr; cases hr
  | true =>
    rw [hz] at hr
    cases hu : undO P xT with
    | none => rw [hu] at hr; cases hr
    | some d =>
      rw [hu] at hr hz
      have fin : ∀ {a' b' : Value}, (∀ o x y, (eqGuard o xT x y a' b').run P w = .ok () w) → (∀ n, (Op.equalIn (n + 1) xT a' b').run P w = .ok r w) → Go.binOp .eql xT a' b' = (do pure (.bool (← Op.equal xT a' b'))) → Go.binOp .neq xT a' b' = (do pure (.bool (!(← Op.equal xT a' b')))) → EqOK P w xT a' b' r :=
        fun h1 h2 h3 h4 => ⟨h1, h2, h3, h4⟩
      cases d with
      | pointer e =>
        have hz' : ∃ k, sizeO P e = some (k + 1) := by
          cases hs : sizeO P e with
          | none => simp only [eqSized, hs] at hz; cases hz
          | some k => cases k with
            | zero => simp only [eqSized, hs] at hz; cases hz
            | succ k => exact ⟨k, rfl⟩
        obtain ⟨k, hs⟩ := hz'
        cases a with
        | ptr o i =>
          cases ha with
          | @ptr _ ba _ hba =>
            cases b with
            | ptr o' j =>
              cases hb with
              | @ptr _ bb _ hbb =>
                change ptrEq h o i o' j = some r at hr
                unfold ptrEq at hr
                have hrun : ∀ q, (sameAddr ⟨ba.block, ba.off + i, none⟩ ⟨bb.block, bb.off + j, none⟩).run P w = .ok q w → ∀ n, (Op.equalIn (n + 1) xT (.pointer (some ⟨ba.block, ba.off + i, none⟩)) (.pointer (some ⟨bb.block, bb.off + j, none⟩))).run P w = .ok q w := fun q hq n => by
                  simp only [Op.equalIn, Sem.run_bind, run_und hu, Result.andThen_ok, run_size hs, ne_eq, Nat.succ_ne_zero, not_false_eq_true, if_true, hq, Nat.add_eq_zero_iff, Nat.one_ne_zero, and_false]
                cases hoo : Pa.beq o o' with
                | true =>
                  rw [hoo] at hr
                  obtain rfl := (Pa.beq_iff _ _).1 hoo
                  rw [hba] at hbb; cases hbb
                  cases hr
                  refine fin (fun op x y => by unfold eqGuard; split <;> rfl) (hrun _ ?_) rfl rfl
                  rw [run_sameAddr_same]
                  congr 1
                  rw [Bool.eq_iff_iff, Nat.beq_eq]; simp
                | false =>
                  rw [hoo] at hr
                  cases h1 : ownO (hget h o) with
                  | false => rw [h1] at hr; cases hr
                  | true =>
                    cases h2 : ownO (hget h o') with
                    | false => rw [h1, h2] at hr; cases hr
                    | true =>
                      rw [h1, h2] at hr
                      cases hr
                      obtain ⟨c1, e1, k1, n1⟩ := obj_row s hba h1
                      obtain ⟨c2, e2, k2, n2⟩ := obj_row s hbb h2
                      refine fin (fun op x y => by unfold eqGuard; split <;> rfl) (hrun _ (run_sameAddr_other (fun e' => ?_) k1 k2)) rfl rfl
                      have := s.apart o o' ba bb hba hbb n1 n2 e'
                      rw [(Pa.beq_iff _ _).2 this] at hoo; cases hoo
            | lit v =>
              cases hb
              cases b' with
              | pointer p => cases p with
                | none =>
                  cases hr
                  refine fin (fun op x y => by unfold eqGuard; split <;> rfl) (fun n => ?_) rfl rfl
                  simp only [Op.equalIn, Sem.run_bind, run_und hu, Result.andThen_ok, Sem.run_pure]
                | some p => cases hr
              | _ => cases hr
            | _ => cases hr
        | lit v =>
          cases ha
          cases a' with
          | pointer p => cases p with
            | none =>
              cases b with
              | ptr o' j =>
                cases hb with
                | ptr _ hbb =>
                  cases hr
                  refine fin (fun op x y => by unfold eqGuard; split <;> rfl) (fun n => ?_) rfl rfl
                  simp only [Op.equalIn, Sem.run_bind, run_und hu, Result.andThen_ok, Sem.run_pure, Option.isNone_some]
              | _ => cases hr
            | some p => cases b <;> cases hr
          | _ => cases b <;> cases hr
        | _ => cases b <;> cases hr
      | interface ms =>
        cases a with
        | ifc t v =>
          cases b with
          | lit u =>
            cases ha with
            | ifc _ hv =>
              cases hb
              cases b' with
              | nilIface =>
                cases hr
                refine fin (fun op x y => by unfold eqGuard; split <;> rfl) (fun n => ?_) rfl rfl
                simp only [Op.equalIn, Sem.run_bind, run_und hu, Result.andThen_ok, Sem.run_pure]
              | _ => cases hr
          | _ => cases hr
        | lit v =>
          cases ha
          cases a' with
          | nilIface =>
            cases b with
            | ifc t v =>
              cases hb with
              | ifc _ hv =>
                cases hr
                refine fin (fun op x y => by unfold eqGuard; split <;> rfl) (fun n => ?_) rfl rfl
                simp only [Op.equalIn, Sem.run_bind, run_und hu, Result.andThen_ok, Sem.run_pure]
            | _ => cases hr
          | _ => cases b <;> cases hr
        | _ => cases b <;> cases hr
      | slice e =>
        cases a with
        | slc o off n c ex =>
          cases b with
          | lit u =>
            cases ha
            cases hb
            cases b' with
            | slice p n' c' => cases p with
              | none =>
                cases hr
                refine fin (fun op x y => by unfold eqGuard; split <;> rfl) (fun n => ?_) rfl rfl
                simp only [Op.equalIn, Sem.run_bind, run_und hu, Result.andThen_ok, Sem.run_pure]
              | some p => cases hr
            | _ => cases hr
          | _ => cases hr
        | eslc =>
          cases b with
          | lit u =>
            cases ha
            cases hb
            cases b' with
            | slice p n' c' => cases p with
              | none =>
                cases hr
                refine fin (fun op x y => by unfold eqGuard; split <;> rfl) (fun n => ?_) rfl rfl
                simp only [Op.equalIn, Sem.run_bind, run_und hu, Result.andThen_ok, Sem.run_pure]
              | some p => cases hr
            | _ => cases hr
          | _ => cases hr
        | lit v =>
          cases ha
          cases a' with
          | slice p n' c' => cases p with
            | none =>
              cases b with
              | slc o off n c ex =>
                cases hb
                cases hr
                refine fin (fun op x y => by unfold eqGuard; split <;> rfl) (fun n => ?_) rfl rfl
                simp only [Op.equalIn, Sem.run_bind, run_und hu, Result.andThen_ok, Sem.run_pure, Option.isNone_some]
              | eslc =>
                cases hb
                cases hr
                refine fin (fun op x y => by unfold eqGuard; split <;> rfl) (fun n => ?_) rfl rfl
                simp only [Op.equalIn, Sem.run_bind, run_und hu, Result.andThen_ok, Sem.run_pure, Option.isNone_some]
              | _ => cases hr
            | some p => cases b <;> cases hr
          | _ => cases b <;> cases hr
        | _ => cases b <;> cases hr
      | map kt e =>
        cases a with
        | mapv o =>
          cases b with
          | lit u =>
            cases ha
            cases hb
            cases b' with
            | map p => cases p with
              | none =>
                cases hr
                refine fin (fun op x y => by unfold eqGuard; split <;> rfl) (fun n => ?_) rfl rfl
                simp only [Op.equalIn, Sem.run_bind, run_und hu, Result.andThen_ok, Sem.run_pure]
              | some p => cases hr
            | _ => cases hr
          | _ => cases hr
        | lit v =>
          cases ha
          cases a' with
          | map p => cases p with
            | none =>
              cases b with
              | mapv o =>
                cases hb
                cases hr
                refine fin (fun op x y => by unfold eqGuard; split <;> rfl) (fun n => ?_) rfl rfl
                simp only [Op.equalIn, Sem.run_bind, run_und hu, Result.andThen_ok, Sem.run_pure, Option.isNone_some]
              | _ => cases hr
            | some p => cases b <;> cases hr
          | _ => cases b <;> cases hr
        | _ => cases b <;> cases hr
      | func ps rs vd =>
        cases a with
        | fn f l c =>
          cases b with
          | lit u =>
            cases ha
            cases hb
            cases b' with
            | nilFunc =>
              cases hr
              refine fin (fun op x y => by unfold eqGuard; split <;> rfl) (fun n => ?_) rfl rfl
              simp only [Op.equalIn, Sem.run_bind, run_und hu, Result.andThen_ok, Sem.run_pure]
            | _ => cases hr
          | _ => cases hr
        | yld o =>
          cases b with
          | lit u =>
            cases ha
            cases hb
            cases b' with
            | nilFunc =>
              cases hr
              refine fin (fun op x y => by unfold eqGuard; split <;> rfl) (fun n => ?_) rfl rfl
              simp only [Op.equalIn, Sem.run_bind, run_und hu, Result.andThen_ok, Sem.run_pure]
            | _ => cases hr
          | _ => cases hr
        | lit v =>
          cases ha
          cases a' with
          | nilFunc =>
            cases b with
            | fn f l c =>
              cases hb
              cases hr
              refine fin (fun op x y => by unfold eqGuard; split <;> rfl) (fun n => ?_) rfl rfl
              simp only [Op.equalIn, Sem.run_bind, run_und hu, Result.andThen_ok, Sem.run_pure]
            | yld o =>
              cases hb
              cases hr
              refine fin (fun op x y => by unfold eqGuard; split <;> rfl) (fun n => ?_) rfl rfl
              simp only [Op.equalIn, Sem.run_bind, run_und hu, Result.andThen_ok, Sem.run_pure]
            | _ => cases hr
          | _ => cases b <;> cases hr
        | _ => cases b <;> cases hr
      | _ => cases hr
theorem binSlow_ok (s : Sim P G M ρ h w) (op : BinOp) (xT : TypeId) (x y : Operand) {a b : SV} {a' b' : Value} (ha : VR ρ a a') (hb : VR ρ b b') :
    ValOK P G M ρ h w ((do eqGuard op xT x y a' b'; Go.binOp op xT a' b' : Sem Value).run P w) (binSlow op P h xT a b) := by
  cases op with
  | eql =>
    change ValOK P G M ρ h w _ (eqE (opEq P h xT a b) h)
    cases hr : opEq P h xT a b with
    | none => exact .bad
    | some r =>
      obtain ⟨h1, h2, h3, h4⟩ := opEq_ok s ha hb hr
      exact .quiet s ((run_eq_of (op := .eql) (fun o => h1 o x y) (equal_succ h2) h3 h4).1 rfl) (.lit _)
  | neq =>
    change ValOK P G M ρ h w _ (neE (opEq P h xT a b) h)
    cases hr : opEq P h xT a b with
    | none => exact .bad
    | some r =>
      obtain ⟨h1, h2, h3, h4⟩ := opEq_ok s ha hb hr
      refine .quiet s ((run_eq_of (op := .neq) (fun o => h1 o x y) (equal_succ h2) h3 h4).2 rfl) ?_
      rw [notB_eq]; exact .lit _
  | _ => exact .bad
theorem bin_ok (s : Sim P G M ρ h w) (op : BinOp) (xT : TypeId) (x y : Operand) {a b : SV} {a' b' : Value} (ha : VR ρ a a') (hb : VR ρ b b') :
    ValOK P G M ρ h w ((do eqGuard op xT x y a' b'; Go.binOp op xT a' b' : Sem Value).run P w) (bin1 a a P h op xT x y b) := by
  have slow := binSlow_ok s op xT x y ha hb
  cases a with
  | lit v =>
    cases b with
    | lit u =>
      cases ha; cases hb
      change ValOK P G M ρ h w _ (binLit (fastBin a' op b') P h op xT x y a' b')
      cases hf : fastBin a' op b' with
      | none => exact .still s _
      | some r => exact .quiet s (fastBin_ok hf) (.lit _)
    | _ => exact slow
  | _ => exact slow
end
end Go.Play
