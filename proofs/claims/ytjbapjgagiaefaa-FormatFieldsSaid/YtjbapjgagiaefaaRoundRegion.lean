/- A region that draws its order in a round of a range over a function: plain rules for it, at the wide fence. No program text. -/
import Derived.RangeFuncNested
import Derived.RangeFuncCalls
import Derived.OrdersIn
import Derived.StillTailTactics
import Derived.WalkKit
namespace Go.Proofs.Ytjbapjgagiaefaa
open Go Go.RowKit
set_option linter.unusedVariables false
set_option linter.unusedSimpArgs false

section
variable {P : Program} {ops : Array Oper} {md : Region.Mode} {Q : Exit → Act → World → Prop}
/-- Nothing but the normal way out. -/
def OnlyNormal (Q : Exit → Act → World → Prop) (e : Exit) (a : Act) (w : World) : Prop := e = .normal ∧ Q .normal a w
theorem onlyNormal_shut : ¬ LetsOut (OnlyNormal Q) := fun ⟨_, _, h, _⟩ => by cases h
theorem calls_round (l n : Nat) {f : FuncId} {args : Array Value} {w : World} {R : Ending → World → Prop} (h : Calls P f args w R) : CallsIn (Fence.wide.inRound l) n P f args w R :=
  (callsIn_wide.2 h).inRound l
theorem rows_round (l n : Nat) {row : String} {args : Array Value} {w : World} {R : Value → World → Prop} (h : Rows P row args w R) : RowsIn (Fence.wide.inRound l) n P row args w R :=
  fun c cs _ => let ⟨v, w', r, s⟩ := h c cs; ⟨v, w', r, stepsIn_wide.2 s⟩
theorem upon_round (l n : Nat) {o : Oper} {a : Act} {K K' : Act → World → Prop} (hK : ∀ a w, K a w → K' a w) {r : Result Next} (h : o.upon P a K (OnlyNormal Q) r) : o.uponIn (Fence.wide.inRound l) n P a K' Q r := by
  cases r with
  | ok x w' =>
    cases x with
    | value v => exact hK _ _ h
    | skip => exact hK _ _ h
    | defer d => exact hK _ _ h
    | enter f args =>
      refine ⟨(fun hd => by cases hd), calls_round l _ (Calls.mono (show Calls P f args w' _ from h) fun e w'' he => ?_)⟩
      cases e with
      | returned v => exact hK _ _ he
      | panicked chain => cases he.1
      | outgrown => exact absurd he onlyNormal_shut
    | row row args =>
      exact ⟨(fun hd => by cases hd), rows_round l _ fun c cs => let ⟨v, w'', r, s⟩ := (show Rows P row args w' _ from h) c cs; ⟨v, w'', hK _ _ r, s⟩⟩
    | _ => exact h.elim
  | halt x w' =>
    cases x with
    | panic v => cases (show OnlyNormal Q _ _ _ from h).1
    | _ => exact h.elim
theorem any_round (l n : Nat) (hdef : ops.all (fun o => match o.op with | .defer _ => false | _ => true) = true) : ∀ (fuel : Nat) (listed : Array Bool) (a : Act) (w : World),
    wpAny P md ops (OnlyNormal Q) fuel listed a w → wpAnyIn (Fence.wide.inRound l) n P md ops Q fuel listed a w := by
  have hop : ∀ (i : Nat) (o : Oper), ops[i]? = some o → ∀ c, o.op ≠ .defer c := fun i o hi c he => by
    have h1 := Array.all_eq_true.1 hdef i (Array.getElem?_eq_some_iff.1 hi).1
    rw [(Array.getElem?_eq_some_iff.1 hi).2, he] at h1
    cases h1
  intro fuel
  induction fuel with
  | zero => exact fun listed a w h => ⟨h.1, h.2.2⟩
  | succ fuel ih =>
    intro listed a w h
    refine ⟨fun h0 => (h.1 h0).2, fun i hi => ?_⟩
    have h1 := h.2 i hi
    unfold wpOp at h1
    unfold wpOpIn
    cases ho : ops[i]? with
    | none => rw [ho] at h1; exact ih _ _ _ h1
    | some o =>
      rw [ho] at h1
      simp only at h1 ⊢
      split at h1
      · rename_i hw
        rw [if_pos hw]
        rcases h1 with h1 | ⟨_, h1⟩
        · refine ⟨fun _ _ => trivial, ?_⟩
          rw [show (Fence.wide.inRound l).round = some l from rfl, Oper.semAt_some l _ _ (hop i o ho)]
          exact upon_round l n (fun a w => ih _ a w) h1
        · exact absurd h1 onlyNormal_shut
      · rename_i hw
        rw [if_neg hw]
        exact ⟨fun _ _ => trivial, ih _ _ _ h1⟩
/-- Reads and quiet calls before a tail that lies in one chain, in a round. -/
theorem round_still_tail (l n : Nat) {id : Nat} {a : Act} {w : World} {os : List Oper} (m : Nat) (hm : P.follows .mixedOrders = true) (hdef : os.toArray.all (fun o => match o.op with | .defer _ => false | _ => true) = true) (hB : Region.lexTailB .any os.toArray m = true)
    (h : wpStill P os.toArray { w with drawn := w.drawn + 1 } (fun a' => wpList P os.toArray (OnlyNormal Q) (os.drop m) a' { w with drawn := w.drawn + 1 }) (os.take m) a) : (Code.region id os.toArray true).wpIn (Fence.wide.inRound l) n P Q a w := by
  unfold Region.lexTailB at hB
  rw [Bool.and_eq_true, Bool.and_eq_true, Bool.and_eq_true, Bool.and_eq_true] at hB
  have hlt : m < os.toArray.size := of_decide_eq_true hB.1.1.1.2
  have hlen : m < os.length := by simpa using hlt
  have t1 : (os.take m).length = m := by rw [List.length_take]; omega
  have t2 : (os.drop m).length = os.toArray.size - m := by simp
  have start : HeadInv .any os.toArray m (Array.replicate os.toArray.size false) := by
    refine ⟨Array.size_replicate .., fun j oj hj hl => ?_, fun t _ ht => ?_⟩
    · rw [getD_replicate_false] at hl; cases hl
    · exact getD_in (by simpa using ht) (getD_replicate_false _ _)
  have each : ∀ j, j < (os.take m).length → (os.take m)[j]? = os.toArray[0 + j]? := fun j hj => by
    rw [t1] at hj
    simp [List.getElem?_take, hj]
  have hd := wpAnyL_lex (g := os.toArray.size - m) hB.1.1.1.1 hB.1.1.2 hB.1.2 hlt (os.take m) 0 _ a each (by rw [t1]; omega) start (by rw [t1]; exact hB.2) h
  have all := wpAny_of_head (Q' := OnlyNormal Q) (g := os.toArray.size - m) (fun listed' a' hL => by
    have tl := wpAny_of_seq (Q' := OnlyNormal Q) (os.drop m) m listed' a' _ (fun j => by simp [List.getElem?_drop]) (by rw [t2]; exact hL.1) hL.2
    rw [t2] at tl
    exact tl) _ _ _ hd
  rw [t1, Nat.add_sub_cancel' (Nat.le_of_lt hlt)] at all
  exact wpIn_region_any hm (any_round l n hdef _ _ _ _ all)
theorem still_eq {f : FuncId} {args : Array Value} {w : World} {v : Value} (h : Calls P f args w fun e w' => e = .returned v ∧ w = w') : Calls P f args w fun e w' => e = .returned v ∧ w' = w := h.mono fun _ _ ⟨a, b⟩ => ⟨a, b.symm⟩
end
end Go.Proofs.Ytjbapjgagiaefaa
