/- Play: the operations: small ones, parts and places. -/
import Derived.Test.YteoegpkfdbcklaaGreatDoorPlayD
namespace Go.Play
set_option linter.unusedVariables false
set_option linter.unusedSimpArgs false
section
variable {P : Program} {G : Glob} {M : Nat → Prop} {ρ : Env} {h : H} {w : World}

theorem EffOK.quiet (s : Sim P G M ρ h w) {v : SV} {x : Value} {r : Result Next} (hr : r = .ok (.value x) w) (hv : VR ρ v x) : EffOK P G M ρ h w r (.val v h) :=
  ⟨ρ, w, s, .refl, .inl ⟨x, hr, hv⟩⟩
theorem EffOK.bad {r : Result Next} : EffOK P G M ρ h w r .bad := trivial
theorem boolV_ok {c : SV} {x : Value} (hc : VR ρ c x) {K : Bool → Eff} {Q : Eff → Prop} (hbad : Q .bad) (hK : ∀ b, x = .bool b → Q (K b)) : Q (boolV c K) := by
  cases c with
  | lit v =>
    cases hc
    cases x with
    | bool b => exact hK b rfl
    | _ => exact hbad
  | _ => exact hbad
theorem nilCheck_ok (s : Sim P G M ρ h w) {x : SV} {y : Value} (hx : VR ρ x y) {o : Oper} {ev : Operand → Value} {a : Operand} (ho : o.op = .nilCheck a) (hy : ev a = y) :
    EffOK P G M ρ h w ((execOp ev o).run P w) (nilCheckV x P h) := by
  cases x with
  | ptr o off => cases hx with | ptr _ hb => exact .quiet s (by simp only [execOp, ho, hy, Sem.run_pure]) (.ptr off hb)
  | fn f a b => cases hx with | fn ha hb => exact .quiet s (by simp only [execOp, ho, hy, Sem.run_pure]) (.fn ha hb)
  | yld l => cases hx with | yld hb => exact .quiet s (by simp only [execOp, ho, hy, Sem.run_pure]) (.yld hb)
  | lit v =>
    cases hx
    cases y with
    | pointer p =>
      cases p with
      | some p => exact .quiet s (by simp only [execOp, ho, hy, Sem.run_pure]) (.lit _)
      | none =>
        refine ⟨_, ?_, .lit _⟩
        simp only [execOp, ho, hy]
        rfl
    | _ => exact .bad
  | _ => exact .bad
theorem un_ok (s : Sim P G M ρ h w) (op : UnOp) {x : SV} {y : Value} (hx : VR ρ x y) : ValOK P G M ρ h w ((Op.unary op y).run P w) (un1 x P h op) := by
  cases x with
  | lit v => cases hx; exact .still s _
  | _ => exact .bad
theorem concrete_some {d : Option TypeDesc} (h : concrete d = true) : ∃ t, d = some t ∧ ∀ ms, t ≠ .interface ms := by
  cases d with
  | none => cases h
  | some t => exact ⟨t, rfl, fun ms e => by rw [e] at h; cases h⟩
theorem ifB_ok {b : Bool} {e : Eff} {Q : Eff → Prop} (hbad : Q .bad) (hK : b = true → Q e) : Q (ifB b e) := by
  cases b with
  | false => exact hbad
  | true => exact hK rfl
theorem ifaceV_rel {x : SV} {y : Value} (hx : VR ρ x y) (t : TypeId) : VR ρ (ifaceV x x t) (.iface t y) := by
  cases hx with
  | lit => exact .lit _
  | ptr off h => exact .ifc t (.ptr off h)
  | slc off len cap ex cap' h hc he hr => exact .ifc t (.slc off len cap ex cap' h hc he hr)
  | eslc a c => exact .ifc t (.eslc a c)
  | mapv h => exact .ifc t (.mapv h)
  | fn ha hb => exact .ifc t (.fn ha hb)
  | yld h => exact .ifc t (.yld h)
  | ifc t' h => exact .ifc t (.ifc t' h)
  | agg h => exact .ifc t (.agg h)
  | tup h => exact .ifc t (.tup h)
  | any h => exact .ifc t (.any h)
theorem makeInterface_ok (s : Sim P G M ρ h w) (ty : TypeId) {x : SV} {y : Value} (hx : VR ρ x y) :
    ValOK P G M ρ h w ((Instr.makeInterface ty y).run P w) (ifB (concrete (undO P ty)) (.val (ifaceV x x ty) h)) := by
  refine ifB_ok (Q := ValOK P G M ρ h w _) .bad fun hc => ?_
  obtain ⟨t, ht, hne⟩ := concrete_some hc
  refine .quiet s ?_ (ifaceV_rel hx ty)
  simp only [Instr.makeInterface, Sem.run_bind, run_und ht, Result.andThen_ok]
  cases t <;> first | rfl | exact absurd rfl (hne _)
theorem makeFunc_ok (s : Sim P G M ρ h w) (fn : Fn) {a b : List SV} {a' b' : Array Value} (ha : VRL ρ a a'.toList) (hb : VRL ρ b b'.toList) :
    ValOK P G M ρ h w ((Instr.makeFunc fn a' b').run P w) (makeFn fn h a b) := by
  cases fn with
  | func f => exact .quiet s rfl (.fn ha hb)
  | _ => exact .bad
theorem makeMap_ok (s : Sim P G M ρ h w) (t : TypeId) (r : Option Operand) (ev : Operand → Value) : ValOK P G M ρ h w ((Instr.makeMap t (r.map ev)).run P w) (makeMap1 r h) := by
  cases r with
  | some x => exact .bad
  | none =>
    change ValOK P G M ρ h w _ (newE h (.mapo [] 0 true) fun i h => .val (.mapv i) h)
    rw [newE_eq]
    let b : Loc := ⟨w.heap.size, 0, 0, 0⟩
    obtain ⟨hs, hg⟩ := s.alloc (b := b) (ob := .mapo [] 0 true) (obj := .map #[] 0) rfl (.mapo .nil)
    exact ⟨_, _, _, rfl, .mapv (b := b) (Env.put_self _ _ _), hs, hg⟩
theorem asN_some {x : SV} {y : Value} {n : Nat} (hx : VR ρ x y) (h : asN x = some n) : ∃ k, y = .int k n := by
  cases x with
  | lit v =>
    cases hx
    cases y with
    | int k z =>
      cases z with
      | ofNat m => cases h; exact ⟨k, rfl⟩
      | negSucc m => cases h
    | _ => cases h
  | _ => cases h
theorem flat_rep (xs : List Value) (hx : xs ≠ [] ) (c : Nat) : ∀ i, i < c * xs.length → (List.replicate c xs).flatten[i]? = xs[i % xs.length]? := by
  have hpos : 0 < xs.length := List.length_pos_iff.2 hx
  induction c with
  | zero => intro i hi; simp at hi
  | succ c ih =>
    intro i hi
    rw [List.replicate_succ, List.flatten_cons]
    by_cases h1 : i < xs.length
    · rw [List.getElem?_append_left h1, Nat.mod_eq_of_lt h1]
    · rw [List.getElem?_append_right (by omega), ih _ (by rw [Nat.add_mul, Nat.one_mul] at hi; omega)]
      rw [show i % xs.length = (i - xs.length) % xs.length from Nat.mod_eq_sub_mod (by omega)]
/-- Zero cells, as the model lays them. -/
theorem zeros_eq (z : Array Value) (c n : Nat) (hn : n = c * z.size) : ((Array.range n).map (z[· % z.size]!)).toList = (List.replicate c z.toList).flatten := by
  apply List.ext_getElem?
  intro i
  by_cases hi : i < n
  · have hz : z.toList ≠ [] := fun e => by
      have : z.size = 0 := by rw [← Array.length_toList, e]; rfl
      rw [this] at hn; simp at hn; omega
    have hp : 0 < z.size := by rw [← Array.length_toList]; exact List.length_pos_iff.2 hz
    rw [flat_rep z.toList hz c i (by rw [Array.length_toList, ← hn]; exact hi)]
    have hm : i % z.size < z.size := Nat.mod_lt _ hp
    rw [Array.length_toList]
    simp [hi, hm]
  · rw [List.getElem?_eq_none (by simp; omega), List.getElem?_eq_none]
    rw [List.length_flatten, List.map_replicate, List.sum_replicate_nat, Array.length_toList]; omega
theorem wrap_small {k : IntKind} (n : Nat) (hn : n ≤ 1000000000) : IntKind.i64.wrap (n : Int) = n := by
  unfold IntKind.wrap
  have : (IntKind.i64.bits) = 64 := rfl
  have e : IntKind.i64.signed = true := rfl
  simp only [this, e, Bool.true_and]
  have h1 : ((n : Int) % 2 ^ 64) = n := Int.emod_eq_of_lt (by omega) (by omega)
  rw [h1]
  rw [if_neg (by simp only [ge_iff_le, decide_eq_true_eq]; omega)]
theorem makeSlice_ok (s : Sim P G M ρ h w) (ty : TypeId) {l c : SV} {l' c' : Value} (hl : VR ρ l l') (hc : VR ρ c c') :
    ValOK P G M ρ h w ((Instr.makeSlice ty l' c').run P w) (makeSlice1 P h ty l c) := by
  unfold makeSlice1
  cases hu : undO P ty with
  | none => exact .bad
  | some d =>
    cases d with
    | slice el =>
      change ValOK P G M ρ h w _ (makeSlice2 (infoO P el) (asN l) (asN c) h el)
      cases hi : infoO P el with
      | none => exact .bad
      | some i =>
        cases hL : asN l with
        | none => exact .bad
        | some L =>
          cases hC : asN c with
          | none => exact .bad
          | some C =>
            unfold makeSlice2
            simp only []
            cases hz : i.zero with
            | none => exact .bad
            | some z =>
              simp only []
              refine ifB_ok (Q := ValOK P G M ρ h w _) .bad fun hk => ?_
              simp only [Bool.and_eq_true, Nat.beq_eq_true_eq, Nat.ble_eq] at hk
              obtain ⟨⟨⟨h1, h2⟩, h3⟩, h4⟩ := hk
              obtain ⟨k, rfl⟩ := asN_some hl hL
              obtain ⟨k', rfl⟩ := asN_some hc hC
              have hinfo := infoO_some hi
              have hrel : VRL ρ (litCells z) z.cells.toList := litCells_rel z
              have hzs : z.cells.size = i.size := by rw [← Array.length_toList, ← hrel.length, ← lenS_eq]; exact Nat.eq_of_beq_eq_true h4
              rw [newE_eq, repS_eq]
              have hs1 : sizeO P el = some i.size := by unfold sizeO; rw [hi]; rfl
              have hz1 : zeroO P el = some z := by unfold zeroO; rw [hi]; exact hz
              have hrr := hrel.flatten_replicate C
              let xs : Array Value := (Array.range (C * i.size)).map ((if C * i.size = 0 then #[] else z.cells)[· % (if C * i.size = 0 then #[] else z.cells).size]!)
              have hxl : xs.toList = (List.replicate C z.cells.toList).flatten := by
                show ((Array.range (C * i.size)).map _).toList = _
                by_cases h0 : C * i.size = 0
                · have e0 : ∀ f : Nat → Value, ((Array.range 0).map f).toList = [] := fun f => by simp
                  rw [if_pos h0, h0, e0]
                  rcases Nat.mul_eq_zero.1 h0 with h5 | h5
                  · rw [h5]; rfl
                  · have : z.cells.toList = [] := List.eq_nil_of_length_eq_zero (by rw [Array.length_toList, hzs, h5])
                    rw [this]; simp
                · rw [if_neg h0]; exact zeros_eq z.cells C _ (by rw [hzs])
              refine .alloc (f := fun k => .slice (some ⟨k, 0, none⟩) L C) (xs := xs) s ?_ ?_ ?_ ?_
              · simp only [Instr.makeSlice, Sem.run_bind, run_und hu, Result.andThen_ok, asInt, asIntOf, Sem.run_pure, run_info hinfo, wrap_small (k := .i64) C (by omega), wrap_small (k := .i64) L (by omega)]
                have hb : (i.bytes : Int) * (C : Int) ≤ 2 ^ 48 := by
                  have : i.bytes * C ≤ 100000 * 100000 := Nat.mul_le_mul h3 h2
                  have : ((i.bytes * C : Nat) : Int) ≤ 10000000000 := by omega
                  rw [Int.natCast_mul] at this; omega
                have hcond : ((decide ((C : Int) < 0) || decide ((i.bytes : Int) * (C : Int) > 2 ^ 48)) || decide ((L : Int) < 0) || decide ((L : Int) > (C : Int))) = false := by
                  simp only [Bool.or_eq_false_iff, decide_eq_false_iff_not]
                  omega
                rw [hcond]
                simp only [Bool.false_eq_true, if_false, Sem.run_bind, run_askRoom, Result.andThen_ok, run_size hs1, Sem.run_pure, Int.toNat_natCast]
                by_cases h0 : C * i.size = 0
                · simp only [xs, h0, if_true, Sem.run_bind, Sem.run_pure, Result.andThen_ok, newRow, run_newObj]
                · simp only [xs, h0, if_false, Sem.run_bind, run_zero hz1, Sem.run_pure, Result.andThen_ok, newRow, run_newObj]
              · rw [hrr.length, ← hxl, Array.length_toList]; exact Nat.le_refl _
              · intro j v hj
                obtain ⟨x, hx, hv⟩ := hrr.get j v hj
                exact ⟨x, by rw [← Array.getElem?_toList, hxl]; exact hx, hv⟩
              · intro ρ' _ hn
                have := VR.slc (ρ := ρ') 0 L C true C hn (Nat.le_refl _) (fun _ => rfl) (fun e => by cases e)
                simpa using this
    | _ => exact .bad
end
end Go.Play
