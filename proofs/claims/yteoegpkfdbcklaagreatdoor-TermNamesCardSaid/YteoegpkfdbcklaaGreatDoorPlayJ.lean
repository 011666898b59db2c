/- Play: the operations: numbers, strings and bytes, copies. -/
import Derived.Test.YteoegpkfdbcklaaGreatDoorPlayI
import Derived.Laws.BytesString
import Derived.Laws.Strings
namespace Go.Play
set_option linter.unusedVariables false
set_option linter.unusedSimpArgs false

-- numbers
theorem upTo_iff (z : Int) (m : Nat) (s : Bool) : upTo z m s = true ↔ (z ≤ m ∧ (0 ≤ z ∨ (s = true ∧ -(m + 1 : Int) ≤ z))) := by
  cases z with
  | ofNat n =>
    show Nat.ble n m = true ↔ _
    rw [Nat.ble_eq]
    show n ≤ m ↔ ((n : Int) ≤ m ∧ (0 ≤ (n : Int) ∨ _))
    omega
  | negSucc n =>
    have e : Int.negSucc n = -(n + 1 : Int) := by rfl
    show upToN s n m = true ↔ _
    cases s with
    | false =>
      show (false = true) ↔ _
      rw [e]; simp <;> omega
    | true =>
      show Nat.ble n m = true ↔ _
      rw [Nat.ble_eq, e]; simp <;> omega
theorem wrap_of_range {k : IntKind} {z : Int} (h1 : k.min ≤ z) (h2 : z ≤ k.max) : k.wrap z = z := by
  cases k <;> simp only [IntKind.min, IntKind.max, IntKind.wrap, IntKind.bits, IntKind.signed, Bool.true_and, Bool.false_and, if_true, if_false, Bool.false_eq_true] at h1 h2 ⊢ <;>
    first
    | (rw [Int.emod_eq_of_lt (by omega) (by omega)])
    | (split <;> rename_i h3 <;> simp only [decide_eq_true_eq, ge_iff_le, Nat.reduceSub, Int.reducePow] at * <;> omega)
theorem fits_range {k : IntKind} {z : Int} (h : fits k z = true) : k.min ≤ z ∧ z ≤ k.max := by
  cases k <;> (have h' := (upTo_iff z _ _).1 h; simp only [IntKind.min, IntKind.max, IntKind.bits, IntKind.signed, if_true, if_false, Bool.false_eq_true, false_and, or_false] at h' ⊢; omega)
theorem wrapF_eq (k : IntKind) (z : Int) : wrapF k z = k.wrap z := by
  unfold wrapF
  cases h : fits k z with
  | true => exact (wrap_of_range (fits_range h).1 (fits_range h).2).symm
  | false => rfl
theorem iEq_eq (a b : Int) : iEq a b = (a == b) := by
  rw [Bool.eq_iff_iff, beq_iff_eq]
  cases a with
  | ofNat m => cases b with
    | ofNat n => show Nat.beq m n = true ↔ _; rw [Nat.beq_eq]; simp <;> omega
    | negSucc n => show false = true ↔ _; simp
  | negSucc m => cases b with
    | ofNat n => show false = true ↔ _; simp
    | negSucc n => show Nat.beq m n = true ↔ _; rw [Nat.beq_eq]; simp
theorem iLe_eq (a b : Int) : iLe a b = decide (a ≤ b) := by
  rw [Bool.eq_iff_iff, decide_eq_true_iff]
  cases a with
  | ofNat m => cases b with
    | ofNat n => show Nat.ble m n = true ↔ _; rw [Nat.ble_eq]; simp
    | negSucc n => show false = true ↔ _; have e : Int.negSucc n = -(n + 1 : Int) := rfl; rw [e]; simp; omega
  | negSucc m => cases b with
    | ofNat n => show true = true ↔ _; have e : Int.negSucc m = -(m + 1 : Int) := rfl; rw [e]; simp; omega
    | negSucc n => show Nat.ble n m = true ↔ _; rw [Nat.ble_eq]; have e : Int.negSucc n = -(n + 1 : Int) := rfl; have e' : Int.negSucc m = -(m + 1 : Int) := rfl; rw [e, e']; omega
theorem kIdx_inj {k k' : IntKind} (h : Nat.beq (kIdx k) (kIdx k') = true) : k = k' := by cases k <;> cases k' <;> first | rfl | cases h
theorem bytesEq_eq : ∀ (a b : List UInt8), bytesEq a b = (a == b) := by
  intro a
  induction a with
  | nil => intro b; cases b <;> rfl
  | cons x a ih =>
    intro b
    cases b with
    | nil => rfl
    | cons y b =>
      show Bool.rec (motive := fun _ => (List UInt8 → Bool) → List UInt8 → Bool) (fun _ _ => false) (fun ih b => ih b) (Nat.beq (UInt8.toNat x) (UInt8.toNat y)) (bytesEq a) b = _
      cases hb : Nat.beq (UInt8.toNat x) (UInt8.toNat y) with
      | true =>
        have e : x = y := UInt8.toNat_inj.1 (Nat.eq_of_beq_eq_true hb)
        subst e
        show bytesEq a b = _
        rw [ih]; simp
      | false =>
        have hne : x ≠ y := fun e => by rw [e, Nat.beq_refl] at hb; cases hb
        simp [hne]
section
variable {P : Program} {G : Glob} {M : Nat → Prop} {ρ : Env} {h : H} {w : World}
theorem str_eq (a b : ByteArray) : (a == b) = bytesEq a.data.toList b.data.toList := by
  have e : (a == b) = (a.data == b.data) := rfl
  rw [bytesEq_eq, e, Bool.eq_iff_iff, beq_iff_eq, beq_iff_eq]
  exact ⟨fun h => by rw [h], fun h => Array.ext' h⟩
theorem fastBin_ok {op : BinOp} {xT : TypeId} {x y : Operand} {a b v : Value} (hv : fastBin a op b = some v) : (do eqGuard op xT x y a b; Go.binOp op xT a b : Sem Value).run P w = .ok v w := by
  cases a with
  | int k m =>
    cases b with
    | int k' n =>
      change kindBin (Nat.beq (kIdx k) (kIdx k')) op k m n = some v at hv
      cases hk : Nat.beq (kIdx k) (kIdx k') with
      | false => rw [hk] at hv; cases hv
      | true =>
        obtain rfl := kIdx_inj hk
        rw [hk] at hv
        change intBin op k m n = some v at hv
        have e : ∀ u : Value, some u = some v → u = v := fun u hu => by cases hu; rfl
        have hg : (eqGuard op xT x y (.int k m) (.int k n)).run P w = .ok () w := by
          unfold eqGuard; split <;> rfl
        cases op <;> first
          | (cases hv; done)
          | (have hv := e _ hv; subst hv
             simp only [Sem.run_bind, hg, Result.andThen_ok, Go.binOp, ne_eq, not_true_eq_false, if_false, Op.intArith, Op.intCmp, Sem.run_pure, wrapF_eq, iEq_eq, iLe_eq, notB_eq, bne, GT.gt, GE.ge] <;>
             first
             | rfl
             | (congr 2; rw [Bool.eq_iff_iff]; simp only [Bool.not_eq_true', decide_eq_false_iff_not, decide_eq_true_eq]; omega))
    | _ => cases hv
  | string s =>
    cases b with
    | string t =>
      change strBin op s t = some v at hv
      have e : ∀ u : Value, some u = some v → u = v := fun u hu => by cases hu; rfl
      have hg : (eqGuard op xT x y (.string s) (.string t)).run P w = .ok () w := by
        unfold eqGuard; split <;> rfl
      cases op <;> first
        | (cases hv; done)
        | (have hv := e _ hv; subst hv
           simp only [Sem.run_bind, hg, Result.andThen_ok, Go.binOp, Op.stringOp, Sem.run_pure, bytesEq_eq, ByteArray.toList_eq, notB_eq])
    | _ => cases hv
  | _ => cases hv

-- lengths
theorem isSlice_some {d : Option TypeDesc} (h : isSlice d = true) : ∃ e, d = some (.slice e) := by
  cases d with
  | none => cases h
  | some t => cases t <;> first | exact ⟨_, rfl⟩ | cases h
theorem isMap_some {d : Option TypeDesc} (h : isMap d = true) : ∃ k e, d = some (.map k e) := by
  cases d with
  | none => cases h
  | some t => cases t <;> first | exact ⟨_, _, rfl⟩ | cases h
theorem ER.length {l : List (SV × SV × Nat)} {m : List MapEntry} (h : ER ρ l m) : l.length = m.length := by
  induction h with
  | nil => rfl
  | cons _ _ _ ih => simp [ih]
theorem obj_map (s : Sim P G M ρ h w) {o : Pa} {b : Loc} {es : List (SV × SV × Nat)} {k : Nat} {own : Bool} (hb : ρ o = some b) (ho : hget h o = .mapo es k own) : ∃ xs : Array MapEntry, w.heap[b.block]? = some (.map xs k) ∧ ER ρ es xs.toList := by
  have hlive := s.live o b hb
  rw [ho] at hlive
  cases hk : w.heap[b.block]? with
  | none => rw [hk] at hlive; cases hlive
  | some ob => rw [hk] at hlive; cases hlive with | @mapo _ _ _ _ xs he => exact ⟨xs, rfl, he⟩
theorem run_getMap {r : Nat} {xs : Array MapEntry} {k : Nat} (hk : w.heap[r]? = some (.map xs k)) : (getObj r).run P w = .ok (.map xs k) w := by simp [getObj, Sem.run, hk]
theorem lenArr_ok (s : Sim P G M ρ h w) (ts : Array TypeId) (ty : TypeId) {y : Value} : ValOK P G M ρ h w ((Builtin.len_ ts ty #[y]).run P w) (lenArr P h ts) := by
  unfold lenArr
  cases hd : undT (argT ts) P with
  | none => exact .bad
  | some d =>
    obtain ⟨t, h0', hu⟩ := undT_some hd
    have h0 := argT_some h0'
    cases d with
    | array n e =>
      refine .quiet s (x := goInt n) ?_ (.lit _)
      simp only [Builtin.len_, h0, List.getElem?_toArray, List.getElem?_cons_zero, Sem.run_bind, run_und hu, Result.andThen_ok, Sem.run_pure]
    | pointer a =>
      simp only []
      cases hd2 : undO P a with
      | none => exact .bad
      | some d2 =>
        cases d2 with
        | array n e =>
          refine .quiet s (x := goInt n) ?_ (.lit _)
          simp only [Builtin.len_, h0, List.getElem?_toArray, List.getElem?_cons_zero, Sem.run_bind, run_und hu, Result.andThen_ok, run_und hd2, Sem.run_pure]
        | _ => exact .bad
    | _ => exact .bad
theorem len_ok (s : Sim P G M ρ h w) (ts : Array TypeId) (ty : TypeId) {x : SV} {y : Value} (hx : VR ρ x y) : ValOK P G M ρ h w ((Builtin.len_ ts ty #[y]).run P w) (lenOp x P h ts ty) := by
  have slc : ∀ (a : Option Addr) (n c : Nat), isSlice (undT (argT ts) P) = true → (Builtin.len_ ts ty #[.slice a n c]).run P w = .ok (goInt n) w := by
    intro a n c hs
    obtain ⟨e, he⟩ := isSlice_some hs
    obtain ⟨t, h0', hu⟩ := undT_some he
    have h0 := argT_some h0'
    simp only [Builtin.len_, h0, List.getElem?_toArray, List.getElem?_cons_zero, Sem.run_bind, run_und hu, Result.andThen_ok, Sem.run_pure]
  cases x with
  | slc o off n cap ex =>
    refine ifB_ok (Q := ValOK P G M ρ h w _) (e := .val (.lit (.int .i64 (.ofNat n))) h) .bad fun hs => ?_
    cases hx; exact .quiet s (slc _ _ _ hs) (.lit _)
  | eslc =>
    refine ifB_ok (Q := ValOK P G M ρ h w _) (e := .val (.lit (.int .i64 (.ofNat 0))) h) .bad fun hs => ?_
    cases hx; exact .quiet s (slc _ _ _ hs) (.lit _)
  | lit v =>
    cases hx
    cases y with
    | string str =>
      refine ifB_ok (Q := ValOK P G M ρ h w _) (e := .val (.lit (.int .i64 (.ofNat str.size))) h) .bad fun hs => ?_
      obtain ⟨t, h0', hu⟩ := undT_some (isStr_some hs)
      have h0 := argT_some h0'
      refine .quiet s (x := goInt str.size) ?_ (.lit _)
      simp only [Builtin.len_, h0, List.getElem?_toArray, List.getElem?_cons_zero, Sem.run_bind, run_und hu, Result.andThen_ok, Sem.run_pure]
    | _ => exact .still s _
  | mapv o =>
    cases hx with
    | @mapv _ b hb =>
      change ValOK P G M ρ h w _ (lenMap (hget h o) P h ts)
      cases ho : hget h o with
      | mapo es k own =>
        refine ifB_ok (Q := ValOK P G M ρ h w _) (e := .val (.lit (.int .i64 (.ofNat es.length))) h) .bad fun hs => ?_
        obtain ⟨_, _, he⟩ := isMap_some hs
        obtain ⟨t, h0', hu⟩ := undT_some he
        have h0 := argT_some h0'
        obtain ⟨xs, hk, her⟩ := obj_map s hb ho
        refine .quiet s (x := goInt xs.size) ?_ (by rw [her.length, Array.length_toList]; exact .lit _)
        simp only [Builtin.len_, h0, List.getElem?_toArray, List.getElem?_cons_zero, Sem.run_bind, run_und hu, Result.andThen_ok, run_getMap hk, Sem.run_pure]
      | _ => exact .bad
  | _ => exact lenArr_ok s ts ty

-- bytes
theorem bytesOf_rel {l : List SV} : ∀ {bs : List UInt8} {xs : List Value}, bytesOf l = some bs → VRL ρ l xs → ∃ ns : List Int, xs = ns.map (Value.int .u8) ∧ ns.map (fun n => UInt8.ofNat n.toNat) = bs ∧ ∀ n ∈ ns, 0 ≤ n := by
  induction l with
  | nil => intro bs xs hb hx; cases hb; cases hx; exact ⟨[], rfl, rfl, by simp⟩
  | cons v l ih =>
    intro bs xs hb hx
    cases hx with
    | @cons _ x _ xs hv ht =>
      change bytes1 (byteSV v) (bytesOf l) = some bs at hb
      cases hbv : byteSV v with
      | none => rw [hbv] at hb; cases hb
      | some u =>
        rw [hbv] at hb
        cases hbl : bytesOf l with
        | none => rw [hbl] at hb; cases hb
        | some us =>
          rw [hbl] at hb
          cases hb
          obtain ⟨ns, h1, h2, h3⟩ := ih hbl ht
          cases v with
          | lit y =>
            cases hv
            cases x with
            | int k z =>
              cases k with
              | u8 =>
                cases z with
                | ofNat n =>
                  cases hbv
                  exact ⟨(n : Int) :: ns, by rw [h1]; rfl, by rw [List.map_cons, h2]; rfl, fun m hm => by
                    cases hm with
                    | head => omega
                    | tail _ hm => exact h3 m hm⟩
                | negSucc n => cases hbv
              | _ => cases hbv
            | _ => cases hbv
          | _ => cases hbv
theorem fold_push : ∀ (ns : List Int) (s : ByteArray), (ns.foldl (fun r n => r.push (UInt8.ofNat n.toNat)) s) = ⟨(s.data.toList ++ ns.map fun n => UInt8.ofNat n.toNat).toArray⟩ := by
  intro ns
  induction ns with
  | nil => intro s; obtain ⟨⟨l⟩⟩ := s; simp
  | cons n ns ih =>
    intro s
    rw [List.foldl_cons, ih]
    obtain ⟨⟨l⟩⟩ := s
    simp [ByteArray.push]
theorem isByte_some {d : Option TypeDesc} (h : isByte d = true) : d = some (.int .u8) := by
  cases d with
  | none => cases h
  | some t => cases t <;> first | (cases h; done) | skip
              rename_i k; cases k <;> first | rfl | cases h
theorem bytesE_ok {l : Option (List SV)} {Q : Eff → Prop} (hbad : Q .bad) (hK : ∀ l' bs, l = some l' → bytesOf l' = some bs → Q (.val (.lit (.string ⟨bs.toArray⟩)) h)) : Q (bytesE l h) := by
  cases l with
  | none => exact hbad
  | some l' =>
    show Q (strE (bytesOf l') h)
    cases hb : bytesOf l' with
    | none => exact hbad
    | some bs => exact hK l' bs rfl hb
theorem convSlc_ok (s : Sim P G M ρ h w) (src dst : TypeId) {o : Pa} {b : Loc} (off n cap' : Nat) (hb : ρ o = some b) :
    ValOK P G M ρ h w ((Go.convert src dst (.slice (some ⟨b.block, b.off + off, none⟩) n cap')).run P w) (convSlc P h src dst o off n) := by
  unfold convSlc
  cases hu : undO P src with
  | none => exact .bad
  | some d =>
    cases d with
    | slice el =>
      cases hv : undO P dst with
      | none => exact .bad
      | some d2 =>
        cases d2 with
        | string =>
          refine ifB_ok (Q := ValOK P G M ρ h w _) .bad fun hk => ?_
          have hel := isByte_some hk
          refine bytesE_ok (Q := ValOK P G M ρ h w _) .bad fun l bs hl hbs => ?_
          obtain ⟨xs, h1, h2, h3⟩ := obj_cells s hb hl
          obtain ⟨ns, rfl, h5, _⟩ := bytesOf_rel hbs h2
          have hrun := append_run_loads (P := P) (a := ⟨b.block, b.off + off, none⟩) h1 (fun j v hj => by rw [add_at]; exact h3 j v hj)
          refine .quiet s (x := .string ⟨bs.toArray⟩) ?_ (.lit _)
          rw [run_convert_bytes_string w src dst el _ _ _ (undO_some hu) (undO_some hel) (undO_some hv), run_bytesToString w _ _ _ ns hrun, fold_push, h5]
          rfl
        | _ => exact .bad
    | _ => exact .bad
theorem freeze_at {b n : Nat} {c : Array Value} {e : TypeId} (hk : w.heap[b]? = some (.cells c e (0, 0))) (off : Nat) (hn : n ≠ 0) : Turn w (w.freeze ⟨b, off, none⟩ n) b (.cells c e (off, off + n)) := by
  have hlt := lt_of_at hk
  unfold World.freeze
  rw [if_neg hn]
  refine ⟨rfl, rfl, rfl, by simp, fun k hk' => ?_, ?_⟩
  · show (w.heap.modify b _)[k]? = _
    rw [Array.getElem?_modify, if_neg (Ne.symm hk')]
  · show (w.heap.modify b _)[b]? = _
    rw [Array.getElem?_modify, if_pos rfl, hk]; rfl
theorem isOne_some {n : Option Nat} (h : isOne n = true) : n = some 1 := by
  unfold isOne at h
  split at h
  · rfl
  · cases h
theorem convStr_ok (s : Sim P G M ρ h w) (src dst : TypeId) (str : ByteArray) : ValOK P G M ρ h w ((Go.convert src dst (.string str)).run P w) (convStr P h src dst str) := by
  unfold convStr
  split
  · rename_i el hu hv
    split
    · rename_i hel
      refine ifB_ok (Q := ValOK P G M ρ h w _) .bad fun hone => ?_
      have hs1 := isOne_some hone
      have hes : P.cellsOf el = 1 := sizeO_cellsOf hs1
      rw [newE_eq]
      let q : Question := .appendCap str.size 0 el
      let cap := q.cut (w.tape w.drawn q)
      have hcap : str.size ≤ cap := by show str.size ≤ str.size + _; omega
      let xs : Array Value := str.data.map (fun b => Value.int .u8 b.toNat) ++ Array.replicate (cap - str.size) (.int .u8 0)
      have hxz : xs.size = cap := by
        have : str.data.size = str.size := rfl
        simp only [xs, Array.size_append, Array.size_map, Array.size_replicate, this]; omega
      let w1 : World := { w with drawn := w.drawn + 1 }
      let w2 : World := { w1 with heap := w1.heap.push (.cells xs el) }
      have hk2 : w2.heap[w.heap.size]? = some (.cells xs el (0, 0)) := by simp [w2, w1]
      have hfr := freeze_at hk2 xs.size (n := 1) (by omega)
      let w3 := w2.freeze ⟨w.heap.size, xs.size, none⟩ 1
      have s1 : Sim P G M ρ h w1 := s.drew rfl
      have g1 : Grow M ρ h w ρ h w1 := .drew rfl rfl rfl rfl
      let b : Loc := ⟨w.heap.size, 0, cap, 1⟩
      have hle : Env.le ρ (ρ.put (nOf h) b) := Env.put_le b s.none_at
      have hw2z : w2.heap.size = w.heap.size + 1 := by simp [w2, w1]
      obtain ⟨s3, g3⟩ := s1.push (w' := w3) (b := b) (ob := .cells (bytesSV str) el false) (hfr.os) (hfr.tape) (hfr.output) (by rw [show w3.heap.size = w2.heap.size from hfr.size, hw2z]; show w.heap.size ≤ _; omega) (by show w.heap.size < w3.heap.size; rw [show w3.heap.size = w2.heap.size from hfr.size, hw2z]; omega)
        (fun k hk hl => by
          have hl : k < w.heap.size := hl
          rw [show w3.heap[k]? = w2.heap[k]? from hfr.other k hk]
          show (w.heap.push _)[k]? = _
          rw [Array.getElem?_push, if_neg (by omega)])
        (s.fresh _ (Nat.le_refl _)) (fun o' b' hb' _ e' => by have := s.size o' b' hb'; rw [e'] at this; exact absurd this (Nat.lt_irrefl _))
        (by
          rw [show w3.heap[b.block]? = _ from hfr.here]
          have hrel := bytes_rel (ρ := ρ.put (nOf h) b) str
          refine .cells (show P.cellsOf el = 1 from hes) (Nat.zero_mod _) (fun e => by cases e) (show 0 + cap ≤ xs.size by omega) (show (bytesSV str).length ≤ cap by rw [hrel.length, List.length_map, Array.length_toList]; exact hcap) fun i v hi => ?_
          obtain ⟨x, hx, hv⟩ := hrel.get i v hi
          have hlt : i < str.data.size := by
            rcases Nat.lt_or_ge i str.data.size with h1 | h1
            · exact h1
            · rw [List.getElem?_eq_none (by simpa using h1)] at hx; cases hx
          refine ⟨x, ?_, hv⟩
          show xs[0 + i]? = some x
          rw [Nat.zero_add]
          show (str.data.map _ ++ _)[i]? = _
          rw [Array.getElem?_append_left (by simpa using hlt)]
          simpa using hx)
      refine ⟨_, w3, .slice (some ⟨w.heap.size, 0, none⟩) str.size cap, ?_, ?_, s3, g1.trans g3⟩
      · have hf : (Question.appendCap str.size 0 el).forced = false := rfl
        have hsh : w2.shape? w.heap.size = some (el, xs.size) := shape_at hk2
        simp only [Go.convert, Sem.run_bind, run_und hu, run_und hv, Result.andThen_ok, run_und hel, Conv.stringToBytes, run_choose, hf, Bool.false_eq_true, if_false, newRow, run_newObj, Sem.run_pure, markStringish, run_shape]
        show Result.andThen (Sem.run P (match w2.shape? w.heap.size with
          | some (_, n) => freeze { block := w.heap.size, off := n } 1
          | x => pure ()) w2) _ = _
        rw [hsh]
        rfl
      · exact VR.slc (b := b) 0 str.size str.size false cap (Env.put_self _ _ _) hcap (fun e => by cases e) fun _ => by show 0 + cap * 1 ≤ cap; omega
    · exact .bad
  · exact .still s _
end
end Go.Play
