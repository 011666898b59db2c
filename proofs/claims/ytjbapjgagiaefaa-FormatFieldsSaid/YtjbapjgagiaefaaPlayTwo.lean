/- Play, PlayTwo. -/
import Derived.Test.YtjbapjgagiaefaaPlayOne
import Derived.Laws.BytesString
import Derived.Laws.Strings
import Derived.KernelRfl
import Derived.Laws.StructEq
/- Play: the operations: numbers, strings and bytes, copies. -/
namespace Go.Play
set_option linter.unusedVariables false
set_option linter.unusedSimpArgs false

-- numbers
theorem upTo_iff (z : Int) (m : Nat) (s : Bool) : upTo z m s = true ↔ (z ≤ m ∧ (0 ≤ z ∨ (s = true ∧ -(m + 1 : Int) ≤ z))) := by
  cases z with
  | ofNat n =>
    show Nat.ble n m = true ↔ _
    rw [Nat.ble_eq]
    show n ≤ m ↔ ((n : Int) ≤ m ∧ (0 ≤ (n : Int) ∨ _))
    omega
  | negSucc n =>
    have e : Int.negSucc n = -(n + 1 : Int) := by rfl
    show upToN s n m = true ↔ _
    cases s with
    | false =>
      show (false = true) ↔ _
      rw [e]; simp <;> omega
    | true =>
      show Nat.ble n m = true ↔ _
      rw [Nat.ble_eq, e]; simp <;> omega
theorem wrap_of_range {k : IntKind} {z : Int} (h1 : k.min ≤ z) (h2 : z ≤ k.max) : k.wrap z = z := by
  cases k <;> simp only [IntKind.min, IntKind.max, IntKind.wrap, IntKind.bits, IntKind.signed, Bool.true_and, Bool.false_and, if_true, if_false, Bool.false_eq_true] at h1 h2 ⊢ <;>
    first
    | (rw [Int.emod_eq_of_lt (by omega) (by omega)])
    | (split <;> rename_i h3 <;> simp only [decide_eq_true_eq, ge_iff_le, Nat.reduceSub, Int.reducePow] at * <;> omega)
theorem fits_range {k : IntKind} {z : Int} (h : fits k z = true) : k.min ≤ z ∧ z ≤ k.max := by
  cases k <;> (have h' := (upTo_iff z _ _).1 h; simp only [IntKind.min, IntKind.max, IntKind.bits, IntKind.signed, if_true, if_false, Bool.false_eq_true, false_and, or_false] at h' ⊢; omega)
theorem wrapF_eq (k : IntKind) (z : Int) : wrapF k z = k.wrap z := by
  unfold wrapF
  cases h : fits k z with
  | true => exact (wrap_of_range (fits_range h).1 (fits_range h).2).symm
  | false => rfl
theorem iEq_eq (a b : Int) : iEq a b = (a == b) := by
  rw [Bool.eq_iff_iff, beq_iff_eq]
  cases a with
  | ofNat m => cases b with
    | ofNat n => show Nat.beq m n = true ↔ _; rw [Nat.beq_eq]; simp <;> omega
    | negSucc n => show false = true ↔ _; simp
  | negSucc m => cases b with
    | ofNat n => show false = true ↔ _; simp
    | negSucc n => show Nat.beq m n = true ↔ _; rw [Nat.beq_eq]; simp
theorem iLe_eq (a b : Int) : iLe a b = decide (a ≤ b) := by
  rw [Bool.eq_iff_iff, decide_eq_true_iff]
  cases a with
  | ofNat m => cases b with
    | ofNat n => show Nat.ble m n = true ↔ _; rw [Nat.ble_eq]; simp
    | negSucc n => show false = true ↔ _; have e : Int.negSucc n = -(n + 1 : Int) := rfl; rw [e]; simp; omega
  | negSucc m => cases b with
    | ofNat n => show true = true ↔ _; have e : Int.negSucc m = -(m + 1 : Int) := rfl; rw [e]; simp; omega
    | negSucc n => show Nat.ble n m = true ↔ _; rw [Nat.ble_eq]; have e : Int.negSucc n = -(n + 1 : Int) := rfl; have e' : Int.negSucc m = -(m + 1 : Int) := rfl; rw [e, e']; omega
theorem kIdx_inj {k k' : IntKind} (h : Nat.beq (kIdx k) (kIdx k') = true) : k = k' := by cases k <;> cases k' <;> first | rfl | cases h
theorem bytesEq_eq : ∀ (a b : List UInt8), bytesEq a b = (a == b) := by
  intro a
  induction a with
  | nil => intro b; cases b <;> rfl
  | cons x a ih =>
    intro b
    cases b with
    | nil => rfl
    | cons y b =>
      show Bool.rec (motive := fun _ => (List UInt8 → Bool) → List UInt8 → Bool) (fun _ _ => false) (fun ih b => ih b) (Nat.beq (UInt8.toNat x) (UInt8.toNat y)) (bytesEq a) b = _
      cases hb : Nat.beq (UInt8.toNat x) (UInt8.toNat y) with
      | true =>
        have e : x = y := UInt8.toNat_inj.1 (Nat.eq_of_beq_eq_true hb)
        subst e
        show bytesEq a b = _
        rw [ih]; simp
      | false =>
        have hne : x ≠ y := fun e => by rw [e, Nat.beq_refl] at hb; cases hb
        simp [hne]
section
variable {P : Program} {G : Glob} {M : Nat → Prop} {ρ : Env} {h : H} {w : World}
theorem str_eq (a b : ByteArray) : (a == b) = bytesEq a.data.toList b.data.toList := by
  have e : (a == b) = (a.data == b.data) := rfl
  rw [bytesEq_eq, e, Bool.eq_iff_iff, beq_iff_eq, beq_iff_eq]
  exact ⟨fun h => by rw [h], fun h => Array.ext' h⟩
theorem fastBin_ok {op : BinOp} {xT : TypeId} {x y : Operand} {a b v : Value} (hv : fastBin a op b = some v) : (do eqGuard op xT x y a b; Go.binOp op xT a b : Sem Value).run P w = .ok v w := by
  cases a with
  | int k m =>
    cases b with
    | int k' n =>
      change kindBin (Nat.beq (kIdx k) (kIdx k')) op k m n = some v at hv
      cases hk : Nat.beq (kIdx k) (kIdx k') with
      | false => rw [hk] at hv; cases hv
      | true =>
        obtain rfl := kIdx_inj hk
        rw [hk] at hv
        change intBin op k m n = some v at hv
        have e : ∀ u : Value, some u = some v → u = v := fun u hu => by cases hu; rfl
        have hg : (eqGuard op xT x y (.int k m) (.int k n)).run P w = .ok () w := by
          unfold eqGuard; split <;> rfl
        cases op <;> first
          | (cases hv; done)
          | (have hv := e _ hv; subst hv
             simp only [Sem.run_bind, hg, Result.andThen_ok, Go.binOp, ne_eq, not_true_eq_false, if_false, Op.intArith, Op.intCmp, Sem.run_pure, wrapF_eq, iEq_eq, iLe_eq, notB_eq, bne, GT.gt, GE.ge] <;>
             first
             | rfl
             | (congr 2; rw [Bool.eq_iff_iff]; simp only [Bool.not_eq_true', decide_eq_false_iff_not, decide_eq_true_eq]; omega))
    | _ => cases hv
  | string s =>
    cases b with
    | string t =>
      change strBin op s t = some v at hv
      have e : ∀ u : Value, some u = some v → u = v := fun u hu => by cases hu; rfl
      have hg : (eqGuard op xT x y (.string s) (.string t)).run P w = .ok () w := by
        unfold eqGuard; split <;> rfl
      cases op <;> first
        | (cases hv; done)
        | (have hv := e _ hv; subst hv
           simp only [Sem.run_bind, hg, Result.andThen_ok, Go.binOp, Op.stringOp, Sem.run_pure, bytesEq_eq, ByteArray.toList_eq, notB_eq])
    | _ => cases hv
  | _ => cases hv

-- lengths
theorem isSlice_some {d : Option TypeDesc} (h : isSlice d = true) : ∃ e, d = some (.slice e) := by
  cases d with
  | none => cases h
  | some t => cases t <;> first | exact ⟨_, rfl⟩ | cases h
theorem isMap_some {d : Option TypeDesc} (h : isMap d = true) : ∃ k e, d = some (.map k e) := by
  cases d with
  | none => cases h
  | some t => cases t <;> first | exact ⟨_, _, rfl⟩ | cases h
theorem ER.length {l : List (SV × SV × Nat)} {m : List MapEntry} (h : ER ρ l m) : l.length = m.length := by
  induction h with
  | nil => rfl
  | cons _ _ _ ih => simp [ih]
theorem obj_map (s : Sim P G M ρ h w) {o : Pa} {b : Loc} {es : List (SV × SV × Nat)} {k : Nat} {own : Bool} (hb : ρ o = some b) (ho : hget h o = .mapo es k own) : ∃ xs : Array MapEntry, w.heap[b.block]? = some (.map xs k) ∧ ER ρ es xs.toList := by
  have hlive := s.live o b hb
  rw [ho] at hlive
  cases hk : w.heap[b.block]? with
  | none => rw [hk] at hlive; cases hlive
  | some ob => rw [hk] at hlive; cases hlive with | @mapo _ _ _ _ xs he => exact ⟨xs, rfl, he⟩
theorem run_getMap {r : Nat} {xs : Array MapEntry} {k : Nat} (hk : w.heap[r]? = some (.map xs k)) : (getObj r).run P w = .ok (.map xs k) w := by simp [getObj, Sem.run, hk]
theorem lenArr_ok (s : Sim P G M ρ h w) (ts : Array TypeId) (ty : TypeId) {y : Value} : ValOK P G M ρ h w ((Builtin.len_ ts ty #[y]).run P w) (lenArr P h ts) := by
  unfold lenArr
  cases hd : undT (argT ts) P with
  | none => exact .bad
  | some d =>
    obtain ⟨t, h0', hu⟩ := undT_some hd
    have h0 := argT_some h0'
    cases d with
    | array n e =>
      refine .quiet s (x := goInt n) ?_ (.lit _)
      simp only [Builtin.len_, h0, List.getElem?_toArray, List.getElem?_cons_zero, Sem.run_bind, run_und hu, Result.andThen_ok, Sem.run_pure]
    | pointer a =>
      simp only []
      cases hd2 : undO P a with
      | none => exact .bad
      | some d2 =>
        cases d2 with
        | array n e =>
          refine .quiet s (x := goInt n) ?_ (.lit _)
          simp only [Builtin.len_, h0, List.getElem?_toArray, List.getElem?_cons_zero, Sem.run_bind, run_und hu, Result.andThen_ok, run_und hd2, Sem.run_pure]
        | _ => exact .bad
    | _ => exact .bad
theorem len_ok (s : Sim P G M ρ h w) (ts : Array TypeId) (ty : TypeId) {x : SV} {y : Value} (hx : VR ρ x y) : ValOK P G M ρ h w ((Builtin.len_ ts ty #[y]).run P w) (lenOp x P h ts ty) := by
  have slc : ∀ (a : Option Addr) (n c : Nat), isSlice (undT (argT ts) P) = true → (Builtin.len_ ts ty #[.slice a n c]).run P w = .ok (goInt n) w := by
    intro a n c hs
    obtain ⟨e, he⟩ := isSlice_some hs
    obtain ⟨t, h0', hu⟩ := undT_some he
    have h0 := argT_some h0'
    simp only [Builtin.len_, h0, List.getElem?_toArray, List.getElem?_cons_zero, Sem.run_bind, run_und hu, Result.andThen_ok, Sem.run_pure]
  cases x with
  | slc o off n cap ex =>
    refine ifB_ok (Q := ValOK P G M ρ h w _) (e := .val (.lit (.int .i64 (.ofNat n))) h) .bad fun hs => ?_
    cases hx; exact .quiet s (slc _ _ _ hs) (.lit _)
  | eslc =>
    refine ifB_ok (Q := ValOK P G M ρ h w _) (e := .val (.lit (.int .i64 (.ofNat 0))) h) .bad fun hs => ?_
    cases hx; exact .quiet s (slc _ _ _ hs) (.lit _)
  | lit v =>
    cases hx
    cases y with
    | string str =>
      refine ifB_ok (Q := ValOK P G M ρ h w _) (e := .val (.lit (.int .i64 (.ofNat str.size))) h) .bad fun hs => ?_
      obtain ⟨t, h0', hu⟩ := undT_some (isStr_some hs)
      have h0 := argT_some h0'
      refine .quiet s (x := goInt str.size) ?_ (.lit _)
      simp only [Builtin.len_, h0, List.getElem?_toArray, List.getElem?_cons_zero, Sem.run_bind, run_und hu, Result.andThen_ok, Sem.run_pure]
    | _ => exact .still s _
  | mapv o =>
    cases hx with
    | @mapv _ b hb =>
      change ValOK P G M ρ h w _ (lenMap (hget h o) P h ts)
      cases ho : hget h o with
      | mapo es k own =>
        refine ifB_ok (Q := ValOK P G M ρ h w _) (e := .val (.lit (.int .i64 (.ofNat es.length))) h) .bad fun hs => ?_
        obtain ⟨_, _, he⟩ := isMap_some hs
        obtain ⟨t, h0', hu⟩ := undT_some he
        have h0 := argT_some h0'
        obtain ⟨xs, hk, her⟩ := obj_map s hb ho
        refine .quiet s (x := goInt xs.size) ?_ (by rw [her.length, Array.length_toList]; exact .lit _)
        simp only [Builtin.len_, h0, List.getElem?_toArray, List.getElem?_cons_zero, Sem.run_bind, run_und hu, Result.andThen_ok, run_getMap hk, Sem.run_pure]
      | _ => exact .bad
  | _ => exact lenArr_ok s ts ty

-- bytes
theorem bytesOf_rel {l : List SV} : ∀ {bs : List UInt8} {xs : List Value}, bytesOf l = some bs → VRL ρ l xs → ∃ ns : List Int, xs = ns.map (Value.int .u8) ∧ ns.map (fun n => UInt8.ofNat n.toNat) = bs ∧ ∀ n ∈ ns, 0 ≤ n := by
  induction l with
  | nil => intro bs xs hb hx; cases hb; cases hx; exact ⟨[], rfl, rfl, by simp⟩
  | cons v l ih =>
    intro bs xs hb hx
    cases hx with
    | @cons _ x _ xs hv ht =>
      change bytes1 (byteSV v) (bytesOf l) = some bs at hb
      cases hbv : byteSV v with
      | none => rw [hbv] at hb; cases hb
      | some u =>
        rw [hbv] at hb
        cases hbl : bytesOf l with
        | none => rw [hbl] at hb; cases hb
        | some us =>
          rw [hbl] at hb
          cases hb
          obtain ⟨ns, h1, h2, h3⟩ := ih hbl ht
          cases v with
          | lit y =>
            cases hv
            cases x with
            | int k z =>
              cases k with
              | u8 =>
                cases z with
                | ofNat n =>
                  cases hbv
                  exact ⟨(n : Int) :: ns, by rw [h1]; rfl, by rw [List.map_cons, h2]; rfl, fun m hm => by
                    cases hm with
                    | head => omega
                    | tail _ hm => exact h3 m hm⟩
                | negSucc n => cases hbv
              | _ => cases hbv
            | _ => cases hbv
          | _ => cases hbv
theorem fold_push : ∀ (ns : List Int) (s : ByteArray), (ns.foldl (fun r n => r.push (UInt8.ofNat n.toNat)) s) = ⟨(s.data.toList ++ ns.map fun n => UInt8.ofNat n.toNat).toArray⟩ := by
  intro ns
  induction ns with
  | nil => intro s; obtain ⟨⟨l⟩⟩ := s; simp
  | cons n ns ih =>
    intro s
    rw [List.foldl_cons, ih]
    obtain ⟨⟨l⟩⟩ := s
    simp [ByteArray.push]
theorem isByte_some {d : Option TypeDesc} (h : isByte d = true) : d = some (.int .u8) := by
  cases d with
  | none => cases h
  | some t => cases t <;> first | (cases h; done) | skip
              rename_i k; cases k <;> first | rfl | cases h
theorem bytesE_ok {l : Option (List SV)} {Q : Eff → Prop} (hbad : Q .bad) (hK : ∀ l' bs, l = some l' → bytesOf l' = some bs → Q (.val (.lit (.string ⟨bs.toArray⟩)) h)) : Q (bytesE l h) := by
  cases l with
  | none => exact hbad
  | some l' =>
    show Q (strE (bytesOf l') h)
    cases hb : bytesOf l' with
    | none => exact hbad
    | some bs => exact hK l' bs rfl hb
theorem convSlc_ok (s : Sim P G M ρ h w) (src dst : TypeId) {o : Pa} {b : Loc} (off n cap' : Nat) (hb : ρ o = some b) :
    ValOK P G M ρ h w ((Go.convert src dst (.slice (some ⟨b.block, b.off + off, none⟩) n cap')).run P w) (convSlc P h src dst o off n) := by
  unfold convSlc
  cases hu : undO P src with
  | none => exact .bad
  | some d =>
    cases d with
    | slice el =>
      cases hv : undO P dst with
      | none => exact .bad
      | some d2 =>
        cases d2 with
        | string =>
          refine ifB_ok (Q := ValOK P G M ρ h w _) .bad fun hk => ?_
          have hel := isByte_some hk
          refine bytesE_ok (Q := ValOK P G M ρ h w _) .bad fun l bs hl hbs => ?_
          obtain ⟨xs, h1, h2, h3⟩ := obj_cells s hb hl
          obtain ⟨ns, rfl, h5, _⟩ := bytesOf_rel hbs h2
          have hrun := append_run_loads (P := P) (a := ⟨b.block, b.off + off, none⟩) h1 (fun j v hj => by rw [add_at]; exact h3 j v hj)
          refine .quiet s (x := .string ⟨bs.toArray⟩) ?_ (.lit _)
          rw [run_convert_bytes_string w src dst el _ _ _ (undO_some hu) (undO_some hel) (undO_some hv), run_bytesToString w _ _ _ ns hrun, fold_push, h5]
          rfl
        | _ => exact .bad
    | _ => exact .bad
theorem freeze_at {b n : Nat} {c : Array Value} {e : TypeId} (hk : w.heap[b]? = some (.cells c e (0, 0))) (off : Nat) (hn : n ≠ 0) : Turn w (w.freeze ⟨b, off, none⟩ n) b (.cells c e (off, off + n)) := by
  have hlt := lt_of_at hk
  unfold World.freeze
  rw [if_neg hn]
  refine ⟨rfl, rfl, rfl, by simp, fun k hk' => ?_, ?_⟩
  · show (w.heap.modify b _)[k]? = _
    rw [Array.getElem?_modify, if_neg (Ne.symm hk')]
  · show (w.heap.modify b _)[b]? = _
    rw [Array.getElem?_modify, if_pos rfl, hk]; rfl
theorem isOne_some {n : Option Nat} (h : isOne n = true) : n = some 1 := by
  unfold isOne at h
  split at h
  · rfl
  · cases h
theorem convStr_ok (s : Sim P G M ρ h w) (src dst : TypeId) (str : ByteArray) : ValOK P G M ρ h w ((Go.convert src dst (.string str)).run P w) (convStr P h src dst str) := by
  unfold convStr
  split
  · rename_i el hu hv
    split
    · rename_i hel
      refine ifB_ok (Q := ValOK P G M ρ h w _) .bad fun hone => ?_
      have hs1 := isOne_some hone
      have hes : P.cellsOf el = 1 := sizeO_cellsOf hs1
      rw [newE_eq]
      let q : Question := .appendCap str.size 0 el
      let cap := q.cut (w.tape w.drawn q)
      have hcap : str.size ≤ cap := by show str.size ≤ str.size + _; omega
      let xs : Array Value := str.data.map (fun b => Value.int .u8 b.toNat) ++ Array.replicate (cap - str.size) (.int .u8 0)
      have hxz : xs.size = cap := by
        have : str.data.size = str.size := rfl
        simp only [xs, Array.size_append, Array.size_map, Array.size_replicate, this]; omega
      let w1 : World := { w with drawn := w.drawn + 1 }
      let w2 : World := { w1 with heap := w1.heap.push (.cells xs el) }
      have hk2 : w2.heap[w.heap.size]? = some (.cells xs el (0, 0)) := by simp [w2, w1]
      have hfr := freeze_at hk2 xs.size (n := 1) (by omega)
      let w3 := w2.freeze ⟨w.heap.size, xs.size, none⟩ 1
      have s1 : Sim P G M ρ h w1 := s.drew rfl
      have g1 : Grow M ρ h w ρ h w1 := .drew rfl rfl rfl rfl
      let b : Loc := ⟨w.heap.size, 0, cap, 1⟩
      have hle : Env.le ρ (ρ.put (nOf h) b) := Env.put_le b s.none_at
      have hw2z : w2.heap.size = w.heap.size + 1 := by simp [w2, w1]
      obtain ⟨s3, g3⟩ := s1.push (w' := w3) (b := b) (ob := .cells (bytesSV str) el false) (hfr.os) (hfr.tape) (hfr.output) (by rw [show w3.heap.size = w2.heap.size from hfr.size, hw2z]; show w.heap.size ≤ _; omega) (by show w.heap.size < w3.heap.size; rw [show w3.heap.size = w2.heap.size from hfr.size, hw2z]; omega)
        (fun k hk hl => by
          have hl : k < w.heap.size := hl
          rw [show w3.heap[k]? = w2.heap[k]? from hfr.other k hk]
          show (w.heap.push _)[k]? = _
          rw [Array.getElem?_push, if_neg (by omega)])
        (s.fresh _ (Nat.le_refl _)) (fun o' b' hb' _ e' => by have := s.size o' b' hb'; rw [e'] at this; exact absurd this (Nat.lt_irrefl _))
        (by
          rw [show w3.heap[b.block]? = _ from hfr.here]
          have hrel := bytes_rel (ρ := ρ.put (nOf h) b) str
          refine .cells (show P.cellsOf el = 1 from hes) (Nat.zero_mod _) (fun e => by cases e) (show 0 + cap ≤ xs.size by omega) (show (bytesSV str).length ≤ cap by rw [hrel.length, List.length_map, Array.length_toList]; exact hcap) fun i v hi => ?_
          obtain ⟨x, hx, hv⟩ := hrel.get i v hi
          have hlt : i < str.data.size := by
            rcases Nat.lt_or_ge i str.data.size with h1 | h1
            · exact h1
            · rw [List.getElem?_eq_none (by simpa using h1)] at hx; cases hx
          refine ⟨x, ?_, hv⟩
          show xs[0 + i]? = some x
          rw [Nat.zero_add]
          show (str.data.map _ ++ _)[i]? = _
          rw [Array.getElem?_append_left (by simpa using hlt)]
          simpa using hx)
      refine ⟨_, w3, .slice (some ⟨w.heap.size, 0, none⟩) str.size cap, ?_, ?_, s3, g1.trans g3⟩
      · have hf : (Question.appendCap str.size 0 el).forced = false := rfl
        have hsh : w2.shape? w.heap.size = some (el, xs.size) := shape_at hk2
        simp only [Go.convert, Sem.run_bind, run_und hu, run_und hv, Result.andThen_ok, run_und hel, Conv.stringToBytes, run_choose, hf, Bool.false_eq_true, if_false, newRow, run_newObj, Sem.run_pure, markStringish, run_shape]
        show Result.andThen (Sem.run P (match w2.shape? w.heap.size with
          | some (_, n) => freeze { block := w.heap.size, off := n } 1
          | x => pure ()) w2) _ = _
        rw [hsh]
        rfl
      · exact VR.slc (b := b) 0 str.size str.size false cap (Env.put_self _ _ _) hcap (fun e => by cases e) fun _ => by show 0 + cap * 1 ≤ cap; omega
    · exact .bad
  · exact .still s _
end
end Go.Play

/- Play: the operations: equality, conversions, copies, views. -/
namespace Go.Play
set_option linter.unusedVariables false
set_option linter.unusedSimpArgs false
section
variable {P : Program} {G : Glob} {M : Nat → Prop} {ρ : Env} {h : H} {w : World}

-- equality
theorem obj_row (s : Sim P G M ρ h w) {o : Pa} {b : Loc} (hb : ρ o = some b) (ho : ownO (hget h o) = true) : ∃ c e, w.heap[b.block]? = some (.cells c e (0, 0)) ∧ hget h o ≠ .none := by
  have hlive := s.live o b hb
  cases hob : hget h o with
  | cells vs e own =>
    rw [hob] at hlive ho
    obtain rfl : own = true := ho
    cases hk : w.heap[b.block]? with
    | none => rw [hk] at hlive; cases hlive
    | some ob => rw [hk] at hlive; cases hlive with | @cells _ _ _ _ c fr hs hm hf => obtain rfl : fr = (0, 0) := hf rfl; exact ⟨c, e, rfl, by simp⟩
  | _ => rw [hob] at ho; cases ho
theorem run_sameAddr_same (bk i j : Nat) : (sameAddr ⟨bk, i, none⟩ ⟨bk, j, none⟩).run P w = .ok (decide (i = j)) w := by
  simp only [sameAddr, beq_self_eq_true, if_true, Sem.run_pure]
  congr 1
  rw [Bool.eq_iff_iff]; simp
theorem run_sameAddr_other {bk bk' i j : Nat} {c c' : Array Value} {e e' : TypeId} (hne : bk ≠ bk') (h1 : w.heap[bk]? = some (.cells c e (0, 0))) (h2 : w.heap[bk']? = some (.cells c' e' (0, 0))) :
    (sameAddr ⟨bk, i, none⟩ ⟨bk', j, none⟩).run P w = .ok false w := by
  have hb : (bk == bk') = false := by simpa using hne
  simp only [sameAddr, hb, Bool.false_eq_true, if_false, Sem.run_bind, run_frozen, frozen_at h1, frozen_at h2, Result.andThen_ok, noView, viewAt, run_shape, shape_at h1, shape_at h2, Option.isSome_some, if_true, Option.isSome_none, Sem.run_pure, mayBeOne, stringish, Bool.false_and, Bool.and_self, Bool.or_self]
theorem run_eq_of {op : BinOp} {t : TypeId} {x y : Operand} {a b : Value} {r : Bool} (hg : ∀ o, (eqGuard o t x y a b).run P w = .ok () w) (he : (Op.equal t a b).run P w = .ok r w)
    (h1 : Go.binOp .eql t a b = (do pure (.bool (← Op.equal t a b)))) (h2 : Go.binOp .neq t a b = (do pure (.bool (!(← Op.equal t a b))))) :
    (op = .eql → (do eqGuard op t x y a b; Go.binOp op t a b : Sem Value).run P w = .ok (.bool r) w) ∧ (op = .neq → (do eqGuard op t x y a b; Go.binOp op t a b : Sem Value).run P w = .ok (.bool (!r)) w) := by
  constructor <;> rintro rfl
  · simp only [Sem.run_bind, hg, Result.andThen_ok, h1, he, Sem.run_pure]
  · simp only [Sem.run_bind, hg, Result.andThen_ok, h2, he, Sem.run_pure]
theorem equal_succ {t : TypeId} {x y : Value} {r : Bool} (hq : ∀ n, (Op.equalIn (n + 1) t x y).run P w = .ok r w) : (Op.equal t x y).run P w = .ok r w := hq 9999
/-- What the symbolic equality says, one of the values naming an object. -/
def EqOK (P : Program) (w : World) (t : TypeId) (a b : Value) (r : Bool) : Prop :=
  (∀ o x y, (eqGuard o t x y a b).run P w = .ok () w) ∧ (∀ n, (Op.equalIn (n + 1) t a b).run P w = .ok r w) ∧ Go.binOp .eql t a b = (do pure (.bool (← Op.equal t a b))) ∧ Go.binOp .neq t a b = (do pure (.bool (!(← Op.equal t a b))))
theorem opEq_ok (s : Sim P G M ρ h w) {xT : TypeId} {a b : SV} {a' b' : Value} {r : Bool} (ha : VR ρ a a') (hb : VR ρ b b') (hr : opEq P h xT a b = some r) : EqOK P w xT a' b' r := by
  unfold opEq at hr
  cases hz : eqSized P (undO P xT) with
  | false => rw [hz] at hr; cases hr
  | true =>
    rw [hz] at hr
    cases hu : undO P xT with
    | none => rw [hu] at hr; cases hr
    | some d =>
      rw [hu] at hr hz
      have fin : ∀ {a' b' : Value}, (∀ o x y, (eqGuard o xT x y a' b').run P w = .ok () w) → (∀ n, (Op.equalIn (n + 1) xT a' b').run P w = .ok r w) → Go.binOp .eql xT a' b' = (do pure (.bool (← Op.equal xT a' b'))) → Go.binOp .neq xT a' b' = (do pure (.bool (!(← Op.equal xT a' b')))) → EqOK P w xT a' b' r :=
        fun h1 h2 h3 h4 => ⟨h1, h2, h3, h4⟩
      cases d with
      | pointer e =>
        have hz' : ∃ k, sizeO P e = some (k + 1) := by
          cases hs : sizeO P e with
          | none => simp only [eqSized, hs] at hz; cases hz
          | some k => cases k with
            | zero => simp only [eqSized, hs] at hz; cases hz
            | succ k => exact ⟨k, rfl⟩
        obtain ⟨k, hs⟩ := hz'
        cases a with
        | ptr o i =>
          cases ha with
          | @ptr _ ba _ hba =>
            cases b with
            | ptr o' j =>
              cases hb with
              | @ptr _ bb _ hbb =>
                change ptrEq h o i o' j = some r at hr
                unfold ptrEq at hr
                have hrun : ∀ q, (sameAddr ⟨ba.block, ba.off + i, none⟩ ⟨bb.block, bb.off + j, none⟩).run P w = .ok q w → ∀ n, (Op.equalIn (n + 1) xT (.pointer (some ⟨ba.block, ba.off + i, none⟩)) (.pointer (some ⟨bb.block, bb.off + j, none⟩))).run P w = .ok q w := fun q hq n => by
                  simp only [Op.equalIn, Sem.run_bind, run_und hu, Result.andThen_ok, run_size hs, ne_eq, Nat.succ_ne_zero, not_false_eq_true, if_true, hq, Nat.add_eq_zero_iff, Nat.one_ne_zero, and_false]
                cases hoo : Pa.beq o o' with
                | true =>
                  rw [hoo] at hr
                  obtain rfl := (Pa.beq_iff _ _).1 hoo
                  rw [hba] at hbb; cases hbb
                  cases hr
                  refine fin (fun op x y => by unfold eqGuard; split <;> rfl) (hrun _ ?_) rfl rfl
                  rw [run_sameAddr_same]
                  congr 1
                  rw [Bool.eq_iff_iff, Nat.beq_eq]; simp
                | false =>
                  rw [hoo] at hr
                  cases h1 : ownO (hget h o) with
                  | false => rw [h1] at hr; cases hr
                  | true =>
                    cases h2 : ownO (hget h o') with
                    | false => rw [h1, h2] at hr; cases hr
                    | true =>
                      rw [h1, h2] at hr
                      cases hr
                      obtain ⟨c1, e1, k1, n1⟩ := obj_row s hba h1
                      obtain ⟨c2, e2, k2, n2⟩ := obj_row s hbb h2
                      refine fin (fun op x y => by unfold eqGuard; split <;> rfl) (hrun _ (run_sameAddr_other (fun e' => ?_) k1 k2)) rfl rfl
                      have := s.apart o o' ba bb hba hbb n1 n2 e'
                      rw [(Pa.beq_iff _ _).2 this] at hoo; cases hoo
            | lit v =>
              cases hb
              cases b' with
              | pointer p => cases p with
                | none =>
                  cases hr
                  refine fin (fun op x y => by unfold eqGuard; split <;> rfl) (fun n => ?_) rfl rfl
                  simp only [Op.equalIn, Sem.run_bind, run_und hu, Result.andThen_ok, Sem.run_pure]
                | some p => cases hr
              | _ => cases hr
            | _ => cases hr
        | lit v =>
          cases ha
          cases a' with
          | pointer p => cases p with
            | none =>
              cases b with
              | ptr o' j =>
                cases hb with
                | ptr _ hbb =>
                  cases hr
                  refine fin (fun op x y => by unfold eqGuard; split <;> rfl) (fun n => ?_) rfl rfl
                  simp only [Op.equalIn, Sem.run_bind, run_und hu, Result.andThen_ok, Sem.run_pure, Option.isNone_some]
              | _ => cases hr
            | some p => cases b <;> cases hr
          | _ => cases b <;> cases hr
        | _ => cases b <;> cases hr
      | interface ms =>
        cases a with
        | ifc t v =>
          cases b with
          | lit u =>
            cases ha with
            | ifc _ hv =>
              cases hb
              cases b' with
              | nilIface =>
                cases hr
                refine fin (fun op x y => by unfold eqGuard; split <;> rfl) (fun n => ?_) rfl rfl
                simp only [Op.equalIn, Sem.run_bind, run_und hu, Result.andThen_ok, Sem.run_pure]
              | _ => cases hr
          | _ => cases hr
        | lit v =>
          cases ha
          cases a' with
          | nilIface =>
            cases b with
            | ifc t v =>
              cases hb with
              | ifc _ hv =>
                cases hr
                refine fin (fun op x y => by unfold eqGuard; split <;> rfl) (fun n => ?_) rfl rfl
                simp only [Op.equalIn, Sem.run_bind, run_und hu, Result.andThen_ok, Sem.run_pure]
            | _ => cases hr
          | _ => cases b <;> cases hr
        | _ => cases b <;> cases hr
      | slice e =>
        cases a with
        | slc o off n c ex =>
          cases b with
          | lit u =>
            cases ha
            cases hb
            cases b' with
            | slice p n' c' => cases p with
              | none =>
                cases hr
                refine fin (fun op x y => by unfold eqGuard; split <;> rfl) (fun n => ?_) rfl rfl
                simp only [Op.equalIn, Sem.run_bind, run_und hu, Result.andThen_ok, Sem.run_pure]
              | some p => cases hr
            | _ => cases hr
          | _ => cases hr
        | eslc =>
          cases b with
          | lit u =>
            cases ha
            cases hb
            cases b' with
            | slice p n' c' => cases p with
              | none =>
                cases hr
                refine fin (fun op x y => by unfold eqGuard; split <;> rfl) (fun n => ?_) rfl rfl
                simp only [Op.equalIn, Sem.run_bind, run_und hu, Result.andThen_ok, Sem.run_pure]
              | some p => cases hr
            | _ => cases hr
          | _ => cases hr
        | lit v =>
          cases ha
          cases a' with
          | slice p n' c' => cases p with
            | none =>
              cases b with
              | slc o off n c ex =>
                cases hb
                cases hr
                refine fin (fun op x y => by unfold eqGuard; split <;> rfl) (fun n => ?_) rfl rfl
                simp only [Op.equalIn, Sem.run_bind, run_und hu, Result.andThen_ok, Sem.run_pure, Option.isNone_some]
              | eslc =>
                cases hb
                cases hr
                refine fin (fun op x y => by unfold eqGuard; split <;> rfl) (fun n => ?_) rfl rfl
                simp only [Op.equalIn, Sem.run_bind, run_und hu, Result.andThen_ok, Sem.run_pure, Option.isNone_some]
              | _ => cases hr
            | some p => cases b <;> cases hr
          | _ => cases b <;> cases hr
        | _ => cases b <;> cases hr
      | map kt e =>
        cases a with
        | mapv o =>
          cases b with
          | lit u =>
            cases ha
            cases hb
            cases b' with
            | map p => cases p with
              | none =>
                cases hr
                refine fin (fun op x y => by unfold eqGuard; split <;> rfl) (fun n => ?_) rfl rfl
                simp only [Op.equalIn, Sem.run_bind, run_und hu, Result.andThen_ok, Sem.run_pure]
              | some p => cases hr
            | _ => cases hr
          | _ => cases hr
        | lit v =>
          cases ha
          cases a' with
          | map p => cases p with
            | none =>
              cases b with
              | mapv o =>
                cases hb
                cases hr
                refine fin (fun op x y => by unfold eqGuard; split <;> rfl) (fun n => ?_) rfl rfl
                simp only [Op.equalIn, Sem.run_bind, run_und hu, Result.andThen_ok, Sem.run_pure, Option.isNone_some]
              | _ => cases hr
            | some p => cases b <;> cases hr
          | _ => cases b <;> cases hr
        | _ => cases b <;> cases hr
      | func ps rs vd =>
        cases a with
        | fn f l c =>
          cases b with
          | lit u =>
            cases ha
            cases hb
            cases b' with
            | nilFunc =>
              cases hr
              refine fin (fun op x y => by unfold eqGuard; split <;> rfl) (fun n => ?_) rfl rfl
              simp only [Op.equalIn, Sem.run_bind, run_und hu, Result.andThen_ok, Sem.run_pure]
            | _ => cases hr
          | _ => cases hr
        | yld o =>
          cases b with
          | lit u =>
            cases ha
            cases hb
            cases b' with
            | nilFunc =>
              cases hr
              refine fin (fun op x y => by unfold eqGuard; split <;> rfl) (fun n => ?_) rfl rfl
              simp only [Op.equalIn, Sem.run_bind, run_und hu, Result.andThen_ok, Sem.run_pure]
            | _ => cases hr
          | _ => cases hr
        | lit v =>
          cases ha
          cases a' with
          | nilFunc =>
            cases b with
            | fn f l c =>
              cases hb
              cases hr
              refine fin (fun op x y => by unfold eqGuard; split <;> rfl) (fun n => ?_) rfl rfl
              simp only [Op.equalIn, Sem.run_bind, run_und hu, Result.andThen_ok, Sem.run_pure]
            | yld o =>
              cases hb
              cases hr
              refine fin (fun op x y => by unfold eqGuard; split <;> rfl) (fun n => ?_) rfl rfl
              simp only [Op.equalIn, Sem.run_bind, run_und hu, Result.andThen_ok, Sem.run_pure]
            | _ => cases hr
          | _ => cases b <;> cases hr
        | _ => cases b <;> cases hr
      | _ => cases hr
theorem binSlow_ok (s : Sim P G M ρ h w) (op : BinOp) (xT : TypeId) (x y : Operand) {a b : SV} {a' b' : Value} (ha : VR ρ a a') (hb : VR ρ b b') :
    ValOK P G M ρ h w ((do eqGuard op xT x y a' b'; Go.binOp op xT a' b' : Sem Value).run P w) (binSlow op P h xT a b) := by
  cases op with
  | eql =>
    change ValOK P G M ρ h w _ (eqE (opEq P h xT a b) h)
    cases hr : opEq P h xT a b with
    | none => exact .bad
    | some r =>
      obtain ⟨h1, h2, h3, h4⟩ := opEq_ok s ha hb hr
      exact .quiet s ((run_eq_of (op := .eql) (fun o => h1 o x y) (equal_succ h2) h3 h4).1 rfl) (.lit _)
  | neq =>
    change ValOK P G M ρ h w _ (neE (opEq P h xT a b) h)
    cases hr : opEq P h xT a b with
    | none => exact .bad
    | some r =>
      obtain ⟨h1, h2, h3, h4⟩ := opEq_ok s ha hb hr
      refine .quiet s ((run_eq_of (op := .neq) (fun o => h1 o x y) (equal_succ h2) h3 h4).2 rfl) ?_
      rw [notB_eq]; exact .lit _
  | _ => exact .bad
theorem bin_ok (s : Sim P G M ρ h w) (op : BinOp) (xT : TypeId) (x y : Operand) {a b : SV} {a' b' : Value} (ha : VR ρ a a') (hb : VR ρ b b') :
    ValOK P G M ρ h w ((do eqGuard op xT x y a' b'; Go.binOp op xT a' b' : Sem Value).run P w) (bin1 a a P h op xT x y b) := by
  have slow := binSlow_ok s op xT x y ha hb
  cases a with
  | lit v =>
    cases b with
    | lit u =>
      cases ha; cases hb
      change ValOK P G M ρ h w _ (binLit (fastBin a' op b') P h op xT x y a' b')
      cases hf : fastBin a' op b' with
      | none => exact .still s _
      | some r => exact .quiet s (fastBin_ok hf) (.lit _)
    | _ => exact slow
  | _ => exact slow
end
end Go.Play

/- Play: the operations: conversions, copies, views, maps, iterators. -/
namespace Go.Play
set_option linter.unusedVariables false
set_option linter.unusedSimpArgs false
section
variable {P : Program} {G : Glob} {M : Nat → Prop} {ρ : Env} {h : H} {w : World}

theorem pos1_some {n : Option Nat} (h : pos1 n = true) : ∃ k, n = some (k + 1) := by
  unfold pos1 at h
  split at h
  · exact ⟨_, rfl⟩
  · cases h
/-- The block of a live row of cells. -/
theorem obj_live (s : Sim P G M ρ h w) {o : Pa} {b : Loc} {vs : List SV} {e : TypeId} {own : Bool} (hb : ρ o = some b) (ho : hget h o = .cells vs e own) :
    ∃ (c : Array Value) (fr : Nat × Nat), w.heap[b.block]? = some (.cells c e fr) ∧ P.cellsOf e = b.esz ∧ b.off % b.esz = 0 ∧ (own = true → fr = (0, 0)) ∧ b.off + b.room ≤ c.size ∧ vs.length ≤ b.room ∧
      ∀ (i : Nat) (v : SV), vs[i]? = some v → ∃ x : Value, c[b.off + i]? = some x ∧ VR ρ v x := by
  have hlive := s.live o b hb
  rw [ho] at hlive
  cases hk : w.heap[b.block]? with
  | none => rw [hk] at hlive; cases hlive
  | some ob => rw [hk] at hlive; cases hlive with | @cells _ _ _ _ c fr hs hm hf hr hl hv => exact ⟨c, fr, rfl, hs, hm, hf, hr, hl, hv⟩
theorem depth_pos (P : Program) : ∃ n, P.depth = n + 1 := ⟨2 * (P.types.size + Made.depth) + 1, rfl⟩
theorem sameLayout_refl (P : Program) (e : TypeId) : sameLayout P P.depth e e = true := by
  obtain ⟨n, hn⟩ := depth_pos P
  rw [hn]; unfold sameLayout; simp
theorem rowAt_here {P : Program} {fits : TypeId → Bool} {e : TypeId} {count off n k : Nat} (hs : P.cellsOf e = k + 1) (hm : off % (k + 1) = 0) (hc : off / (k + 1) + n ≤ count) (hf : fits e = true) : rowAt P fits P.depth e count off n = true := by
  obtain ⟨d, hd⟩ := depth_pos P
  rw [hd]; unfold rowAt
  rw [hs]
  simp [hm, hc, hf]
theorem run_variablesAt {bk off n k : Nat} {e : TypeId} {c : Array Value} {fr : Nat × Nat} (hk : w.heap[bk]? = some (.cells c e fr)) (hs : P.cellsOf e = k + 1) (hm : off % (k + 1) = 0) (hc : off / (k + 1) + n ≤ c.size / (k + 1)) :
    (variablesAt ⟨bk, off, none⟩ e n).run P w = .ok true w := by
  have hl : liesAt P P.depth e (c.size / P.cellsOf e) off e n = true := by
    obtain ⟨d, hd⟩ := depth_pos P
    rw [hd]; unfold liesAt
    rw [rowAt_here (fits := fun x => sameLayout P P.depth x e) hs hm (by rw [hs]; exact hc) (sameLayout_refl P e)]
    rfl
  simp only [variablesAt, Sem.run_bind, run_program, Result.andThen_ok, run_shape, shape_at hk, Sem.run_pure, hl]
theorem run_seenAt {bk off : Nat} {e : TypeId} {c : Array Value} {fr : Nat × Nat} (hk : w.heap[bk]? = some (.cells c e fr)) : (Conv.seenAt ⟨bk, off, none⟩).run P w = .ok ⟨bk, off, none⟩ w := by
  simp only [Conv.seenAt, viewAt, Sem.run_bind, run_shape, shape_at hk, Result.andThen_ok, Option.isSome_some, if_true, Sem.run_pure]
theorem convPtr_ok (s : Sim P G M ρ h w) (src dst : TypeId) {o : Pa} {b : Loc} (off : Nat) (hb : ρ o = some b) :
    ValOK P G M ρ h w ((Go.convert src dst (.pointer (some ⟨b.block, b.off + off, none⟩))).run P w) (convPtr P h src dst o off) := by
  unfold convPtr
  split
  · rename_i t hu hv
    cases ho : hget h o with
    | cells vs e own =>
      change ValOK P G M ρ h w _ (toUnsafe2 (andB (pos1 (sizeO P t)) (Nat.ble (Nat.succ off) (lenS vs))) h o off)
      rw [andB_eq]
      cases hck : (pos1 (sizeO P t) && Nat.ble (Nat.succ off) (lenS vs)) with
      | false => exact .bad
      | true =>
        rw [Bool.and_eq_true, lenS_eq] at hck
        obtain ⟨k, hk⟩ := pos1_some hck.1
        have hlt : off < vs.length := Nat.le_of_ble_eq_true hck.2
        obtain ⟨c, fr, hc, hs, hm, hf, hr, hl, hvs⟩ := obj_live s hb ho
        refine .quiet s (x := .pointer (some ⟨b.block, b.off + off, none⟩)) ?_ (.ptr off hb)
        have hge : decide (b.off + off ≥ c.size) = false := by simp; omega
        simp only [Go.convert, Sem.run_bind, run_und hu, run_und hv, Result.andThen_ok, Conv.unsafePointer, run_seenAt hc, cellsIn, run_shape, shape_at hc, Sem.run_pure, hge, run_size hk, Bool.false_and, Nat.add_eq_zero_iff, Nat.one_ne_zero, and_false, decide_false, Bool.or_self, Bool.false_eq_true, if_false]
    | _ => exact .bad
  · rename_i t hu hv
    cases ho : hget h o with
    | cells vs e own =>
      change ValOK P G M ρ h w _ (toUnsafe2 (andB (Nat.beq e t) (fitN (sizeO P e) off (lenS vs))) h o off)
      rw [andB_eq]
      cases hck : (Nat.beq e t && fitN (sizeO P e) off (lenS vs)) with
      | false => exact .bad
      | true =>
        rw [Bool.and_eq_true, lenS_eq] at hck
        obtain rfl : e = t := Nat.eq_of_beq_eq_true hck.1
        have hfit : ∃ k, sizeO P e = some (k + 1) ∧ off + (k + 1) ≤ vs.length ∧ off % (k + 1) = 0 := by
          have h2 := hck.2
          cases hn : sizeO P e with
          | none => rw [hn] at h2; cases h2
          | some n => cases n with
            | zero => rw [hn] at h2; cases h2
            | succ k =>
              rw [hn] at h2
              simp only [fitN, Bool.and_eq_true, Nat.ble_eq] at h2
              exact ⟨k, rfl, h2.1, Nat.eq_of_beq_eq_true h2.2⟩
        obtain ⟨k, hk, h1, h2⟩ := hfit
        obtain ⟨c, fr, hc, hs, hm, hf, hr, hl, hvs⟩ := obj_live s hb ho
        have hes := sizeO_cellsOf hk
        rw [← hs, hes] at hm
        have hmod : (b.off + off) % (k + 1) = 0 := by rw [Nat.add_mod, hm, h2]; simp
        have hdiv : (b.off + off) / (k + 1) + 1 ≤ c.size / (k + 1) := by
          rw [Nat.le_div_iff_mul_le (by omega), Nat.add_mul, Nat.div_mul_cancel (Nat.dvd_of_mod_eq_zero hmod)]
          omega
        refine .quiet s (x := .pointer (some ⟨b.block, b.off + off, none⟩)) ?_ (.ptr off hb)
        simp only [Go.convert, Sem.run_bind, run_und hu, run_und hv, Result.andThen_ok, Conv.unsafePointer, run_seenAt hc, run_size hk, run_variablesAt hc hes hmod hdiv, Bool.or_true, if_true, Sem.run_pure]
    | _ => exact .bad
  · exact .bad
theorem conv_ok (s : Sim P G M ρ h w) (src dst : TypeId) {a : SV} {x : Value} (ha : VR ρ a x) : ValOK P G M ρ h w ((Go.convert src dst x).run P w) (conv1 a P h src dst) := by
  cases a with
  | lit v =>
    cases ha
    cases x with
    | int k z =>
      change ValOK P G M ρ h w _ (convInt (undO P dst) P h src dst k z)
      cases hv : undO P dst with
      | none => exact .bad
      | some d =>
        cases d with
        | int k' =>
          refine ifB_ok (Q := ValOK P G M ρ h w _) (e := .val (.lit (.int k' (wrapF k' z))) h) .bad fun hs => ?_
          cases hu : undO P src with
          | none => rw [hu] at hs; cases hs
          | some d2 =>
            refine .quiet s (x := .int k' (k'.wrap z)) ?_ (by rw [wrapF_eq]; exact .lit _)
            simp only [Go.convert, Sem.run_bind, run_und hu, run_und hv, Result.andThen_ok, Conv.intToInt, Sem.run_pure]
        | _ => exact .still s _
    | string str => exact convStr_ok s src dst str
    | _ => exact .still s _
  | slc o off n cap ex => cases ha with | @slc _ b _ _ _ _ cap' hb => exact convSlc_ok s src dst off n cap' hb
  | ptr o off => cases ha with | ptr _ hb => exact convPtr_ok s src dst off hb
  | _ => exact .bad

-- copies
theorem firstCells_take (s : Sim P G M ρ h w) {x : SV} {y : Value} (hx : VR ρ x y) {size n m : Nat} {l : List SV} (hl : sliceC x h size = some l) (hn : lenV x = some n) (hz : l.length = n * size) (hm : m ≤ n) :
    ∃ ys : Array Value, VRL ρ (l.take (m * size)) ys.toList ∧ (Builtin.firstCells size m y).run P w = .ok ys w ∧ (Builtin.lenOf y).run P w = .ok n w := by
  cases x with
  | slc o off len cap ex =>
    cases hx with
    | @slc _ b _ _ _ _ cap' hb hc he hr =>
      cases hn
      obtain ⟨xs, h1, h2, h3⟩ := obj_cells s hb (show cellsAt (hget h o) off (n * size) = some l from hl)
      have hle : m * size ≤ n * size := Nat.mul_le_mul_right _ hm
      refine ⟨(xs.take (m * size)).toArray, by simpa using h2.take (m * size), ?_, rfl⟩
      show (loadCells _ (m * size)).run P w = _
      refine append_run_loads (by rw [List.length_take]; omega) fun j v hj => ?_
      rw [add_at]
      rw [List.getElem?_take] at hj
      split at hj
      · exact h3 j v hj
      · cases hj
  | eslc =>
    cases hx with
    | eslc a c => cases hn; cases hl; obtain rfl : m = 0 := by omega
                  exact ⟨#[], by simpa using VRL.nil, by show (loadCells a (0 * size)).run P w = _; rw [Nat.zero_mul]; rfl, rfl⟩
  | lit v =>
    cases hx
    cases y with
    | slice a len cap =>
      cases a with
      | none =>
        cases len with
        | zero => cases hn; cases hl; exact ⟨#[], by simpa using VRL.nil, rfl, rfl⟩
        | succ k => cases hl
      | some a => cases hl
    | string str =>
      cases hn; cases hl
      refine ⟨(str.extract 0 m).data.map fun b => .int .u8 b.toNat, ?_, by simp only [Builtin.firstCells, Sem.run_pure], rfl⟩
      have hrel := bytes_rel (ρ := ρ) str
      rw [hrel.length, List.length_map, Array.length_toList] at hz
      have hz' : str.size = str.size * size := hz
      have e1 : ((str.extract 0 m).data.map fun b => Value.int .u8 b.toNat).toList = (str.data.toList.map fun b => Value.int .u8 b.toNat).take m := by
        rw [Array.toList_map, ← List.map_take]
        congr 1
        rw [ByteArray.data_extract, Array.toList_extract]
        simp
      rw [e1]
      rcases Nat.eq_zero_or_pos m with h0 | h0
      · subst h0; simpa using VRL.nil
      · have : size = 1 := by
          rcases Nat.lt_trichotomy size 1 with h1 | h1 | h1
          · have : size = 0 := by omega
            subst this; omega
          · exact h1
          · have : str.size * 2 ≤ str.size * size := Nat.mul_le_mul_left _ h1
            omega
        subst this
        rw [Nat.mul_one]
        exact hrel.take m
    | _ => cases hl
  | _ => cases hl
theorem copy_ok (s : Sim P G M ρ h w) (ts : Array TypeId) (ty : TypeId) {x y : SV} {x' y' : Value} (hx : VR ρ x x') (hy : VR ρ y y') :
    ValOK P G M ρ h w ((Builtin.copy_ ts ty #[x', y']).run P w) (copyOp P h ts x y) := by
  unfold copyOp
  cases he : sliceElem (undT (argT ts) P) with
  | none => exact .bad
  | some el =>
    obtain ⟨t, h0', hu⟩ := undT_some (sliceElem_some he)
    have h0 := argT_some h0'
    simp only []
    unfold copy1
    cases ha : lenV x with
    | none => exact .bad
    | some a => cases hb : lenV y with
      | none => exact .bad
      | some b => cases hz : sizeO P el with
        | none => exact .bad
        | some size =>
          simp only []
          cases hc : sliceC y h size with
          | none => exact .bad
          | some cs =>
            simp only []
            unfold copy2
            refine ifB_ok (Q := ValOK P G M ρ h w _) .bad fun hl => ?_
            have hl : cs.length = b * size := by rw [← lenS_eq]; exact Nat.eq_of_beq_eq_true hl
            have key : ∀ n, n = Nat.min b a → ValOK P G M ρ h w ((Builtin.copy_ ts ty #[x', y']).run P w) (copy3 x (takeS (Nat.mul n size) cs) n h) := by
              intro n hn
              have hnb : n ≤ b := by rw [hn]; exact Nat.min_le_left _ _
              obtain ⟨ys, hrel, hf, hlen⟩ := firstCells_take s hy hc hb hl hnb
              unfold copy3
              split
              · rename_i o off len cap ex l hcs
                cases hx with
                | @slc _ bl _ _ _ _ cap' hbl _ _ _ =>
                  cases ha
                  obtain ⟨_, rfl⟩ := takeS_some _ hcs
                  refine store_obj (Q := ValOK P G M ρ h w _) (ys := ys.toList) s hbl hrel .bad fun h' w' hst hs hg _ => ?_
                  refine ⟨ρ, w', goInt n, ?_, .lit _, hs, hg⟩
                  simp only [Builtin.copy_, h0, List.getElem?_toArray, List.getElem?_cons_zero, List.getElem?_cons_succ, Sem.run_bind, run_und hu, Result.andThen_ok, hlen, run_size hz, ← hn, hf, hst, Sem.run_pure]
              · exact .bad
            cases hab : Nat.ble a b with
            | true =>
              have : a ≤ b := Nat.le_of_ble_eq_true hab
              exact key a (Nat.min_eq_right this).symm
            | false =>
              have : b ≤ a := by
                rcases Nat.le_total b a with h1 | h1
                · exact h1
                · rw [Nat.ble_eq_true_of_le h1] at hab; cases hab
              exact key b (Nat.min_eq_left this).symm

-- views of bytes as a string
theorem run_loadBytes (bk o : Nat) : ∀ (ns : List Int) (i : Nat) (acc : ByteArray), (∀ (j : Nat) (n : Int), ns[j]? = some n → w.cell? ⟨bk, o + i + j, none⟩ = some (.int .u8 n)) → (∀ n ∈ ns, 0 ≤ n) →
    (loadBytes ⟨bk, o + i, none⟩ acc ns.length).run P w = .ok (ns.foldl (fun r n => r.push (UInt8.ofNat n.toNat)) acc) w := by
  intro ns
  induction ns with
  | nil => intro i acc _ _; rfl
  | cons n ns ih =>
    intro i acc hc hp
    have h0 := hc 0 n rfl
    simp only [Nat.add_zero] at h0
    have hn : n.toNat.toUInt8 = UInt8.ofNat n.toNat := rfl
    have := ih (i + 1) (acc.push (UInt8.ofNat n.toNat)) (fun j m hj => by
      have := hc (j + 1) m (by simpa using hj)
      rwa [show o + i + (j + 1) = o + (i + 1) + j by omega] at this) (fun m hm => hp m (by simp [hm]))
    simp only [List.length_cons, loadBytes, Sem.run_bind, run_load, h0, Result.andThen_ok, add_at, hn, List.foldl_cons, ← this]
    congr 1
theorem unsafeS_ok (s : Sim P G M ρ h w) (ts : Array TypeId) (ty : TypeId) {p n : SV} {p' n' : Value} (hp : VR ρ p p') (hn : VR ρ n n') :
    ValOK P G M ρ h w ((Builtin.unsafeString_ ts ty #[p', n']).run P w) (unsafeS P h ts p n) := by
  unfold unsafeS
  split
  · rename_i o off k e hN hE
    obtain ⟨b, hb, rfl⟩ : ∃ b, ρ o = some b ∧ p' = .pointer (some ⟨b.block, b.off + off, none⟩) := by cases hp with | ptr _ hb => exact ⟨_, hb, rfl⟩
    obtain ⟨ik, rfl⟩ := asN_some hn hN
    have hu1 : ∃ t, ts[0]? = some t ∧ undO P t = some (.pointer e) := by
      cases hd : undT (argT ts) P with
      | none => rw [hd] at hE; cases hE
      | some d =>
        rw [hd] at hE
        obtain ⟨t, h1, h2⟩ := undT_some hd
        cases d <;> cases hE
        exact ⟨t, argT_some h1, h2⟩
    obtain ⟨t, h0, hu⟩ := hu1
    refine ifB_ok (Q := ValOK P G M ρ h w _) .bad fun hk => ?_
    have hk : k + 1 ≤ 16777216 := Nat.le_of_ble_eq_true hk
    cases ho : hget h o with
    | cells vs e' own =>
      refine ifB_ok (Q := ValOK P G M ρ h w _) (e := ifB (isOne (sizeO P e')) (putE h o (.cells vs e' false) fun h => bytesE (takeS (k + 1) (dropS off vs)) h)) .bad fun hc => ?_
      rw [andB_eq, andB_eq, Bool.and_eq_true, Bool.and_eq_true] at hc
      obtain ⟨⟨rfl, he⟩, hby⟩ := hc
      obtain rfl : e' = e := Nat.eq_of_beq_eq_true he
      refine ifB_ok (Q := ValOK P G M ρ h w _) .bad fun hone => ?_
      have hs1 := isOne_some hone
      have hes := sizeO_cellsOf hs1
      rw [putE_eq]
      refine bytesE_ok (Q := ValOK P G M ρ h w _) .bad fun l bs hl hbs => ?_
      obtain ⟨c, fr, hc, hs, hm, hf, hr, hlen, hvs⟩ := obj_live s hb ho
      obtain rfl : fr = (0, 0) := hf rfl
      obtain ⟨xs, h1, h2, h3⟩ := obj_cells s hb (show cellsAt (hget h o) off (k + 1) = some l by rw [ho]; exact hl)
      obtain ⟨ns, rfl, h5, h6⟩ := bytesOf_rel hbs h2
      rw [List.length_map] at h1
      obtain ⟨h7, _⟩ := takeS_some _ hl
      rw [dropS_eq, List.length_drop] at h7
      have ht := freeze_at hc (b.off + off) (n := k + 1) (by omega)
      obtain ⟨s2, g2⟩ := s.put (w' := w.freeze ⟨b.block, b.off + off, none⟩ (k + 1)) (ob := .cells vs e' false) hb (by rw [ho]; rfl) ht.os ht.tape ht.output ht.size ht.other (by
        rw [ht.here]
        exact .cells hs hm (fun e => by cases e) hr hlen hvs)
      have hlb := run_loadBytes (P := P) (w := w) b.block (b.off + off) ns 0 .empty (fun j n hj => by
        have := h3 j (.int .u8 n) (by rw [List.getElem?_map, hj]; rfl)
        simpa using this) h6
      rw [h1, Nat.add_zero] at hlb
      refine ⟨ρ, _, .string ⟨bs.toArray⟩, ?_, .lit _, s2, g2⟩
      have hva := run_variablesAt (P := P) (w := w) (off := b.off + off) (n := k + 1) (k := 0) hc hes (Nat.mod_one _) (by rw [Nat.zero_add, Nat.div_one, Nat.div_one]; omega)
      have e0 : ¬ (((k + 1 : Nat) : Int) < 0) := by omega
      have e1 : ¬ (((k + 1 : Nat) : Int) > IntKind.i64.max) := by
        have : IntKind.i64.max = 9223372036854775807 := by decide
        rw [this]; omega
      have e2 : ¬ (((k + 1 : Nat) : Int) = 0) := by omega
      refine (Sem.run_bind (P := P) (w := w) (asInt (.int ik ((k + 1 : Nat) : Int))) _).trans ?_
      simp only [asInt, asIntOf, Sem.run_bind, Sem.run_pure, Result.andThen_ok, h0, e0, e1, e2, if_false, elemOf, run_und hu, Int.toNat_natCast, hva, if_true, hlb, run_freeze, fold_push, h5]
      rfl
    | _ => exact .bad
  · exact .bad
theorem sliceData_ok (s : Sim P G M ρ h w) (ts : Array TypeId) (ty : TypeId) {x : SV} {y : Value} (hx : VR ρ x y) : ValOK P G M ρ h w ((Builtin.unsafeSliceData_ ts ty #[y]).run P w) (sliceData x h) := by
  unfold sliceData
  split
  · cases hx with
    | @slc _ b _ _ _ _ cap' hb hc he hr =>
      refine .quiet s (x := .pointer (some ⟨b.block, b.off + _, none⟩)) ?_ (.ptr _ hb)
      obtain ⟨k, rfl⟩ : ∃ k, cap' = k + 1 := ⟨cap' - 1, by omega⟩
      rfl
  · exact .bad
end
end Go.Play

/- Play: the operations: maps, iterators, assertions, panics. -/
namespace Go.Play
set_option linter.unusedVariables false
set_option linter.unusedSimpArgs false
section
variable {P : Program} {G : Glob} {M : Nat → Prop} {ρ : Env} {h : H} {w : World}

-- keys
theorem sameK_ok {d : TypeDesc} {k k' : Value} {b : Bool} (h : sameK d k k' = some b) : Instr.sameNow d k k' = some b := by
  unfold sameK at h
  split at h
  · cases k <;> cases k' <;> first | (cases h; done) | skip
    rename_i a x c y
    simp only [] at h
    cases hk : Nat.beq (kIdx a) (kIdx c) with
    | false => rw [hk] at h; cases h
    | true =>
      rw [hk] at h
      cases h
      obtain rfl := kIdx_inj hk
      rw [iEq_eq]
      simp only [Instr.sameNow, if_true]
  · cases k <;> cases k' <;> first | (cases h; done) | skip
    cases h
    rw [← str_eq]
    rfl
  · cases k <;> cases k' <;> first | (cases h; done) | skip
    cases h
    rfl
  · cases h
theorem sameK_bits {d : TypeDesc} {k k' : Value} (h : sameK d k k' = some true) (n : Nat) : Instr.sameBits n k' k = true := by
  have h0 := sameK_ok h
  clear h
  unfold Instr.sameNow at h0
  split at h0
  · rename_i a x c y
    split at h0
    · rename_i e; subst e
      have h0 : (x == y) = true := by injection h0
      rw [beq_iff_eq] at h0; subst h0
      unfold Instr.sameBits; simp
    · cases h0
  · rename_i x y
    have h0 : (x == y) = true := by injection h0
    have h2 : x = y := by
      have e : (x == y) = (x.data == y.data) := rfl
      rw [e, beq_iff_eq] at h0
      cases x; cases y; cases h0; rfl
    subst h2
    unfold Instr.sameBits; exact h0
  · rename_i x y
    have h0 : (x == y) = true := by injection h0
    rw [beq_iff_eq] at h0; subst h0
    unfold Instr.sameBits; simp
  · cases h0
/-- What was found among the entries of a map. -/
def Found (ρ : Env) (es : List (SV × SV × Nat)) (ms : List MapEntry) (i : Nat) (r : Option (Nat × SV)) (r' : Option (Nat × Value)) : Prop :=
  match r with
  | none => r' = none
  | some (j, v) => ∃ x n e, j = i + n ∧ r' = some (j, x) ∧ VR ρ v x ∧ ms[n]? = some e ∧ n < ms.length
theorem Found.next {es : List (SV × SV × Nat)} {ms : List MapEntry} {p : SV × SV × Nat} {m : MapEntry} {i : Nat} {r : Option (Nat × SV)} {r' : Option (Nat × Value)} (h : Found ρ es ms (i + 1) r r') : Found ρ (p :: es) (m :: ms) i r r' := by
  cases r with
  | none => exact h
  | some q =>
    obtain ⟨j, v⟩ := q
    obtain ⟨x, n, e, h1, h2, h3, h4, h5⟩ := h
    exact ⟨x, n + 1, e, by omega, h2, h3, by simpa using h4, by simp; omega⟩
theorem findK_ok {d : TypeDesc} {k : Value} {es : List (SV × SV × Nat)} {ms : List MapEntry} (he : ER ρ es ms) : ∀ {i : Nat} {r : Option (Nat × SV)}, findK d k es i = some r →
    ∃ r', Instr.findNow d k ms i = some r' ∧ Found ρ es ms i r r' ∧ ∀ j v, r = some (j, v) → ∃ kv, (nthK (j - i) es) = .lit kv ∧ Instr.sameBits 10000 kv k = true := by
  induction he with
  | nil => intro i r hr; cases hr; exact ⟨none, rfl, rfl, fun j v e => by cases e⟩
  | @cons k1 key1 v1 x1 b1 l m hk hv ht ih =>
    intro i r hr
    change findK2 (sameKS k1 d k) i v1 (findK d k l) = some r at hr
    cases hs : sameKS k1 d k with
    | none => rw [hs] at hr; cases hr
    | some b =>
      rw [hs] at hr
      cases k1 with
      | lit kv =>
        cases hk
        have hs : sameK d k key1 = some b := hs
        have hn := sameK_ok hs
        cases b with
        | true =>
          cases hr
          refine ⟨some (i, x1), ?_, ⟨x1, 0, _, rfl, rfl, hv, rfl, by simp⟩, fun j v e => ?_⟩
          · unfold Instr.findNow
            simp only [hn]
          · cases e
            rw [Nat.sub_self]
            exact ⟨key1, rfl, sameK_bits hs _⟩
        | false =>
          change findK d k l (Nat.succ i) = some r at hr
          obtain ⟨r', h1, h2, h3⟩ := ih hr
          refine ⟨r', ?_, h2.next, fun j v e => ?_⟩
          · unfold Instr.findNow
            simp only [hn]; exact h1
          · subst e
            obtain ⟨x, n, e, q1, _⟩ := h2
            obtain ⟨kv, q2, q3⟩ := h3 j v rfl
            refine ⟨kv, ?_, q3⟩
            rw [show j - i = (j - Nat.succ i) + 1 by omega]
            exact q2
      | _ => cases hs
theorem findA_ok {kt : TypeId} {k' : Value} {e : SV → Option Bool} {es : List (SV × SV × Nat)} {ms : List MapEntry} (heq : ∀ (a : SV) (a' : Value) (b : Bool), VR ρ a a' → e a = some b → (Op.equal kt k' a').run P w = .ok b w) (he : ER ρ es ms) :
    ∀ {i : Nat} {r : Option (Nat × SV)}, findA e es i = some r → ∃ r', (Instr.findAsking kt k' ms i).run P w = .ok r' w ∧ Found ρ es ms i r r' := by
  induction he with
  | nil => intro i r hr; cases hr; exact ⟨none, rfl, rfl⟩
  | @cons k1 key1 v1 x1 b1 l m hk hv ht ih =>
    intro i r hr
    change findK2 (e k1) i v1 (findA e l) = some r at hr
    cases hs : e k1 with
    | none => rw [hs] at hr; cases hr
    | some b =>
      rw [hs] at hr
      have hq := heq k1 key1 b hk hs
      cases b with
      | true =>
        cases hr
        refine ⟨some (i, x1), ?_, ⟨x1, 0, _, rfl, rfl, hv, rfl, by simp⟩⟩
        simp only [Instr.findAsking, Sem.run_bind, hq, Result.andThen_ok, if_true, Sem.run_pure]
      | false =>
        change findA e l (Nat.succ i) = some r at hr
        obtain ⟨r', h1, h2⟩ := ih hr
        refine ⟨r', ?_, h2.next⟩
        simp only [Instr.findAsking, Sem.run_bind, hq, Result.andThen_ok, Bool.false_eq_true, if_false]
        exact h1

-- equality by the type
theorem eqF_ok {xs ys : List SV} {xs' ys' : Array Value} (hx : VRL ρ xs xs'.toList) (hy : VRL ρ ys ys'.toList) {e : TypeId → SV → SV → Option Bool} {n : Nat} (heq : ∀ (t : TypeId) (a b : SV) (a' b' : Value) (r : Bool), VR ρ a a' → VR ρ b b' → e t a b = some r → (Op.equalIn n t a' b').run P w = .ok r w) :
    ∀ (fs : List Field) {r : Bool}, eqF e P xs ys fs = some r → (Op.eqFields n xs' ys' fs).run P w = .ok r w := by
  intro fs
  induction fs with
  | nil => intro r hr; cases hr; rfl
  | cons f fs ih =>
    intro r hr
    unfold eqF at hr
    split at hr
    · rename_i hn
      have hn : f.name = "_" := by simpa using hn
      simp only [Op.eqFields, hn, ne_eq, not_true_eq_false, if_false]
      exact ih hr
    · rename_i hn
      have hn : f.name ≠ "_" := by simpa using hn
      split at hr
      · rename_i a b ha hb
        obtain ⟨a', h1, h2⟩ := part_ok (w := w) ha hx
        obtain ⟨b', h3, h4⟩ := part_ok (w := w) hb hy
        split at hr
        · rename_i hq
          have := heq _ _ _ _ _ _ h2 h4 hq
          simp only [Op.eqFields, ne_eq, hn, not_false_eq_true, if_true, Sem.run_bind, h1, h3, Result.andThen_ok, this, Bool.not_true, Bool.false_eq_true, if_false]
          exact ih hr
        · rename_i hq
          cases hr
          have := heq _ _ _ _ _ _ h2 h4 hq
          simp only [Op.eqFields, ne_eq, hn, not_false_eq_true, if_true, Sem.run_bind, h1, h3, Result.andThen_ok, this, Bool.not_false, if_true, Sem.run_pure]
        · cases hr
      · cases hr
theorem eqS_ok (s : Sim P G M ρ h w) : ∀ (k n : Nat) (t : TypeId) (a b : SV) (a' b' : Value) (r : Bool), VR ρ a a' → VR ρ b b' → eqS P h k n t a b = some r → (Op.equalIn n t a' b').run P w = .ok r w := by
  intro k
  induction k with
  | zero => intro n t a b a' b' r _ _ hr; unfold eqS at hr; cases hr
  | succ k ih =>
    intro n t a b a' b' r ha hb hr
    cases n with
    | zero => unfold eqS at hr; cases hr
    | succ n =>
      have slow : (match opEq P h t a b with
          | some r => some r
          | none => eqS2 (eqS P h k n) P t a b) = some r → (Op.equalIn (n + 1) t a' b').run P w = .ok r w := by
        intro hr
        cases ho : opEq P h t a b with
        | some q =>
          rw [ho] at hr
          cases hr
          exact (opEq_ok s ha hb ho).2.1 n
        | none =>
          rw [ho] at hr
          simp only [] at hr
          unfold eqS2 at hr
          split at hr
          · rename_i fs xs ys hu hst hxs hys
            obtain ⟨xs', rfl, hx⟩ := aggCells_ok ha hxs
            obtain ⟨ys', rfl, hy⟩ := aggCells_ok hb hys
            have hu' := undO_some hu
            have hf : P.fieldsOf t = fs := by unfold Program.fieldsOf; rw [hu']
            rw [run_equalIn_struct w n t xs' ys' (by rw [hf]; exact hu') hst, hf]
            exact eqF_ok hx hy (fun t a b a' b' r h1 h2 h3 => ih n t a b a' b' r h1 h2 h3) fs.toList hr
          · cases hr
      unfold eqS at hr
      split at hr
      · cases ha; cases hb
        split at hr
        · rename_i q hq; cases hr; exact still_ok hq
        · cases hr
      · exact slow hr
theorem keyFields_ok {cs : List SV} {cs' : Array Value} (hc : VRL ρ cs cs'.toList) (em : Bool) (n : Nat) : ∀ (fs : List Field), keyFields P cs fs = true →
    (forIn (m := Sem) fs PUnit.unit fun f _ =>
      if f.name ≠ "_" then (do
        let p ← Go.part f.type cs' f.offset
        Instr.checkKey em (n + 1) f.type p
        pure (ForInStep.yield PUnit.unit) : Sem (ForInStep PUnit))
      else pure (ForInStep.yield PUnit.unit)).run P w = .ok PUnit.unit w := by
  intro fs
  induction fs with
  | nil => intro _; rfl
  | cons f fs ih =>
    intro h
    unfold keyFields at h
    rw [List.forIn_cons]
    split at h
    · rename_i hn
      have hn : f.name = "_" := by simpa using hn
      simp only [hn, ne_eq, not_true_eq_false, if_false, Sem.run_bind, Sem.run_pure, Result.andThen_ok]
      exact ih h
    · rename_i hn
      have hn : f.name ≠ "_" := by simpa using hn
      split at h
      · rename_i v hp hv
        obtain ⟨x, h1, h2⟩ := part_ok (w := w) hv hc
        have hck : (Instr.checkKey em (n + 1) f.type x).run P w = .ok () w := by
          cases hu : undO P f.type with
          | none => rw [hu] at hp; cases hp
          | some d =>
            rw [hu] at hp
            unfold Instr.checkKey
            simp only [Sem.run_bind, run_und hu, Result.andThen_ok]
            cases d <;> first | (cases hp; done) | (cases x <;> rfl)
        simp only [ne_eq, hn, not_false_eq_true, if_true, Sem.run_bind, h1, Result.andThen_ok, hck, Sem.run_pure]
        exact ih h
      · cases h
theorem keyStruct_ok {kt : TypeId} {d : TypeDesc} {k : SV} {k' : Value} (hu : undO P kt = some d) (hk : VR ρ k k') (h : keyStruct P d k = true) (em : Bool) : (Instr.checkKey em 10000 kt k').run P w = .ok () w ∧ ∃ fs, d = .struct fs := by
  unfold keyStruct at h
  split at h
  · rename_i fs cs hcs
    obtain ⟨cs', rfl, hc⟩ := aggCells_ok hk hcs
    refine ⟨?_, fs, rfl⟩
    have hf := keyFields_ok (P := P) (w := w) hc em 9998 fs.toList h
    unfold Instr.checkKey
    simp only [Sem.run_bind, run_und hu, Result.andThen_ok]
    rw [← Array.forIn_toList]
    refine (congrArg (fun r => Result.andThen r _) hf).trans ?_
    rfl
  · cases h
theorem run_checkKey {kt : TypeId} {d : TypeDesc} {k : Value} (hu : undO P kt = some d) (hk : keyOk d = true) (b : Bool) : (Instr.checkKey b 10000 kt k).run P w = .ok () w := by
  unfold Instr.checkKey
  simp only [Sem.run_bind, run_und hu, Result.andThen_ok]
  cases d <;> first | (cases hk; done) | (cases k <;> rfl)
theorem run_findKey {kt : TypeId} {d : TypeDesc} {k : Value} {ms : List MapEntry} {r : Option (Nat × Value)} (hu : undO P kt = some d) (hf : Instr.findNow d k ms 0 = some r) : (Instr.findKey kt k ms).run P w = .ok r w := by
  simp only [Instr.findKey, Sem.run_bind, run_und hu, Result.andThen_ok, hf, Sem.run_pure]
theorem okTup_rel (ok : Bool) {v : SV} {x : Value} (hv : VR ρ v x) (b : Bool) : VR ρ (okTup ok v b) (if ok then .tuple #[x, .bool b] else x) := by
  cases ok with
  | false => exact hv
  | true => exact .tup (.cons hv (.cons (.lit _) .nil))
theorem mapEs_ok (s : Sim P G M ρ h w) {m : SV} {m' : Value} {es : List (SV × SV × Nat)} (hm : VR ρ m m') (he : mapEs m h = some es) : ∃ ms : Array MapEntry, ER ρ es ms.toList ∧
    (m' = .map none ∧ ms = #[] ∨ ∃ r k, m' = .map (some r) ∧ w.heap[r]? = some (.map ms k)) := by
  unfold mapEs at he
  split at he
  · cases hm; cases he; exact ⟨#[], .nil, .inl ⟨rfl, rfl⟩⟩
  · rename_i o
    cases hm with
    | @mapv _ b hb =>
      cases ho : hget h o with
      | mapo es' k own =>
        rw [ho] at he
        cases he
        obtain ⟨xs, hk, her⟩ := obj_map s hb ho
        exact ⟨xs, her, .inr ⟨_, k, rfl, hk⟩⟩
      | _ => rw [ho] at he; cases he
  · cases he
/-- What is looked for among the entries of a map. -/
theorem findS_ok (s : Sim P G M ρ h w) {kt : TypeId} {d : TypeDesc} {k : SV} {k' : Value} (hd : undO P kt = some d) (hk : VR ρ k k') {es : List (SV × SV × Nat)} {ms : List MapEntry} (he : ER ρ es ms) {r : Option (Nat × SV)} (hr : findS P h kt d k es = some r) :
    (∀ em, (Instr.checkKey em 10000 kt k').run P w = .ok () w) ∧ ∃ r', (Instr.findKey kt k' ms).run P w = .ok r' w ∧ Found ρ es ms 0 r r' ∧ ((keyOk d = true ∧ ∃ kv, k = .lit kv) → ∀ j v, r = some (j, v) → ∃ kv, nthK j es = .lit kv ∧ Instr.sameBits 10000 kv k' = true) := by
  have slow : ¬ (keyOk d = true ∧ ∃ kv, k = .lit kv) → findS2 P h kt d k es = some r → (∀ em, (Instr.checkKey em 10000 kt k').run P w = .ok () w) ∧ ∃ r', (Instr.findKey kt k' ms).run P w = .ok r' w ∧ Found ρ es ms 0 r r' ∧ ((keyOk d = true ∧ ∃ kv, k = .lit kv) → ∀ j v, r = some (j, v) → ∃ kv, nthK j es = .lit kv ∧ Instr.sameBits 10000 kv k' = true) := by
    intro hn hr2
    clear hr
    unfold findS2 at hr2
    split at hr2
    · rename_i hks
      obtain ⟨fs, rfl⟩ := (keyStruct_ok (w := w) hd hk hks true).2
      obtain ⟨r', h1, h2⟩ := findA_ok (kt := kt) (k' := k') (fun a a' b ha hb => eqS_ok s 8 10000 kt k a k' a' b hk ha hb) he hr2
      refine ⟨fun em => (keyStruct_ok hd hk hks em).1, r', ?_, h2, fun q => absurd q hn⟩
      cases he with
      | nil =>
        have e : Instr.findNow (.struct fs) k' [] 0 = some none := rfl
        have : r' = none := by
          have : (Instr.findAsking kt k' [] 0).run P w = .ok none w := rfl
          rw [this] at h1; cases h1; rfl
        subst this
        simp only [Instr.findKey, Sem.run_bind, run_und hd, Result.andThen_ok, e, Sem.run_pure]
      | @cons k1 key1 v1 x1 b1 l m hkk hv ht =>
        have e : Instr.findNow (.struct fs) k' ({ key := key1, val := x1, born := b1 } :: m) 0 = none := by
          unfold Instr.findNow
          have : Instr.sameNow (.struct fs) k' key1 = none := by unfold Instr.sameNow; cases k' <;> cases key1 <;> rfl
          simp only [this]
        simp only [Instr.findKey, Sem.run_bind, run_und hd, Result.andThen_ok, e, h1]
    · cases hr2
  unfold findS at hr
  split at hr
  · rename_i kv hko
    cases hk
    obtain ⟨r', h1, h2, h3⟩ := findK_ok he hr
    refine ⟨fun em => run_checkKey hd hko em, r', run_findKey hd h1, h2, fun _ j v e => ?_⟩
    have := h3 j v e
    rw [Nat.sub_zero] at this
    exact this
  · rename_i hne
    exact slow (fun ⟨q1, kv, q2⟩ => hne kv q1 q2) hr
theorem lookup_ok (s : Sim P G M ρ h w) (ty : TypeId) {m k : SV} {m' k' : Value} (hm : VR ρ m m') (hk : VR ρ k k') (ok : Bool) :
    ValOK P G M ρ h w ((Instr.lookup ty m' k' ok).run P w) (lookup1 P h ty m k ok) := by
  unfold lookup1
  split
  · rename_i kt el hu
    split
    · rename_i es d hes hd
      obtain ⟨ms, her, hcase⟩ := mapEs_ok s hm hes
      cases hf : findS P h kt d k es with
      | none => exact .bad
      | some r =>
        obtain ⟨hck, r', hfk, hfound, _⟩ := findS_ok s hd hk her hf
        have hrun : (Instr.lookup ty m' k' ok).run P w = ((do
            let (v, ok') ← match ← Instr.findKey kt k' ms.toList with
              | some (_, v) => pure (v, true)
              | none => pure (← zeroValue el, false)
            pure (if ok then Value.tuple #[v, .bool ok'] else v) : Sem Value)).run P w := by
          rcases hcase with ⟨rfl, rfl⟩ | ⟨r, q, rfl, hr⟩
          · simp only [Instr.lookup, Sem.run_bind, run_und hu, Result.andThen_ok, Sem.run_pure, hck]; rfl
          · simp only [Instr.lookup, Sem.run_bind, run_und hu, Result.andThen_ok, Sem.run_pure, run_getMap hr, hck]; rfl
        rw [hrun]
        cases r with
        | none =>
          have hfound : r' = none := hfound
          subst hfound
          change ValOK P G M ρ h w _ (match zeroO P el with
            | some z => .val (okTup ok (.lit z) false) h
            | none => .bad)
          cases hz : zeroO P el with
          | none => exact .bad
          | some z =>
            refine .quiet s (x := if ok then .tuple #[z, .bool false] else z) ?_ (okTup_rel ok (.lit z) false)
            simp only [Sem.run_bind, hfk, Result.andThen_ok, run_zero hz, Sem.run_pure]
        | some p =>
          obtain ⟨j, v⟩ := p
          obtain ⟨x, n, e, h1, rfl, h3, _⟩ := hfound
          refine .quiet s (x := if ok then .tuple #[x, .bool true] else x) ?_ (okTup_rel ok h3 true)
          simp only [Sem.run_bind, hfk, Result.andThen_ok, Sem.run_pure]
    · exact .bad
  · exact .bad

-- updates
theorem ER.put {k : SV} {key : Value} {v : SV} {x : Value} (hk : VR ρ k key) (hv : VR ρ v x) : ∀ (i : Nat) {es : List (SV × SV × Nat)} {ms : List MapEntry}, ER ρ es ms → ER ρ (mapPut i k v es) (ms.modify i fun e => { e with key := key, val := x }) := by
  intro i
  induction i with
  | zero =>
    intro es ms he
    cases he with
    | nil => exact .nil
    | cons _ h t => exact .cons hk hv t
  | succ i ih =>
    intro es ms he
    cases he with
    | nil => exact .nil
    | cons hk h t => exact .cons hk h (ih t)
theorem ER.append {es fs : List (SV × SV × Nat)} {ms ns : List MapEntry} (h : ER ρ es ms) (k : ER ρ fs ns) : ER ρ (es ++ fs) (ms ++ ns) := by
  induction h with
  | nil => exact k
  | cons hk h _ ih => exact .cons hk h ih
theorem ER.key {es : List (SV × SV × Nat)} {ms : List MapEntry} (h : ER ρ es ms) : ∀ (n : Nat) {e : MapEntry}, ms[n]? = some e → VR ρ (nthK n es) e.key := by
  induction h with
  | nil => intro n e he; simp at he
  | cons hk h _ ih =>
    intro n e he
    cases n with
    | zero => simp at he; subst he; exact hk
    | succ n => exact ih n (by simpa using he)
theorem cellSame_ok {a b : SV} {x y : Value} (ha : VR ρ a x) (hb : VR ρ b y) (h : cellSame a b = true) : Instr.sameBits 9999 x y = true := by
  unfold cellSame at h
  split at h
  · cases ha; cases hb; exact h
  · rw [Bool.and_eq_true] at h
    have e1 := (Pa.beq_iff _ _).1 h.1
    have e2 := Nat.eq_of_beq_eq_true h.2
    subst e1 e2
    cases ha with
    | ptr _ h1 =>
      cases hb with
      | ptr _ h2 =>
        rw [h1] at h2; cases h2
        unfold Instr.sameBits
        simp
  · cases h
theorem cellsSame_ok : ∀ {l m : List SV} {xs ys : List Value}, VRL ρ l xs → VRL ρ m ys → cellsSame l m = true → xs.length = ys.length ∧ (xs.zip ys).all (fun (x, y) => Instr.sameBits 9999 x y) = true := by
  intro l
  induction l with
  | nil => intro m xs ys h1 h2 h; cases h1; cases m with
    | nil => cases h2; exact ⟨rfl, rfl⟩
    | cons => unfold cellsSame at h; cases h
  | cons a l ih =>
    intro m xs ys h1 h2 h
    cases m with
    | nil => unfold cellsSame at h; cases h
    | cons b m =>
      cases h1 with | cons ha t1 =>
        cases h2 with | cons hb t2 =>
          unfold cellsSame at h
          rw [Bool.and_eq_true] at h
          obtain ⟨q1, q2⟩ := ih t1 t2 h.2
          refine ⟨by simp [q1], ?_⟩
          rw [List.zip_cons_cons, List.all_cons, Bool.and_eq_true]
          exact ⟨cellSame_ok ha hb h.1, q2⟩
theorem keySame_ok {d : TypeDesc} {a b : SV} {x y : Value} (ha : VR ρ a x) (hb : VR ρ b y) (h : keySame d a b = true) (hlit : (keyOk d = true ∧ ∃ kv, b = .lit kv) → ∃ kv, a = .lit kv ∧ Instr.sameBits 10000 kv y = true) : Instr.sameBits 10000 x y = true := by
  unfold keySame at h
  split at h
  · rename_i u v hko
    obtain ⟨kv, e, q⟩ := hlit ⟨hko, _, rfl⟩
    cases e
    cases ha
    exact q
  · split at h
    · rename_i xs ys hxs hys
      obtain ⟨xs', rfl, hx⟩ := aggCells_ok ha hxs
      obtain ⟨ys', rfl, hy⟩ := aggCells_ok hb hys
      obtain ⟨q1, q2⟩ := cellsSame_ok hx hy h
      unfold Instr.sameBits
      rw [Bool.and_eq_true]
      exact ⟨by simpa using q1, q2⟩
    · cases h
theorem turn_setMap {r : Nat} {ob nb : Obj} (hk : w.heap[r]? = some ob) : Turn w { w with heap := w.heap.setIfInBounds r nb } r nb := by
  have hlt := lt_of_at hk
  refine ⟨rfl, rfl, rfl, by simp, fun k hk' => ?_, ?_⟩
  · show (w.heap.setIfInBounds r nb)[k]? = _
    rw [Array.getElem?_setIfInBounds_ne (Ne.symm hk')]
  · show (w.heap.setIfInBounds r nb)[r]? = _
    rw [Array.getElem?_setIfInBounds_self_of_lt hlt]
theorem run_setMap {r : Nat} {xs : Array MapEntry} {q : Nat} {nb : Obj} (hk : w.heap[r]? = some (.map xs q)) : (setObj r nb).run P w = .ok () { w with heap := w.heap.setIfInBounds r nb } := by simp [setObj, Sem.run, hk]
theorem mapUpdate_ok (s : Sim P G M ρ h w) (ty : TypeId) {m k v : SV} {m' k' v' : Value} (hm : VR ρ m m') (hk : VR ρ k k') (hv : VR ρ v v') :
    UnitOK P G M ρ h w ((Instr.mapUpdate ty m' k' v').run P w) (mapUpdate1 P h ty m k v) := by
  unfold mapUpdate1
  split
  · rename_i o
    split
    · rename_i es c kt el ho hu
      cases hm with
      | @mapv _ b hb =>
        obtain ⟨xs, hx, her⟩ := obj_map s hb ho
        cases hd : undO P kt with
        | none => trivial
        | some d =>
          simp only []
          cases hf : findS P h kt d k es with
          | none => trivial
          | some r =>
            obtain ⟨hck, r', hfk, hfound, hlit⟩ := findS_ok s hd hk her hf
            cases r with
            | none =>
              have hfound : r' = none := hfound
              subst hfound
              change UnitOK P G M ρ h w _ (putE h o (.mapo (appM es [(k, v, c)]) (Nat.succ c) true) fun h => .val undefS h)
              rw [putE_eq, appM_eq]
              have ht := turn_setMap (nb := .map (xs.push { key := k', val := v', born := c }) (c + 1)) hx
              obtain ⟨s2, g2⟩ := s.put (ob := .mapo (es ++ [(k, v, c)]) (Nat.succ c) true) hb (by rw [ho]; rfl) ht.os ht.tape ht.output ht.size ht.other (by
                rw [ht.here]
                refine .mapo ?_
                rw [Array.toList_push]
                exact her.append (.cons hk hv .nil))
              refine ⟨ρ, _, ?_, rfl, s2, g2⟩
              simp only [Instr.mapUpdate, Sem.run_bind, run_und hu, Result.andThen_ok, run_getMap hx, hck, hfk, run_setMap hx]
            | some p =>
              obtain ⟨j, u⟩ := p
              obtain ⟨x, n, e, h1, rfl, h3, h4, h5⟩ := hfound
              obtain rfl : j = n := by omega
              refine ifB_ok (Q := UnitOK P G M ρ h w _) (e := putE h o (.mapo (mapPut j k v es) c true) fun h => .val undefS h) (by trivial) fun hks => ?_
              rw [putE_eq]
              have hbits : Instr.sameBits 10000 e.key k' = true := keySame_ok (her.key j h4) hk hks fun q => hlit q j u rfl
              have ht := turn_setMap (nb := .map (xs.modify j fun e => { e with key := k', val := v' }) c) hx
              obtain ⟨s2, g2⟩ := s.put (ob := .mapo (mapPut j k v es) c true) hb (by rw [ho]; rfl) ht.os ht.tape ht.output ht.size ht.other (by
                rw [ht.here]
                refine .mapo ?_
                rw [Array.toList_modify]
                exact her.put hk hv j)
              refine ⟨ρ, _, ?_, rfl, s2, g2⟩
              have hkey : ((xs[j]?).map (·.key)).getD k' = e.key := by
                rw [show xs[j]? = some e by rw [← h4]; simp]; rfl
              simp only [Instr.mapUpdate, Sem.run_bind, run_und hu, Result.andThen_ok, run_getMap hx, hck, hfk, hkey, Instr.keyThatStays, hbits, if_true, Sem.run_pure, run_setMap hx]
    · trivial
  · trivial
theorem ER.cutAt : ∀ (i : Nat) {es : List (SV × SV × Nat)} {ms : List MapEntry}, ER ρ es ms → ER ρ (mapCut i es) (ms.eraseIdx i) := by
  intro i
  induction i with
  | zero =>
    intro es ms he
    cases he with
    | nil => exact .nil
    | cons _ h t => exact t
  | succ i ih =>
    intro es ms he
    cases he with
    | nil => exact .nil
    | cons hk h t => exact .cons hk h (ih t)
theorem delete_ok (s : Sim P G M ρ h w) (ts : Array TypeId) (ty : TypeId) {m k : SV} {m' k' : Value} (hm : VR ρ m m') (hk : VR ρ k k') :
    ValOK P G M ρ h w ((Builtin.delete_ ts ty #[m', k']).run P w) (delete1 P h ts m k) := by
  unfold delete1
  split
  · rename_i o
    split
    · rename_i es c kt el ho hut
      obtain ⟨t, h0', hu⟩ := undT_some hut
      have h0 := argT_some h0'
      cases hm with
      | @mapv _ b hb =>
        obtain ⟨xs, hx, her⟩ := obj_map s hb ho
        cases hd : undO P kt with
        | none => exact .bad
        | some d =>
          simp only []
          cases hf : findS P h kt d k es with
          | none => exact .bad
          | some r =>
            obtain ⟨hck, r', hfk, hfound, hlit⟩ := findS_ok s hd hk her hf
            cases r with
            | none =>
              have hfound : r' = none := hfound
              subst hfound
              change ValOK P G M ρ h w _ (putE h o (.mapo es c true) fun h => .val (.lit (.tuple #[])) h)
              rw [putE_eq]
              have ht := turn_setMap (nb := .map xs c) hx
              obtain ⟨s2, g2⟩ := s.put (ob := .mapo es c true) hb (by rw [ho]; rfl) ht.os ht.tape ht.output ht.size ht.other (by
                rw [ht.here]
                exact .mapo her)
              refine ⟨ρ, _, .tuple #[], ?_, .lit _, s2, g2⟩
              simp only [Builtin.delete_, h0, List.getElem?_toArray, List.getElem?_cons_zero, List.getElem?_cons_succ, Sem.run_bind, run_und hu, Result.andThen_ok, run_getMap hx, hck, hfk, run_setMap hx, Sem.run_pure]
            | some p =>
              obtain ⟨j, u⟩ := p
              obtain ⟨x, n, e, h1, rfl, h3, h4, h5⟩ := hfound
              obtain rfl : j = n := by omega
              change ValOK P G M ρ h w _ (putE h o (.mapo (mapCut j es) c true) fun h => .val (.lit (.tuple #[])) h)
              rw [putE_eq]
              have ht := turn_setMap (nb := .map (xs.eraseIdxIfInBounds j) c) hx
              obtain ⟨s2, g2⟩ := s.put (ob := .mapo (mapCut j es) c true) hb (by rw [ho]; rfl) ht.os ht.tape ht.output ht.size ht.other (by
                rw [ht.here]
                refine .mapo ?_
                rw [Array.toList_eraseIdxIfInBounds]
                exact her.cutAt j)
              refine ⟨ρ, _, .tuple #[], ?_, .lit _, s2, g2⟩
              simp only [Builtin.delete_, h0, List.getElem?_toArray, List.getElem?_cons_zero, List.getElem?_cons_succ, Sem.run_bind, run_und hu, Result.andThen_ok, run_getMap hx, hck, hfk, run_setMap hx, Sem.run_pure]
    · exact .bad
  · exact .bad
end
end Go.Play

/- Play: the operations: iterators, assertions, calls. -/
namespace Go.Play
set_option linter.unusedVariables false
set_option linter.unusedSimpArgs false
section
variable {P : Program} {G : Glob} {M : Nat → Prop} {ρ : Env} {h : H} {w : World}

theorem ValOK.new (s : Sim P G M ρ h w) {so : SO} {ob : Obj} {V : SV} {f : Nat → Value} {r : Result Value}
    (hr : r = .ok (f w.heap.size) { w with heap := w.heap.push ob }) (hob : ∀ ρ' : Env, Env.le ρ ρ' → OR P ρ' so ⟨w.heap.size, 0, 0, 0⟩ (some ob))
    (hV : ∀ ρ' : Env, ρ' (nOf h) = some ⟨w.heap.size, 0, 0, 0⟩ → VR ρ' V (f w.heap.size)) :
    ValOK P G M ρ h w r (.val V (hpush h so)) := by
  let b : Loc := ⟨w.heap.size, 0, 0, 0⟩
  have hle : Env.le ρ (ρ.put (nOf h) b) := Env.put_le b s.none_at
  obtain ⟨hs, hg⟩ := s.alloc (b := b) (ob := so) (obj := ob) rfl (hob _ hle)
  exact ⟨_, _, _, hr, hV _ (Env.put_self _ _ _), hs, hg⟩
theorem range_ok (s : Sim P G M ρ h w) (ty : TypeId) {x : SV} {y : Value} (hx : VR ρ x y) : ValOK P G M ρ h w ((Instr.range ty y).run P w) (range1 P h ty x) := by
  unfold range1
  split
  · rename_i str
    cases hx
    refine ifB_ok (Q := ValOK P G M ρ h w _) .bad fun hs => ?_
    rw [newE_eq]
    have hu := isStr_some hs
    refine .new s (f := fun r => .pointer (some ⟨r, 0, none⟩)) (ob := .stringIter str 0) ?_ (fun ρ' _ => .sit rfl) fun ρ' hρ => .ptr (b := ⟨w.heap.size, 0, 0, 0⟩) 0 hρ
    simp only [Instr.range, Sem.run_bind, run_und hu, Result.andThen_ok, Sem.run_pure, run_newObj]
  · cases hx
    refine ifB_ok (Q := ValOK P G M ρ h w _) .bad fun hs => ?_
    rw [newE_eq]
    obtain ⟨_, _, hu⟩ := isMap_some hs
    refine .new s (f := fun r => .pointer (some ⟨r, 0, none⟩)) (ob := .mapIter none 0 #[] 0) ?_ (fun ρ' _ => .mitN rfl) fun ρ' hρ => .ptr (b := ⟨w.heap.size, 0, 0, 0⟩) 0 hρ
    simp only [Instr.range, Sem.run_bind, run_und hu, Result.andThen_ok, Sem.run_pure, run_newObj]
  · rename_i o
    cases hx with
    | @mapv _ b hb =>
      cases ho : hget h o with
      | mapo es c own =>
        simp only []
        refine ifB_ok (Q := ValOK P G M ρ h w _) .bad fun hs => ?_
        rw [newE_eq]
        obtain ⟨_, _, hu⟩ := isMap_some hs
        obtain ⟨xs, hk, her⟩ := obj_map s hb ho
        refine .new s (f := fun r => .pointer (some ⟨r, 0, none⟩)) (ob := .mapIter (some b.block) c #[] c) ?_ (fun ρ' hle => .mitS rfl (hle _ _ hb)) fun ρ' hρ => .ptr (b := ⟨w.heap.size, 0, 0, 0⟩) 0 hρ
        simp only [Instr.range, Sem.run_bind, run_und hu, Result.andThen_ok, Sem.run_pure, run_newObj, run_getMap hk]
      | _ => exact .bad
  · exact .bad
theorem obj_sit (s : Sim P G M ρ h w) {o : Pa} {b : Loc} {str : ByteArray} {pos : Nat} (hb : ρ o = some b) (ho : hget h o = .sit str pos) : w.heap[b.block]? = some (.stringIter str pos) ∧ b.off = 0 := by
  have hlive := s.live o b hb
  rw [ho] at hlive
  cases hk : w.heap[b.block]? with
  | none => rw [hk] at hlive; cases hlive
  | some ob => rw [hk] at hlive; cases hlive with | sit h => exact ⟨rfl, h⟩
theorem obj_mitN (s : Sim P G M ρ h w) {o : Pa} {b : Loc} {since st : Nat} {seen : List Nat} (hb : ρ o = some b) (ho : hget h o = .mit none since seen st) : w.heap[b.block]? = some (.mapIter none since seen.toArray st) ∧ b.off = 0 := by
  have hlive := s.live o b hb
  rw [ho] at hlive
  cases hk : w.heap[b.block]? with
  | none => rw [hk] at hlive; cases hlive
  | some ob => rw [hk] at hlive; cases hlive with | mitN h => exact ⟨rfl, h⟩
theorem obj_mitS (s : Sim P G M ρ h w) {o m : Pa} {b : Loc} {since st : Nat} {seen : List Nat} (hb : ρ o = some b) (ho : hget h o = .mit (some m) since seen st) : ∃ bm, ρ m = some bm ∧ w.heap[b.block]? = some (.mapIter (some bm.block) since seen.toArray st) ∧ b.off = 0 := by
  have hlive := s.live o b hb
  rw [ho] at hlive
  cases hk : w.heap[b.block]? with
  | none => rw [hk] at hlive; cases hlive
  | some ob => rw [hk] at hlive; cases hlive with | mitS h hm => exact ⟨_, hm, rfl, h⟩
theorem run_getIter {r : Nat} {ob : Obj} (hk : w.heap[r]? = some ob) (hn : ∀ c e f, ob ≠ .cells c e f) : (getObj r).run P w = .ok ob w := by
  cases ob <;> first | (exact absurd rfl (hn _ _ _)) | simp [getObj, Sem.run, hk]
theorem run_setIter {r : Nat} {ob nb : Obj} (hk : w.heap[r]? = some ob) (hn : ∀ c e f, ob ≠ .cells c e f) : (setObj r nb).run P w = .ok () { w with heap := w.heap.setIfInBounds r nb } := by
  cases ob <;> first | (exact absurd rfl (hn _ _ _)) | simp [setObj, Sem.run, hk]
theorem next_ok (s : Sim P G M ρ h w) {it : SV} {y : Value} (hx : VR ρ it y) (isS : Bool) (ty : TypeId) : ValOK P G M ρ h w ((Instr.next y isS ty).run P w) (next1 h it isS) := by
  unfold next1
  split
  · rename_i i
    cases hx with
    | @ptr _ b _ hb =>
      split
      · rename_i str pos ho
        obtain ⟨hk, h0⟩ := obj_sit s hb ho
        rw [h0]
        have hg := run_getIter (P := P) hk (by intros; simp)
        split
        · rename_i hlt
          have hlt : pos < str.size := Nat.le_of_ble_eq_true hlt
          rw [putE_eq]
          have ht := turn_setMap (nb := .stringIter str (pos + (Utf8.decode str pos).2)) hk
          obtain ⟨s2, g2⟩ := s.put (ob := .sit str (Nat.add pos (Utf8.decode str pos).2)) hb (by rw [ho]; rfl) ht.os ht.tape ht.output ht.size ht.other (by rw [ht.here]; exact .sit h0)
          refine ⟨ρ, _, .tuple #[.bool true, goInt pos, .int .i32 (Utf8.decode str pos).1], ?_, .lit _, s2, g2⟩
          simp only [Instr.next, Sem.run_bind, hg, Result.andThen_ok, hlt, if_true, Sem.run_pure, run_setIter hk (by intros; simp)]
        · rename_i hlt
          have hlt : ¬ pos < str.size := fun e => by rw [Nat.ble_eq_true_of_le (show Nat.succ pos ≤ str.size from e)] at hlt; cases hlt
          refine .quiet s (x := .tuple #[.bool false]) ?_ (.lit _)
          simp only [Instr.next, Sem.run_bind, hg, Result.andThen_ok, hlt, if_false, Sem.run_pure]
      · rename_i since seen st ho
        obtain ⟨hk, h0⟩ := obj_mitN s hb ho
        rw [h0]
        have hg := run_getIter (P := P) hk (by intros; simp)
        refine .quiet s (x := .tuple #[.bool false]) ?_ (.lit _)
        simp only [Instr.next, Sem.run_bind, hg, Result.andThen_ok, Sem.run_pure]
      · rename_i m since seen st ho
        obtain ⟨bm, hbm, hk, h0⟩ := obj_mitS s hb ho
        rw [h0]
        have hg := run_getIter (P := P) hk (by intros; simp)
        unfold nextM
        split
        · rename_i es clock own hm
          obtain ⟨xs, hkm, her⟩ := obj_map s hbm hm
          obtain ⟨ms⟩ := xs
          have hgm := run_getMap (P := P) hkm
          split
          · cases her
            refine .quiet s (x := .tuple #[.bool false]) ?_ (.lit _)
            simp [Instr.next, Sem.run_bind, hg, hgm, Result.andThen_ok, Sem.run_pure, run_choose, Question.forced]
          · rename_i k v bn
            simp only at her
            obtain ⟨e, rfl, hv, hky, rfl⟩ : ∃ e : MapEntry, ms = [e] ∧ VR ρ v e.val ∧ VR ρ k e.key ∧ e.born = bn := by
              cases her with | cons hk hv t => cases t; exact ⟨_, rfl, hv, hk, rfl⟩
            split
            · rename_i hlt
              have hlt : e.born < since := Nat.le_of_ble_eq_true hlt
              have hng : ¬ since ≤ e.born := by omega
              rw [putE_eq]
              have ht := turn_setMap (nb := .mapIter (some bm.block) since #[e.born] clock) hk
              obtain ⟨s2, g2⟩ := s.put (ob := .mit (some m) since [e.born] clock) hb (by rw [ho]; rfl) ht.os ht.tape ht.output ht.size ht.other (by rw [ht.here]; exact .mitS h0 hbm)
              refine ⟨ρ, _, .tuple #[.bool true, e.key, e.val], ?_, .tup (.cons (.lit _) (.cons hky (.cons hv .nil))), s2, g2⟩
              simp [Instr.next, Sem.run_bind, hg, hgm, Result.andThen_ok, Sem.run_pure, run_choose, Question.forced, hlt, hng, run_setIter hk (by intros; simp)]
            · exact .bad
          · rename_i b' k v bn
            simp only at her
            obtain ⟨e, rfl, hv, hky, rfl⟩ : ∃ e : MapEntry, ms = [e] ∧ VR ρ v e.val ∧ VR ρ k e.key ∧ e.born = bn := by
              cases her with | cons hk hv t => cases t; exact ⟨_, rfl, hv, hk, rfl⟩
            split
            · rename_i h1 h2
              obtain rfl : e.born = b' := Nat.eq_of_beq_eq_true h1
              have hlt : e.born < st := Nat.le_of_ble_eq_true h2
              have hng : ¬ st ≤ e.born := by omega
              refine .quiet s (x := .tuple #[.bool false]) ?_ (.lit _)
              simp [Instr.next, Sem.run_bind, hg, hgm, Result.andThen_ok, Sem.run_pure, run_choose, Question.forced, hlt, hng]
            · exact .bad
          · exact .bad
        · exact .bad
      · exact .bad
  · exact .bad
theorem entry_ok (s : Sim P G M ρ h w) {it : SV} {y : Value} (hx : VR ρ it y) : ValOK P G M ρ h w ((Instr.entry y).run P w) (entry1 h it) := by
  unfold entry1
  split
  · rename_i i
    cases hx with
    | @ptr _ b _ hb =>
      split
      · rename_i m since b' st ho
        obtain ⟨bm, hbm, hk, h0⟩ := obj_mitS s hb ho
        rw [h0]
        have hg := run_getIter (P := P) hk (by intros; simp)
        unfold entryM
        split
        · rename_i k v bn c own hm
          obtain ⟨xs, hkm, her⟩ := obj_map s hbm hm
          obtain ⟨ms⟩ := xs
          have hgm := run_getMap (P := P) hkm
          simp only at her
          obtain ⟨e, rfl, hv, hky, rfl⟩ : ∃ e : MapEntry, ms = [e] ∧ VR ρ v e.val ∧ VR ρ k e.key ∧ e.born = bn := by
            cases her with | cons hk hv t => cases t; exact ⟨_, rfl, hv, hk, rfl⟩
          split
          · rename_i h1 h2
            obtain rfl : c = st := Nat.eq_of_beq_eq_true h1
            obtain rfl : e.born = b' := Nat.eq_of_beq_eq_true h2
            refine .quiet s (x := .tuple #[e.key, e.val]) ?_ (.tup (.cons hky (.cons hv .nil)))
            simp [Instr.entry, Sem.run_bind, hg, hgm, Result.andThen_ok, Sem.run_pure]
          · exact .bad
        · exact .bad
      · exact .bad
  · exact .bad
theorem typeAssert_ok (s : Sim P G M ρ h w) {x : SV} {y : Value} (hx : VR ρ x y) (xT a : TypeId) (ok : Bool) : ValOK P G M ρ h w ((Instr.typeAssert y xT a ok).run P w) (typeAssert1 P h a ok x) := by
  unfold typeAssert1
  refine ifB_ok (Q := ValOK P G M ρ h w _) .bad fun hc => ?_
  obtain ⟨d, hd, hne⟩ := concrete_some hc
  have key : ∀ (t : TypeId) (v : SV) (z : Value), VR ρ v z → ValOK P G M ρ h w ((Instr.typeAssert (.iface t z) xT a ok).run P w) (assertOk (Nat.beq t a) ok v h) := by
    intro t v z hv
    cases hb : Nat.beq t a with
    | false => exact .bad
    | true =>
      obtain rfl : t = a := Nat.eq_of_beq_eq_true hb
      refine .quiet s (x := if ok then .tuple #[z, .bool true] else z) ?_ (okTup_rel ok hv true)
      simp only [Instr.typeAssert, Sem.run_bind, run_und hd, Result.andThen_ok]
      cases d <;> first | exact absurd rfl (hne _) | simp only [if_true, Sem.run_pure]
  split
  · cases hx with | ifc t hv => exact key _ _ _ hv
  · cases hx; exact key _ _ _ (.lit _)
  · exact .bad
end
end Go.Play

/- Play: the operations: calls; every operation. -/
namespace Go.Play
set_option linter.unusedVariables false
set_option linter.unusedSimpArgs false
section
variable {P : Program} {G : Glob} {M : Nat → Prop} {ρ : Env} {h : H} {w : World}

theorem ev_rel {tm : T SV} {ts : Array Value} (ht : TR ρ tm ts) {f : Operand → Value} (hf : ∀ i, f (.tmp i) = ts.getD i undef) (hc : ∀ v, f (.const v) = v) (hg : ∀ g, f (.global g) = .pointer (some ⟨g, 0, none⟩)) (hu : ∀ g, f (.func g) = .func (.func g) #[] #[]) (x : Operand) : VR ρ (ev x tm) (f x) := by
  cases x with
  | tmp i => rw [hf]; exact ht i
  | const v => rw [hc]; exact .lit v
  | global g => rw [hg]; exact .lit _
  | func g => rw [hu]; exact .fn .nil .nil
theorem evL_rel {tm : T SV} {f : Operand → Value} (hev : ∀ x, VR ρ (ev x tm) (f x)) : ∀ l : List Operand, VRL ρ (evL l tm) (l.map f) := by
  intro l
  induction l with
  | nil => exact .nil
  | cons x l ih => exact .cons (hev x) ih

-- calls
theorem next_names : Extern.allNextRows.lookup "internal/abi.NoEscape" = none := by kernel_rfl
theorem next_empty : Extern.allNextRows.lookup "" = none := by kernel_rfl
theorem generic_names : Extern.allGenericRows.lookup "internal/abi.NoEscape" = none := by kernel_rfl
theorem typed_names : Extern.allTypedRows.lookup "internal/abi.NoEscape" = none := by kernel_rfl
theorem all_names : Extern.allRows.lookup "internal/abi.NoEscape" = some Extern.AbiNoEscape.same := by kernel_rfl
theorem run_callFunc_escape {f : FuncId} {fn : Func} (hf : P.funcs[f]? = some fn) (hb : fn.body = none) (hn : fn.name = "internal/abi.NoEscape") (ho : fn.origin = "") (y : Value) : (callFunc f #[y]).run P w = .ok (.value y) w := by
  have h1 : (fn.name == "runtime.NumGoroutine") = false := by rw [hn]; decide
  have h2 : Extern.findNext fn = none := by simp only [Extern.findNext, hn, ho, next_names, next_empty]; rfl
  have h3 : Extern.find fn = some Extern.AbiNoEscape.same := by simp only [Extern.find, hn, ho, generic_names, typed_names, all_names]; rfl
  simp only [callFunc, Sem.run_bind, run_program, Result.andThen_ok, hf, h1, Bool.false_eq_true, if_false, hb, Option.isNone_none, if_true, h2, h3, Sem.run_pure, mark, Sem.run]
  rfl
theorem EffOK.next (s : Sim P G M ρ h w) (q : Sem Next) : EffOK P G M ρ h w (q.run P w) (nextVal P h q) := by
  unfold nextVal
  cases hq : Play.still P q with
  | ok a =>
    cases a with
    | value v => exact .quiet s (still_ok hq) (.lit v)
    | _ => trivial
  | panic v => exact ⟨v, still_panic hq, .lit v⟩
  | no => trivial
theorem call1_ok (s : Sim P G M ρ h w) {f : FuncId} {l : List SV} {xs : Array Value} (hl : VRL ρ l xs.toList) : EffOK P G M ρ h w ((callFunc f xs).run P w) (call1 (funcO P f) P h f l) := by
  cases hf : funcO P f with
  | none => trivial
  | some fn =>
    rw [funcO_eq] at hf
    change EffOK P G M ρ h w _ (call2 fn.body P h f fn l)
    cases hb : fn.body with
    | none =>
      change EffOK P G M ρ h w _ (call3 (lits l) P h f fn l)
      cases hv : lits l with
      | none =>
        change EffOK P G M ρ h w _ (escape fn l h)
        unfold escape
        split
        · rename_i v
          split
          · rename_i hnm
            rw [Bool.and_eq_true, beq_iff_eq, beq_iff_eq] at hnm
            obtain ⟨ys⟩ := xs
            simp only at hl
            cases hl with
            | @cons _ y _ _ hy t =>
              cases t
              exact .quiet s (run_callFunc_escape hf hb hnm.1 hnm.2 y) hy
          · trivial
        · trivial
      | some vs =>
        have := lits_some hv hl
        have e : xs = vs.toArray := by rw [← this]
        subst e
        exact .next s _
    | some c =>
      change EffOK P G M ρ h w _ (call2b (fn.name == "runtime.NumGoroutine") f l)
      cases hn : fn.name == "runtime.NumGoroutine" with
      | true => trivial
      | false =>
        refine ⟨xs, ?_, hl⟩
        simp only [callFunc, Sem.run_bind, run_program, Result.andThen_ok, hf, hn, Bool.false_eq_true, if_false, hb, Option.isNone_some, Sem.run_pure]
theorem callV_ok (s : Sim P G M ρ h w) {g : SV} {g' : Value} (hg : VR ρ g g') {l : List SV} {xs : Array Value} (hl : VRL ρ l xs.toList) :
    EffOK P G M ρ h w ((do let d ← Deferred.ofValue g' xs; invoke d.target d.args : Sem Next).run P w) (callV g P h l) := by
  cases g with
  | fn f a b =>
    cases hg with
    | @fn _ _ _ a' b' ha hb =>
      have hrel : VRL ρ (appS (appS a l) b) ((a' ++ xs) ++ b').toList := by
        rw [appS_eq, appS_eq, Array.toList_append, Array.toList_append]
        exact (ha.append hl).append hb
      exact call1_ok s hrel
  | yld o =>
    cases hg with
    | @yld _ b hb =>
      refine ⟨b, xs, hb, ?_, hl⟩
      simp only [Deferred.ofValue, Sem.run_bind, Sem.run_pure, Result.andThen_ok, invoke, Array.empty_append]
  | _ => trivial
theorem deferV_ok (s : Sim P G M ρ h w) {g : SV} {g' : Value} (hg : VR ρ g g') {l : List SV} {xs : Array Value} (hl : VRL ρ l xs.toList) :
    EffOK P G M ρ h w ((do pure (.defer (← Deferred.ofValue g' xs)) : Sem Next).run P w) (deferV g l) := by
  cases g with
  | fn f a b =>
    cases hg with
    | @fn _ _ _ a' b' ha hb =>
      refine ⟨{ target := .fn (.func f) b', args := a' ++ xs }, rfl, .call ?_⟩
      rw [appS_eq, appS_eq, Array.toList_append, Array.toList_append]
      exact (ha.append hl).append hb
  | _ => trivial
theorem opPanic_ok (s : Sim P G M ρ h w) {x : SV} {y : Value} (hx : VR ρ x y) : EffOK P G M ρ h w ((do pure (Next.value (← Instr.panic y)) : Sem Next).run P w) (opPanic x) := by
  unfold opPanic
  split
  · cases hx with | ifc t hv => exact ⟨_, rfl, .ifc _ hv⟩
  · cases hx; exact ⟨_, rfl, .lit _⟩
  · trivial

-- builtins
theorem arg1_ok {l : List SV} {xs : Array Value} (hl : VRL ρ l xs.toList) {K : SV → Eff} {Q : Eff → Prop} (hbad : Q .bad) (hK : ∀ v y, xs = #[y] → VR ρ v y → Q (K v)) : Q (arg1 l K) := by
  obtain ⟨ys⟩ := xs
  simp only at hl
  cases hl with
  | nil => exact hbad
  | @cons v y l ys h t =>
    cases t with
    | nil => exact hK v y rfl h
    | cons h2 t2 => exact hbad
theorem arg2_ok {l : List SV} {xs : Array Value} (hl : VRL ρ l xs.toList) {K : SV → SV → Eff} {Q : Eff → Prop} (hbad : Q .bad) (hK : ∀ u v x y, xs = #[x, y] → VR ρ u x → VR ρ v y → Q (K u v)) : Q (arg2 l K) := by
  obtain ⟨ys⟩ := xs
  simp only at hl
  cases hl with
  | nil => exact hbad
  | @cons v y l ys h t =>
    cases t with
    | nil => exact hbad
    | cons h2 t2 =>
      cases t2 with
      | nil => exact hK _ _ _ _ rfl h h2
      | cons h3 t3 => exact hbad
theorem litB_ok {l : List SV} {xs : Array Value} (hl : VRL ρ l xs.toList) {K : Array Value → Eff} {Q : Eff → Prop} (hbad : Q .bad) (hK : Q (K xs)) : Q (litB (lits l) K) := by
  cases hv : lits l with
  | none => exact hbad
  | some vs =>
    have := lits_some hv hl
    have e : xs = vs.toArray := by rw [← this]
    rw [e] at hK
    exact hK
theorem builtin_ok (s : Sim P G M ρ h w) (b : Builtin) (ts : Array TypeId) (ty : TypeId) (cs : Array Bool) {l : List SV} {xs : Array Value} (hl : VRL ρ l xs.toList) :
    EffOK P G M ρ h w ((builtin b ts ty cs xs).run P w) (builtinOp b P h ts ty l) := by
  cases b with
  | append => exact arg2_ok (Q := EffOK P G M ρ h w _) hl trivial fun u v x y e hu hv => by rw [e]; exact (append_ok s ts ty hu hv).eff
  | len => exact arg1_ok (Q := EffOK P G M ρ h w _) hl trivial fun v y e hv => by rw [e]; exact (len_ok s ts ty hv).eff
  | copy => exact arg2_ok (Q := EffOK P G M ρ h w _) hl trivial fun u v x y e hu hv => by rw [e]; exact (copy_ok s ts ty hu hv).eff
  | unsafeSliceData => exact arg1_ok (Q := EffOK P G M ρ h w _) hl trivial fun v y e hv => by rw [e]; exact (sliceData_ok s ts ty hv).eff
  | unsafeString => exact arg2_ok (Q := EffOK P G M ρ h w _) hl trivial fun u v x y e hu hv => by rw [e]; exact (unsafeS_ok s ts ty hu hv).eff
  | recover => rfl
  | max => exact litB_ok (Q := EffOK P G M ρ h w _) hl trivial (ValOK.still s _).eff
  | min => exact litB_ok (Q := EffOK P G M ρ h w _) hl trivial (ValOK.still s _).eff
  | cap => exact litB_ok (Q := EffOK P G M ρ h w _) hl trivial (ValOK.still s _).eff
  | _ => trivial
theorem builtinD_ok (s : Sim P G M ρ h w) (b : Builtin) (ts : Array TypeId) (ty : TypeId) (cs : Array Bool) {l : List SV} {xs : Array Value} (hl : VRL ρ l xs.toList) :
    EffOK P G M ρ h w ((builtin b ts ty cs xs).run P w) (builtinD b P h ts ty l) := by
  have H := builtin_ok s b ts ty cs hl
  cases b with
  | delete => exact arg2_ok (Q := EffOK P G M ρ h w _) hl trivial fun u v x y e hu hv => by rw [e]; exact (delete_ok s ts ty hu hv).eff
  | _ => exact H
theorem opCall_ok (s : Sim P G M ρ h w) (c : Call) (ty : TypeId) {tm : T SV} {f : Operand → Value} (hev : ∀ x, VR ρ (ev x tm) (f x)) :
    EffOK P G M ρ h w ((do let d ← resolve f c ty; invoke d.target d.args : Sem Next).run P w) (opCall c.callee P tm h ty c.argTypes c.args.toList) := by
  obtain ⟨callee, args, argTypes⟩ := c
  have hl : VRL ρ (evL args.toList tm) (args.map f).toList := by rw [Array.toList_map]; exact evL_rel hev _
  cases callee with
  | value g => exact callV_ok s (hev g) hl
  | invoke r n => trivial
  | builtin b =>
    have := builtinD_ok s b argTypes ty (args.map fun | .const _ => true | _ => false) hl
    exact this
theorem opDefer_ok (s : Sim P G M ρ h w) (c : Call) (ty : TypeId) {tm : T SV} {f : Operand → Value} (hev : ∀ x, VR ρ (ev x tm) (f x)) :
    EffOK P G M ρ h w ((do pure (.defer (← resolve f c ty)) : Sem Next).run P w) (opDefer c.callee tm c.args.toList) := by
  obtain ⟨callee, args, argTypes⟩ := c
  have hl : VRL ρ (evL args.toList tm) (args.map f).toList := by rw [Array.toList_map]; exact evL_rel hev _
  cases callee with
  | value g => exact deferV_ok s (hev g) hl
  | _ => trivial

/-- Every operation. -/
theorem sop_ok (s : Sim P G M ρ h w) (o : Oper) {tm : T SV} {f : Operand → Value} (hev : ∀ x, VR ρ (ev x tm) (f x)) :
    EffOK P G M ρ h w ((execOp f o).run P w) (sop o.op o.type P G tm h) := by
  obtain ⟨dst, op, ty, pos, after, guard⟩ := o
  cases op with
  | move x => exact .quiet s rfl (hev x)
  | assign x => exact .quiet s rfl (hev x)
  | pick c a b =>
    refine boolV_ok (Q := EffOK P G M ρ h w _) (hev c) trivial fun t ht => ?_
    refine .quiet s (x := if t then f a else f b) ?_ ?_
    · simp only [execOp, Sem.run_bind, ht, asBool, Sem.run_pure, Result.andThen_ok]
    · cases t with
      | false => exact hev b
      | true => exact hev a
  | alloc el => exact (alloc_ok s el).eff
  | box el x => exact (box_ok s el (hev x)).eff
  | build t p => exact (build_ok s t hev p).eff
  | buildSlice t n p => exact (buildSlice_ok s t n hev p).eff
  | load t a => exact (load_ok s t (hev a)).eff
  | store t a x => exact (store_ok s t (hev a) (hev x)).eff
  | nilCheck x => exact nilCheck_ok s (hev x) rfl rfl
  | binOp op xT x y yT => exact (bin_ok s op xT x y (hev x) (hev y)).eff
  | unOp op xT x => exact (un_ok s op (hev x)).eff
  | convert a b x => exact (conv_ok s a b (hev x)).eff
  | makeInterface t x => exact (makeInterface_ok s t (hev x)).eff
  | makeFunc fn a b =>
    refine (makeFunc_ok s fn (a' := a.map f) (b' := b.map f) ?_ ?_).eff
    · rw [Array.toList_map]; exact evL_rel hev _
    · rw [Array.toList_map]; exact evL_rel hev _
  | makeMap t r => exact (makeMap_ok s t r hev).eff
  | makeSlice t l c => exact (makeSlice_ok s t (hev l) (hev c)).eff
  | slice t x lo hi mx => exact (slc_ok s t (hev x) hev lo hi mx).eff
  | fieldAddr t x i => exact (fieldAddr_ok s t (hev x) i).eff
  | field t x i => exact (field_ok s t (hev x) i).eff
  | indexAddr t x i => exact (indexAddr_ok s t (hev x) (hev i)).eff
  | index t x i => exact (index_ok s t (hev x) (hev i)).eff
  | lookup t m k ok => exact (lookup_ok s t (hev m) (hev k) ok).eff
  | mapUpdate t m k v => exact (mapUpdate_ok s t (hev m) (hev k) (hev v)).eff
  | insert t m k v => exact (mapUpdate_ok s t (hev m) (hev k) (hev v)).eff
  | range t x => exact (range_ok s t (hev x)).eff
  | next it isS => exact (next_ok s (hev it) isS ty).eff
  | entry it => exact (entry_ok s (hev it)).eff
  | extract x i => exact (extract_ok s (hev x) i).eff
  | call c => exact opCall_ok s c ty hev
  | defer c => exact opDefer_ok s c ty hev
  | panic x => exact opPanic_ok s (hev x)
  | typeAssert x xT a ok => exact (typeAssert_ok s (hev x) xT a ok).eff
  | _ => trivial
end
end Go.Play
