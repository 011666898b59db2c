/- Play: the operations: conversions, copies, views, maps, iterators. -/
import Derived.Test.YteoegpkfdbcklaaGreatDoorPlayK
namespace Go.Play
set_option linter.unusedVariables false
set_option linter.unusedSimpArgs false
section
variable {P : Program} {G : Glob} {M : Nat → Prop} {ρ : Env} {h : H} {w : World}

theorem pos1_some {n : Option Nat} (h : pos1 n = true) : ∃ k, n = some (k + 1) := by
  unfold pos1 at h
  split at h
  · exact ⟨_, rfl⟩
  · cases h
/-- The block of a live row of cells. -/
theorem obj_live (s : Sim P G M ρ h w) {o : Pa} {b : Loc} {vs : List SV} {e : TypeId} {own : Bool} (hb : ρ o = some b) (ho : hget h o = .cells vs e own) :
    ∃ (c : Array Value) (fr : Nat × Nat), w.heap[b.block]? = some (.cells c e fr) ∧ P.cellsOf e = b.esz ∧ b.off % b.esz = 0 ∧ (own = true → fr = (0, 0)) ∧ b.off + b.room ≤ c.size ∧ vs.length ≤ b.room ∧
      ∀ (i : Nat) (v : SV), vs[i]? = some v → ∃ x : Value, c[b.off + i]? = some x ∧ VR ρ v x := by
  have hlive := s.live o b hb
  rw [ho] at hlive
  cases hk : w.heap[b.block]? with
  | none => rw [hk] at hlive; cases hlive
  | some ob => rw [hk] at hlive; cases hlive with | @cells _ _ _ _ c fr hs hm hf hr hl hv => exact ⟨c, fr, rfl, hs, hm, hf, hr, hl, hv⟩
theorem depth_pos (P : Program) : ∃ n, P.depth = n + 1 := ⟨2 * (P.types.size + Made.depth) + 1, rfl⟩
theorem sameLayout_refl (P : Program) (e : TypeId) : sameLayout P P.depth e e = true := by
  obtain ⟨n, hn⟩ := depth_pos P
  rw [hn]; unfold sameLayout; simp
theorem rowAt_here {P : Program} {fits : TypeId → Bool} {e : TypeId} {count off n k : Nat} (hs : P.cellsOf e = k + 1) (hm : off % (k + 1) = 0) (hc : off / (k + 1) + n ≤ count) (hf : fits e = true) : rowAt P fits P.depth e count off n = true := by
  obtain ⟨d, hd⟩ := depth_pos P
  rw [hd]; unfold rowAt
  rw [hs]
  simp [hm, hc, hf]
theorem run_variablesAt {bk off n k : Nat} {e : TypeId} {c : Array Value} {fr : Nat × Nat} (hk : w.heap[bk]? = some (.cells c e fr)) (hs : P.cellsOf e = k + 1) (hm : off % (k + 1) = 0) (hc : off / (k + 1) + n ≤ c.size / (k + 1)) :
    (variablesAt ⟨bk, off, none⟩ e n).run P w = .ok true w := by
  have hl : liesAt P P.depth e (c.size / P.cellsOf e) off e n = true := by
    obtain ⟨d, hd⟩ := depth_pos P
    rw [hd]; unfold liesAt
    rw [rowAt_here (fits := fun x => sameLayout P P.depth x e) hs hm (by rw [hs]; exact hc) (sameLayout_refl P e)]
    rfl
  simp only [variablesAt, Sem.run_bind, run_program, Result.andThen_ok, run_shape, shape_at hk, Sem.run_pure, hl]
theorem run_seenAt {bk off : Nat} {e : TypeId} {c : Array Value} {fr : Nat × Nat} (hk : w.heap[bk]? = some (.cells c e fr)) : (Conv.seenAt ⟨bk, off, none⟩).run P w = .ok ⟨bk, off, none⟩ w := by
  simp only [Conv.seenAt, viewAt, Sem.run_bind, run_shape, shape_at hk, Result.andThen_ok, Option.isSome_some, if_true, Sem.run_pure]
theorem convPtr_ok (s : Sim P G M ρ h w) (src dst : TypeId) {o : Pa} {b : Loc} (off : Nat) (hb : ρ o = some b) :
    ValOK P G M ρ h w ((Go.convert src dst (.pointer (some ⟨b.block, b.off + off, none⟩))).run P w) (convPtr P h src dst o off) := by
  unfold convPtr
  split
  · rename_i t hu hv
    cases ho : hget h o with
    | cells vs e own =>
      change ValOK P G M ρ h w _ (toUnsafe2 (andB (pos1 (sizeO P t)) (Nat.ble (Nat.succ off) (lenS vs))) h o off)
      rw [andB_eq]
      cases hck : (pos1 (sizeO P t) && Nat.ble (Nat.succ off) (lenS vs)) with
      | false => exact .bad
      | true =>
        rw [Bool.and_eq_true, lenS_eq] at hck
        obtain ⟨k, hk⟩ := pos1_some hck.1
        have hlt : off < vs.length := Nat.le_of_ble_eq_true hck.2
        obtain ⟨c, fr, hc, hs, hm, hf, hr, hl, hvs⟩ := obj_live s hb ho
        refine .quiet s (x := .pointer (some ⟨b.block, b.off + off, none⟩)) ?_ (.ptr off hb)
        have hge : decide (b.off + off ≥ c.size) = false := by simp; omega
        simp only [Go.convert, Sem.run_bind, run_und hu, run_und hv, Result.andThen_ok, Conv.unsafePointer, run_seenAt hc, cellsIn, run_shape, shape_at hc, Sem.run_pure, hge, run_size hk, Bool.false_and, Nat.add_eq_zero_iff, Nat.one_ne_zero, and_false, decide_false, Bool.or_self, Bool.false_eq_true, if_false]
    | _ => exact .bad
  · rename_i t hu hv
    cases ho : hget h o with
    | cells vs e own =>
      change ValOK P G M ρ h w _ (toUnsafe2 (andB (Nat.beq e t) (fitN (sizeO P e) off (lenS vs))) h o off)
      rw [andB_eq]
      cases hck : (Nat.beq e t && fitN (sizeO P e) off (lenS vs)) with
      | false => exact .bad
      | true =>
        rw [Bool.and_eq_true, lenS_eq] at hck
        obtain rfl : e = t := Nat.eq_of_beq_eq_true hck.1
        have hfit : ∃ k, sizeO P e = some (k + 1) ∧ off + (k + 1) ≤ vs.length ∧ off % (k + 1) = 0 := by
          have h2 := hck.2
          cases hn : sizeO P e with
          | none => rw [hn] at h2; cases h2
          | some n => cases n with
            | zero => rw [hn] at h2; cases h2
            | succ k =>
              rw [hn] at h2
              simp only [fitN, Bool.and_eq_true, Nat.ble_eq] at h2
              exact ⟨k, rfl, h2.1, Nat.eq_of_beq_eq_true h2.2⟩
        obtain ⟨k, hk, h1, h2⟩ := hfit
        obtain ⟨c, fr, hc, hs, hm, hf, hr, hl, hvs⟩ := obj_live s hb ho
        have hes := sizeO_cellsOf hk
        rw [← hs, hes] at hm
        have hmod : (b.off + off) % (k + 1) = 0 := by rw [Nat.add_mod, hm, h2]; simp
        have hdiv : (b.off + off) / (k + 1) + 1 ≤ c.size / (k + 1) := by
          rw [Nat.le_div_iff_mul_le (by omega), Nat.add_mul, Nat.div_mul_cancel (Nat.dvd_of_mod_eq_zero hmod)]
          omega
        refine .quiet s (x := .pointer (some ⟨b.block, b.off + off, none⟩)) ?_ (.ptr off hb)
        simp only [Go.convert, Sem.run_bind, run_und hu, run_und hv, Result.andThen_ok, Conv.unsafePointer, run_seenAt hc, run_size hk, run_variablesAt hc hes hmod hdiv, Bool.or_true, if_true, Sem.run_pure]
    | _ => exact .bad
  · exact .bad
theorem conv_ok (s : Sim P G M ρ h w) (src dst : TypeId) {a : SV} {x : Value} (ha : VR ρ a x) : ValOK P G M ρ h w ((Go.convert src dst x).run P w) (conv1 a P h src dst) := by
  cases a with
  | lit v =>
    cases ha
    cases x with
    | int k z =>
      change ValOK P G M ρ h w _ (convInt (undO P dst) P h src dst k z)
      cases hv : undO P dst with
      | none => exact .bad
      | some d =>
        cases d with
        | int k' =>
          refine ifB_ok (Q := ValOK P G M ρ h w _) (e := .val (.lit (.int k' (wrapF k' z))) h) .bad fun hs => ?_
          cases hu : undO P src with
          | none => rw [hu] at hs; cases hs
          | some d2 =>
            refine .quiet s (x := .int k' (k'.wrap z)) ?_ (by rw [wrapF_eq]; exact .lit _)
            simp only [Go.convert, Sem.run_bind, run_und hu, run_und hv, Result.andThen_ok, Conv.intToInt, Sem.run_pure]
        | _ => exact .still s _
    | string str => exact convStr_ok s src dst str
    | _ => exact .still s _
  | slc o off n cap ex => cases ha with | @slc _ b _ _ _ _ cap' hb => exact convSlc_ok s src dst off n cap' hb
  | ptr o off => cases ha with | ptr _ hb => exact convPtr_ok s src dst off hb
  | _ => exact .bad

-- copies
theorem firstCells_take (s : Sim P G M ρ h w) {x : SV} {y : Value} (hx : VR ρ x y) {size n m : Nat} {l : List SV} (hl : sliceC x h size = some l) (hn : lenV x = some n) (hz : l.length = n * size) (hm : m ≤ n) :
    ∃ ys : Array Value, VRL ρ (l.take (m * size)) ys.toList ∧ (Builtin.firstCells size m y).run P w = .ok ys w ∧ (Builtin.lenOf y).run P w = .ok n w := by
  cases x with
  | slc o off len cap ex =>
    cases hx with
    | @slc _ b _ _ _ _ cap' hb hc he hr =>
      cases hn
      obtain ⟨xs, h1, h2, h3⟩ := obj_cells s hb (show cellsAt (hget h o) off (n * size) = some l from hl)
      have hle : m * size ≤ n * size := Nat.mul_le_mul_right _ hm
      refine ⟨(xs.take (m * size)).toArray, by simpa using h2.take (m * size), ?_, rfl⟩
      show (loadCells _ (m * size)).run P w = _
      refine append_run_loads (by rw [List.length_take]; omega) fun j v hj => ?_
      rw [add_at]
      rw [List.getElem?_take] at hj
      split at hj
      · exact h3 j v hj
      · cases hj
  | eslc =>
    cases hx with
    | eslc a c => cases hn; cases hl; obtain rfl : m = 0 := by omega
                  exact ⟨#[], by simpa using VRL.nil, by show (loadCells a (0 * size)).run P w = _; rw [Nat.zero_mul]; rfl, rfl⟩
  | lit v =>
    cases hx
    cases y with
    | slice a len cap =>
      cases a with
      | none =>
        cases len with
        | zero => cases hn; cases hl; exact ⟨#[], by simpa using VRL.nil, rfl, rfl⟩
        | succ k => cases hl
      | some a => cases hl
    | string str =>
      cases hn; cases hl
      refine ⟨(str.extract 0 m).data.map fun b => .int .u8 b.toNat, ?_, by simp only [Builtin.firstCells, Sem.run_pure], rfl⟩
      have hrel := bytes_rel (ρ := ρ) str
      rw [hrel.length, List.length_map, Array.length_toList] at hz
      have hz' : str.size = str.size * size := hz
      have e1 : ((str.extract 0 m).data.map fun b => Value.int .u8 b.toNat).toList = (str.data.toList.map fun b => Value.int .u8 b.toNat).take m := by
        rw [Array.toList_map, ← List.map_take]
        congr 1
        rw [ByteArray.data_extract, Array.toList_extract]
        simp
      rw [e1]
      rcases Nat.eq_zero_or_pos m with h0 | h0
      · subst h0; simpa using VRL.nil
      · have : size = 1 := by
          rcases Nat.lt_trichotomy size 1 with h1 | h1 | h1
          · have : size = 0 := by omega
            subst this; omega
          · exact h1
          · have : str.size * 2 ≤ str.size * size := Nat.mul_le_mul_left _ h1
            omega
        subst this
        rw [Nat.mul_one]
        exact hrel.take m
    | _ => cases hl
  | _ => cases hl
theorem copy_ok (s : Sim P G M ρ h w) (ts : Array TypeId) (ty : TypeId) {x y : SV} {x' y' : Value} (hx : VR ρ x x') (hy : VR ρ y y') :
    ValOK P G M ρ h w ((Builtin.copy_ ts ty #[x', y']).run P w) (copyOp P h ts x y) := by
  unfold copyOp
  cases he : sliceElem (undT (argT ts) P) with
  | none => exact .bad
  | some el =>
    obtain ⟨t, h0', hu⟩ := undT_some (sliceElem_some he)
    have h0 := argT_some h0'
    simp only []
    unfold copy1
    cases ha : lenV x with
    | none => exact .bad
    | some a => cases hb : lenV y with
      | none => exact .bad
      | some b => cases hz : sizeO P el with
        | none => exact .bad
        | some size =>
          simp only []
          cases hc : sliceC y h size with
          | none => exact .bad
          | some cs =>
            simp only []
            unfold copy2
            refine ifB_ok (Q := ValOK P G M ρ h w _) .bad fun hl => ?_
            have hl : cs.length = b * size := by rw [← lenS_eq]; exact Nat.eq_of_beq_eq_true hl
            have key : ∀ n, n = Nat.min b a → ValOK P G M ρ h w ((Builtin.copy_ ts ty #[x', y']).run P w) (copy3 x (takeS (Nat.mul n size) cs) n h) := by
              intro n hn
              have hnb : n ≤ b := by rw [hn]; exact Nat.min_le_left _ _
              obtain ⟨ys, hrel, hf, hlen⟩ := firstCells_take s hy hc hb hl hnb
              unfold copy3
              split
              · rename_i o off len cap ex l hcs
                cases hx with
                | @slc _ bl _ _ _ _ cap' hbl _ _ _ =>
                  cases ha
                  obtain ⟨_, rfl⟩ := takeS_some _ hcs
                  refine store_obj (Q := ValOK P G M ρ h w _) (ys := ys.toList) s hbl hrel .bad fun h' w' hst hs hg _ => ?_
                  refine ⟨ρ, w', goInt n, ?_, .lit _, hs, hg⟩
                  simp only [Builtin.copy_, h0, List.getElem?_toArray, List.getElem?_cons_zero, List.getElem?_cons_succ, Sem.run_bind, run_und hu, Result.andThen_ok, hlen, run_size hz, ← hn, hf, hst, Sem.run_pure]
              · exact .bad
            cases hab : Nat.ble a b with
            | true =>
              have : a ≤ b := Nat.le_of_ble_eq_true hab
              exact key a (Nat.min_eq_right this).symm
            | false =>
              have : b ≤ a := by
                rcases Nat.le_total b a with h1 | h1
                · exact h1
                · rw [Nat.ble_eq_true_of_le h1] at hab; cases hab
              exact key b (Nat.min_eq_left this).symm

-- views of bytes as a string
theorem run_loadBytes (bk o : Nat) : ∀ (ns : List Int) (i : Nat) (acc : ByteArray), (∀ (j : Nat) (n : Int), ns[j]? = some n → w.cell? ⟨bk, o + i + j, none⟩ = some (.int .u8 n)) → (∀ n ∈ ns, 0 ≤ n) →
    (loadBytes ⟨bk, o + i, none⟩ acc ns.length).run P w = .ok (ns.foldl (fun r n => r.push (UInt8.ofNat n.toNat)) acc) w := by
  intro ns
  induction ns with
  | nil => intro i acc _ _; rfl
  | cons n ns ih =>
    intro i acc hc hp
    have h0 := hc 0 n rfl
    simp only [Nat.add_zero] at h0
    have hn : n.toNat.toUInt8 = UInt8.ofNat n.toNat := rfl
    have := ih (i + 1) (acc.push (UInt8.ofNat n.toNat)) (fun j m hj => by
      have := hc (j + 1) m (by simpa using hj)
      rwa [show o + i + (j + 1) = o + (i + 1) + j by omega] at this) (fun m hm => hp m (by simp [hm]))
    simp only [List.length_cons, loadBytes, Sem.run_bind, run_load, h0, Result.andThen_ok, add_at, hn, List.foldl_cons, ← this]
    congr 1
theorem unsafeS_ok (s : Sim P G M ρ h w) (ts : Array TypeId) (ty : TypeId) {p n : SV} {p' n' : Value} (hp : VR ρ p p') (hn : VR ρ n n') :
    ValOK P G M ρ h w ((Builtin.unsafeString_ ts ty #[p', n']).run P w) (unsafeS P h ts p n) := by
  unfold unsafeS
  split
  · rename_i o off k e hN hE
    obtain ⟨b, hb, rfl⟩ : ∃ b, ρ o = some b ∧ p' = .pointer (some ⟨b.block, b.off + off, none⟩) := by cases hp with | ptr _ hb => exact ⟨_, hb, rfl⟩
    obtain ⟨ik, rfl⟩ := asN_some hn hN
    have hu1 : ∃ t, ts[0]? = some t ∧ undO P t = some (.pointer e) := by
      cases hd : undT (argT ts) P with
      | none => rw [hd] at hE; cases hE
      | some d =>
        rw [hd] at hE
        obtain ⟨t, h1, h2⟩ := undT_some hd
        cases d <;> cases hE
        exact ⟨t, argT_some h1, h2⟩
    obtain ⟨t, h0, hu⟩ := hu1
    refine ifB_ok (Q := ValOK P G M ρ h w _) .bad fun hk => ?_
    have hk : k + 1 ≤ 16777216 := Nat.le_of_ble_eq_true hk
    cases ho : hget h o with
    | cells vs e' own =>
      refine ifB_ok (Q := ValOK P G M ρ h w _) (e := ifB (isOne (sizeO P e')) (putE h o (.cells vs e' false) fun h => bytesE (takeS (k + 1) (dropS off vs)) h)) .bad fun hc => ?_
      rw [andB_eq, andB_eq, Bool.and_eq_true, Bool.and_eq_true] at hc
      obtain ⟨⟨rfl, he⟩, hby⟩ := hc
      obtain rfl : e' = e := Nat.eq_of_beq_eq_true he
      refine ifB_ok (Q := ValOK P G M ρ h w _) .bad fun hone => ?_
      have hs1 := isOne_some hone
      have hes := sizeO_cellsOf hs1
      rw [putE_eq]
      refine bytesE_ok (Q := ValOK P G M ρ h w _) .bad fun l bs hl hbs => ?_
      obtain ⟨c, fr, hc, hs, hm, hf, hr, hlen, hvs⟩ := obj_live s hb ho
      obtain rfl : fr = (0, 0) := hf rfl
      obtain ⟨xs, h1, h2, h3⟩ := obj_cells s hb (show cellsAt (hget h o) off (k + 1) = some l by rw [ho]; exact hl)
      obtain ⟨ns, rfl, h5, h6⟩ := bytesOf_rel hbs h2
      rw [List.length_map] at h1
      obtain ⟨h7, _⟩ := takeS_some _ hl
      rw [dropS_eq, List.length_drop] at h7
      have ht := freeze_at hc (b.off + off) (n := k + 1) (by omega)
      obtain ⟨s2, g2⟩ := s.put (w' := w.freeze ⟨b.block, b.off + off, none⟩ (k + 1)) (ob := .cells vs e' false) hb (by rw [ho]; rfl) ht.os ht.tape ht.output ht.size ht.other (by
        rw [ht.here]
        exact .cells hs hm (fun e => by cases e) hr hlen hvs)
      have hlb := run_loadBytes (P := P) (w := w) b.block (b.off + off) ns 0 .empty (fun j n hj => by
        have := h3 j (.int .u8 n) (by rw [List.getElem?_map, hj]; rfl)
        simpa using this) h6
      rw [h1, Nat.add_zero] at hlb
      refine ⟨ρ, _, .string ⟨bs.toArray⟩, ?_, .lit _, s2, g2⟩
      have hva := run_variablesAt (P := P) (w := w) (off := b.off + off) (n := k + 1) (k := 0) hc hes (Nat.mod_one _) (by rw [Nat.zero_add, Nat.div_one, Nat.div_one]; omega)
      have e0 : ¬ (((k + 1 : Nat) : Int) < 0) := by omega
      have e1 : ¬ (((k + 1 : Nat) : Int) > IntKind.i64.max) := by
        have : IntKind.i64.max = 9223372036854775807 := by decide
        rw [this]; omega
      have e2 : ¬ (((k + 1 : Nat) : Int) = 0) := by omega
      refine (Sem.run_bind (P := P) (w := w) (asInt (.int ik ((k + 1 : Nat) : Int))) _).trans ?_
      simp only [asInt, asIntOf, Sem.run_bind, Sem.run_pure, Result.andThen_ok, h0, e0, e1, e2, if_false, elemOf, run_und hu, Int.toNat_natCast, hva, if_true, hlb, run_freeze, fold_push, h5]
      rfl
    | _ => exact .bad
  · exact .bad
theorem sliceData_ok (s : Sim P G M ρ h w) (ts : Array TypeId) (ty : TypeId) {x : SV} {y : Value} (hx : VR ρ x y) : ValOK P G M ρ h w ((Builtin.unsafeSliceData_ ts ty #[y]).run P w) (sliceData x h) := by
  unfold sliceData
  split
  · cases hx with
    | @slc _ b _ _ _ _ cap' hb hc he hr =>
      refine .quiet s (x := .pointer (some ⟨b.block, b.off + _, none⟩)) ?_ (.ptr _ hb)
      obtain ⟨k, rfl⟩ : ∃ k, cap' = k + 1 := ⟨cap' - 1, by omega⟩
      rfl
  · exact .bad
end
end Go.Play
