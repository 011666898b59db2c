/- Play: the operations: append. -/
import Derived.Test.YteoegpkfdbcklaaGreatDoorPlayH
namespace Go.Play
set_option linter.unusedVariables false
set_option linter.unusedSimpArgs false
section
variable {P : Program} {G : Glob} {M : Nat → Prop} {ρ : Env} {h : H} {w : World}

theorem argT_some {ts : Array TypeId} {t : TypeId} (h : argT ts = some t) : ts[0]? = some t := by
  obtain ⟨l⟩ := ts
  cases l with
  | nil => cases h
  | cons a l => cases h; rfl
theorem argT2_some {ts : Array TypeId} {t : TypeId} (h : argT2 ts = some t) : ts[1]? = some t := by
  obtain ⟨l⟩ := ts
  cases l with
  | nil => cases h
  | cons a l => cases l with
    | nil => cases h
    | cons b l => cases h; rfl
theorem undT_some {t : Option TypeId} {d : TypeDesc} (h : undT t P = some d) : ∃ t', t = some t' ∧ undO P t' = some d := by
  cases t with
  | none => cases h
  | some t => exact ⟨t, rfl, h⟩
theorem bytes_rel (s : ByteArray) : VRL ρ (bytesSV s) (s.data.toList.map fun b => Value.int .u8 b.toNat) := by
  unfold bytesSV
  induction s.data.toList with
  | nil => exact .nil
  | cons b l ih => exact .cons (.lit _) ih
theorem append_run_loads {a : Addr} {xs : List Value} {n : Nat} (hn : xs.length = n) (hx : ∀ (j : Nat) (v : Value), xs[j]? = some v → w.cell? (a.add j) = some v) : (loadCells a n).run P w = .ok xs.toArray w := by
  subst hn; exact run_loadCells_list w a xs hx
/-- What is read of a slice or a string, in any world that holds the same cells. -/
theorem firstCells_ok (s : Sim P G M ρ h w) {x : SV} {y : Value} (hx : VR ρ x y) {size n : Nat} {l : List SV} (hl : sliceC x h size = some l) (hn : lenV x = some n) :
    ∃ ys : Array Value, VRL ρ l ys.toList ∧ ∀ w' : World, w'.heap = w.heap → (Builtin.firstCells size n y).run P w' = .ok ys w' ∧ (Builtin.lenOf y).run P w' = .ok n w' := by
  cases x with
  | slc o off len cap ex =>
    cases hx with
    | @slc _ b _ _ _ _ cap' hb hc he hr =>
      cases hn
      obtain ⟨xs, h1, h2, h3⟩ := obj_cells s hb (show cellsAt (hget h o) off (n * size) = some l from hl)
      refine ⟨xs.toArray, by simpa using h2, fun w' hw => ⟨?_, rfl⟩⟩
      show (loadCells _ (n * size)).run P w' = _
      refine append_run_loads h1 fun j v hj => ?_
      rw [add_at]
      have := h3 j v hj
      unfold World.cell? at this ⊢
      rw [hw]; exact this
  | eslc =>
    cases hx with
    | eslc a c => cases hn; cases hl; exact ⟨#[], .nil, fun w' hw => ⟨by show (loadCells a (0 * size)).run P w' = _; rw [Nat.zero_mul]; rfl, rfl⟩⟩
  | lit v =>
    cases hx
    cases y with
    | slice a len cap =>
      cases a with
      | none =>
        cases len with
        | zero => cases hn; cases hl; exact ⟨#[], .nil, fun w' hw => ⟨rfl, rfl⟩⟩
        | succ k => cases hl
      | some a => cases hl
    | string str =>
      cases hn; cases hl
      refine ⟨str.data.map fun b => .int .u8 b.toNat, ?_, fun w' hw => ⟨?_, rfl⟩⟩
      · rw [Array.toList_map]; exact bytes_rel str
      · have e : str.extract 0 str.size = str := ByteArray.extract_zero_size
        simp only [Builtin.firstCells, e, Sem.run_pure]
    | _ => cases hl
  | _ => cases hl
theorem growBy_le (n : Nat) : ∀ (r c : Nat), c ≤ n + (n + 768) / 4 → Builtin.growBy n r c ≤ n + (n + 768) / 4 := by
  intro r
  induction r with
  | zero => intro c h; exact h
  | succ r ih =>
    intro c h
    unfold Builtin.growBy
    split
    · exact h
    · exact ih _ (by omega)
theorem nextslicecap_le {n c : Nat} (h : c < n) : Builtin.nextslicecap n c ≤ 2 * n + 768 := by
  unfold Builtin.nextslicecap
  split
  · omega
  · split
    · omega
    · have := growBy_le n 4 c (by omega); omega
theorem run_append_new {ts : Array TypeId} {sT xT elem ty : TypeId} {i : TypeInfo} {base : Option Addr} {sLen sCap n : Nat} {x' z : Value} {old' new' : Array Value} {d : TypeDesc}
    (h0 : ts[0]? = some sT) (h1 : ts[1]? = some xT) (hs : undO P sT = some (.slice elem)) (hxT : undO P xT = some d) (hd : noInt (some d) = true) (hi : infoO P elem = some i) (hz : i.zero = some z) (hb : i.bytes ≤ 1048576)
    (hlen : ∀ w' : World, w'.heap = w.heap → (Builtin.lenOf x').run P w' = .ok n w') (hnew : ∀ w' : World, w'.heap = w.heap → (Builtin.firstCells i.size n x').run P w' = .ok new' w')
    (hold : ∀ w' : World, w'.heap = w.heap → (Builtin.firstCells i.size sLen (.slice base sLen sCap)).run P w' = .ok old' w') (hcap : sCap < sLen + n) (hneed : sLen + n ≤ 16777216) :
    ∃ newCap, sLen + n ≤ newCap ∧ (Builtin.append_ ts ty #[.slice base sLen sCap, x']).run P w =
      .ok (.slice (some ⟨w.heap.size, 0, none⟩) (sLen + n) newCap) { w with drawn := w.drawn + 1, heap := w.heap.push (.cells (old' ++ new' ++ Builtin.zeroCells z.cells (newCap - (sLen + n))) elem) } := by
  have hsz : sizeO P elem = some i.size := by unfold sizeO; rw [hi]; rfl
  have hzr : zeroO P elem = some z := by unfold zeroO; rw [hi]; exact hz
  have hzeros : (match d with | .int _ => true | _ => false) = false := by cases d <;> first | rfl | cases hd
  let q : Question := .appendCap (sLen + n) sCap elem
  refine ⟨q.cut (w.tape w.drawn q), ?_, ?_⟩
  · show sLen + n ≤ (sLen + n) + _; omega
  · have hnc := nextslicecap_le hcap
    have e1 : ¬ (sLen + n ≤ sCap) := by omega
    have e3 : ¬ (Builtin.nextslicecap (sLen + n) sCap * i.bytes > 2 ^ 48) := by
      have : Builtin.nextslicecap (sLen + n) sCap * i.bytes ≤ 33555200 * 1048576 := Nat.mul_le_mul (by omega) hb
      omega
    have e2 : ¬ (((sLen + n : Nat) : Int) > IntKind.i64.max) := by
      have : IntKind.i64.max = 9223372036854775807 := by decide
      rw [this]; omega
    have hf : q.forced = false := rfl
    have hw1 := hold { w with drawn := w.drawn + 1 } rfl
    have hw2 := hnew { w with drawn := w.drawn + 1 } rfl
    have hz1 : ∀ w' : World, (zeroValue elem).run P w' = .ok z w' := fun w' => run_zero hzr
    have hl0 := hlen w rfl
    simp only [Builtin.append_, h0, h1, List.getElem?_toArray, List.getElem?_cons_zero, List.getElem?_cons_succ, Sem.run_bind, run_und hs, Result.andThen_ok, run_size hsz, run_und hxT, Sem.run_pure, hzeros, hl0]
    cases d with
    | int k => cases hd
    | _ =>
      simp only [Bool.false_eq_true, if_false, Sem.run_bind, hl0, Result.andThen_ok, e1, e2, e3, false_and, run_info (infoO_some hi), run_choose, hf, run_askRoom, hw1, hw2, hz1, Bool.not_false, if_true, newRow, run_newObj, Sem.run_pure, q]
theorem run_append_fit {ts : Array TypeId} {sT xT elem ty : TypeId} {i : TypeInfo} {a : Addr} {sLen sCap n : Nat} {x' : Value} {new' : Array Value} {d : TypeDesc} {w' : World}
    (h0 : ts[0]? = some sT) (h1 : ts[1]? = some xT) (hs : undO P sT = some (.slice elem)) (hxT : undO P xT = some d) (hd : noInt (some d) = true) (hi : infoO P elem = some i)
    (hlen : (Builtin.lenOf x').run P w = .ok n w) (hnew : (Builtin.firstCells i.size n x').run P w = .ok new' w) (hcap : sLen + n ≤ sCap) (hst : (storeCells (a.add (sLen * i.size)) new'.toList).run P w = .ok () w') :
    (Builtin.append_ ts ty #[.slice (some a) sLen sCap, x']).run P w = .ok (.slice (some a) (sLen + n) sCap) w' := by
  have hsz : sizeO P elem = some i.size := by unfold sizeO; rw [hi]; rfl
  simp only [Builtin.append_, h0, h1, List.getElem?_toArray, List.getElem?_cons_zero, List.getElem?_cons_succ, Sem.run_bind, run_und hs, Result.andThen_ok, run_size hsz, run_und hxT, Sem.run_pure, hlen]
  cases d with
  | int k => cases hd
  | _ =>
    simp only [Bool.false_eq_true, if_false, Sem.run_bind, hlen, Result.andThen_ok, hcap, if_true, hnew, Bool.not_false, hst, Sem.run_pure]
theorem run_append_nil {ts : Array TypeId} {sT xT elem ty : TypeId} {i : TypeInfo} {x' : Value} {new' : Array Value} {d : TypeDesc}
    (h0 : ts[0]? = some sT) (h1 : ts[1]? = some xT) (hs : undO P sT = some (.slice elem)) (hxT : undO P xT = some d) (hd : noInt (some d) = true) (hi : infoO P elem = some i)
    (hlen : (Builtin.lenOf x').run P w = .ok 0 w) (hnew : (Builtin.firstCells i.size 0 x').run P w = .ok new' w) :
    (Builtin.append_ ts ty #[.slice none 0 0, x']).run P w = .ok (.slice none 0 0) w := by
  have hsz : sizeO P elem = some i.size := by unfold sizeO; rw [hi]; rfl
  simp only [Builtin.append_, h0, h1, List.getElem?_toArray, List.getElem?_cons_zero, List.getElem?_cons_succ, Sem.run_bind, run_und hs, Result.andThen_ok, run_size hsz, run_und hxT, Sem.run_pure, hlen]
  cases d with
  | int k => cases hd
  | _ =>
    simp only [Bool.false_eq_true, if_false, Sem.run_bind, hlen, Result.andThen_ok, Nat.add_zero, Nat.le_refl, if_true, hnew, Bool.not_false, Sem.run_pure]

/-- The new row of an append. -/
theorem append_row (s : Sim P G M ρ h w) {cs : List SV} {ys zs : Array Value} {el : TypeId} {need newCap size : Nat} {r : Result Value} (hrel : VRL ρ cs ys.toList) (hle : need ≤ newCap)
    (hys : ys.size = need * size) (hzs : zs.size = (newCap - need) * size) (hes : P.cellsOf el = size)
    (hr : r = .ok (.slice (some ⟨w.heap.size, 0, none⟩) need newCap) { w with drawn := w.drawn + 1, heap := w.heap.push (.cells (ys ++ zs) el) }) :
    ValOK P G M ρ h w r (.val (.slc (nOf h) 0 need need false) (hpush h (.cells cs el true))) := by
  have hs1 : Sim P G M ρ h { w with drawn := w.drawn + 1 } := s.drew rfl
  have hg1 : Grow M ρ h w ρ h { w with drawn := w.drawn + 1 } := .drew rfl rfl rfl rfl
  have hsum : need * size + (newCap - need) * size = newCap * size := by rw [← Nat.add_mul]; congr 1; omega
  have key : ValOK P G M ρ h { w with drawn := w.drawn + 1 } r (.val (.slc (nOf h) 0 need need false) (hpush h (.cells cs el true))) := by
    refine .alloc (f := fun k => .slice (some ⟨k, 0, none⟩) need newCap) (xs := ys ++ zs) hs1 hr ?_ ?_ ?_
    · rw [hrel.length, Array.length_toList, Array.size_append]; omega
    · intro i v hi
      obtain ⟨x, hx, hv⟩ := hrel.get i v hi
      have hlt : i < ys.size := by
        rcases Nat.lt_or_ge i ys.size with h1 | h1
        · exact h1
        · rw [List.getElem?_eq_none (by simpa using h1)] at hx; cases hx
      exact ⟨x, by rw [Array.getElem?_append_left hlt]; simpa using hx, hv⟩
    · intro ρ' _ hn
      have := VR.slc (ρ := ρ') 0 need need false newCap hn hle (fun e => by cases e) (fun _ => by
        show 0 + newCap * P.cellsOf el ≤ (ys ++ zs).size
        rw [hes, Array.size_append, hys, hzs, hsum, Nat.zero_add]; exact Nat.le_refl _)
      simpa using this
  obtain ⟨ρ', w', x, h1, h2, h3, h4⟩ := key
  exact ⟨ρ', w', x, h1, h2, h3, hg1.trans h4⟩
theorem append_ok (s : Sim P G M ρ h w) (ts : Array TypeId) (ty : TypeId) {x y : SV} {x' y' : Value} (hx : VR ρ x x') (hy : VR ρ y y') :
    ValOK P G M ρ h w ((Builtin.append_ ts ty #[x', y']).run P w) (appendOp P h ts x y) := by
  unfold appendOp
  refine ifB_ok (Q := ValOK P G M ρ h w _) .bad fun hni => ?_
  cases hd2 : undT (argT2 ts) P with
  | none => rw [hd2] at hni; cases hni
  | some d =>
    rw [hd2] at hni
    obtain ⟨xT, h1', hxT⟩ := undT_some hd2
    have h1 := argT2_some h1'
    cases hd1 : undT (argT ts) P with
    | none => exact .bad
    | some d1 =>
      obtain ⟨sT, h0', hsT⟩ := undT_some hd1
      have h0 := argT_some h0'
      cases d1 with
      | slice el =>
        change ValOK P G M ρ h w _ (app00 (infoO P el) h x y el)
        cases hi : infoO P el with
        | none => exact .bad
        | some i =>
          refine ifB_ok (Q := ValOK P G M ρ h w _) (e := app1 (sliceC y h i.size) (lenV y) x h i.size el) .bad fun hk => ?_
          cases hz : i.zero with
          | none => rw [hz] at hk; cases hk
          | some z =>
            rw [hz] at hk
            change andB (Nat.beq (lenS (litCells z)) i.size) (Nat.ble i.bytes 1048576) = true at hk
            rw [andB_eq, Bool.and_eq_true] at hk
            have hzl : z.cells.size = i.size := by
              rw [← Array.length_toList, ← (litCells_rel (ρ := ρ) z).length, ← lenS_eq]; exact Nat.eq_of_beq_eq_true hk.1
            have hby : i.bytes ≤ 1048576 := Nat.le_of_ble_eq_true hk.2
            have hsz : sizeO P el = some i.size := by unfold sizeO; rw [hi]; rfl
            have hes : P.cellsOf el = i.size := sizeO_cellsOf hsz
            have hzc : ∀ k, (Builtin.zeroCells z.cells k).size = k * i.size := fun k => by simp [Builtin.zeroCells, hzl]
            cases hl : sliceC y h i.size with
            | none => exact .bad
            | some xs =>
              cases hn : lenV y with
              | none => exact .bad
              | some n =>
                obtain ⟨ys, hrel, hrun⟩ := firstCells_ok s hy hl hn
                refine ifB_ok (Q := ValOK P G M ρ h w _) (e := app2 x h xs n i.size el) .bad fun hxn => ?_
                have hxl : xs.length = n * i.size := by rw [← lenS_eq]; exact Nat.eq_of_beq_eq_true hxn
                have hyl : ys.size = n * i.size := by rw [← Array.length_toList, ← hrel.length]; exact hxl
                cases x with
                | lit v =>
                  cases hx
                  unfold app2
                  change ValOK P G M ρ h w _ (app2v x' h xs n el)
                  unfold app2v
                  split
                  · cases n with
                    | zero => exact .quiet s (run_append_nil h0 h1 hsT hxT hni hi (hrun w rfl).2 (hrun w rfl).1) (.lit _)
                    | succ n =>
                      refine ifB_ok (Q := ValOK P G M ρ h w _) (e := newE h (.cells xs el true) fun i h => .val (.slc i 0 (n + 1) (n + 1) false) h) .bad fun hle => ?_
                      have hle : n + 1 ≤ 16777216 := Nat.le_of_ble_eq_true hle
                      rw [newE_eq]
                      obtain ⟨nc, hnc, hr⟩ := run_append_new (w := w) (ty := ty) (base := none) (sLen := 0) (sCap := 0) (old' := #[]) h0 h1 hsT hxT hni hi hz hby (fun w' hw => (hrun w' hw).2) (fun w' hw => (hrun w' hw).1) (fun w' hw => rfl) (by omega) (by omega)
                      rw [Nat.zero_add] at hnc hr
                      exact append_row s hrel hnc hyl (hzc _) hes (by rw [hr]; simp)
                  · exact .bad
                | slc o off len cap ex =>
                  cases hx with
                  | @slc _ b _ _ _ _ cap' hb hc he hr =>
                    change ValOK P G M ρ h w _ (app3 (Nat.ble (Nat.add len n) cap) h o off len cap ex xs n i.size el)
                    cases hfit : Nat.ble (Nat.add len n) cap with
                    | true =>
                      have hfit : len + n ≤ cap := Nat.le_of_ble_eq_true hfit
                      refine store_obj (Q := ValOK P G M ρ h w _) (ys := ys.toList) s hb hrel .bad fun h' w' hst hs hg hnx => ?_
                      refine ⟨ρ, w', _, run_append_fit h0 h1 hsT hxT hni hi (hrun w rfl).2 (hrun w rfl).1 (Nat.le_trans hfit hc) ?_, .slc off _ _ ex cap' hb hc he hr, hs, hg⟩
                      rw [add_at, Nat.add_assoc]; exact hst
                    | false =>
                      have hnf : cap < len + n := by
                        rcases Nat.lt_or_ge cap (len + n) with h2 | h2
                        · exact h2
                        · have hfit' : Nat.ble (len + n) cap = false := hfit
                          rw [Nat.ble_eq_true_of_le h2] at hfit'; cases hfit'
                      change ValOK P G M ρ h w _ (app4 (cellsAt (hget h o) off (Nat.mul len i.size)) ex h o off len xs n i.size el)
                      cases hold : cellsAt (hget h o) off (Nat.mul len i.size) with
                      | none => exact .bad
                      | some old =>
                        refine ifB_ok (Q := ValOK P G M ρ h w _) (e := app5 ex h o off len old xs n i.size el) .bad fun hle => ?_
                        have hle : len + n ≤ 16777216 := Nat.le_of_ble_eq_true hle
                        obtain ⟨os, ho1, ho2, ho3⟩ := obj_cells s hb hold
                        have hfo : ∀ w' : World, w'.heap = w.heap → (Builtin.firstCells i.size len (.slice (some ⟨b.block, b.off + off, none⟩) len cap')).run P w' = .ok os.toArray w' := fun w' hw => by
                          show (loadCells _ (len * i.size)).run P w' = _
                          refine append_run_loads ho1 fun j v hj => ?_
                          rw [add_at]
                          have := ho3 j v hj
                          unfold World.cell? at this ⊢
                          rw [hw]; exact this
                        have hrel2 : VRL ρ (old ++ xs) (os.toArray ++ ys).toList := by
                          rw [Array.toList_append]; exact ho2.append hrel
                        have hsz2 : (os.toArray ++ ys).size = (len + n) * i.size := by
                          rw [Array.size_append, hyl, List.size_toArray, ho1, Nat.add_mul]; rfl
                        have fresh : cap' < len + n → ∀ h2 : H, Sim P G M ρ h2 w → (nOf h2 = nOf h) →
                            ValOK P G M ρ h2 w ((Builtin.append_ ts ty #[.slice (some ⟨b.block, b.off + off, none⟩) len cap', y']).run P w) (.val (.slc (nOf h2) 0 (len + n) (len + n) false) (hpush h2 (.cells (old ++ xs) el true))) := by
                          intro hlt h2 s2 _
                          obtain ⟨nc, hnc, hr⟩ := run_append_new (w := w) (ty := ty) (base := some ⟨b.block, b.off + off, none⟩) (sLen := len) (sCap := cap') (old' := os.toArray) h0 h1 hsT hxT hni hi hz hby (fun w' hw => (hrun w' hw).2) (fun w' hw => (hrun w' hw).1) hfo hlt hle
                          exact append_row s2 hrel2 hnc hsz2 (hzc _) hes hr
                        cases ex with
                        | true =>
                          change ValOK P G M ρ h w _ (newE h (.cells (appS old xs) el true) fun i h => .val (.slc i 0 (Nat.add len n) (Nat.add len n) false) h)
                          rw [newE_eq, appS_eq]
                          exact fresh (by rw [he rfl]; exact hnf) h s rfl
                        | false =>
                          change ValOK P G M ρ h w _ (app6 (hget h o) h o off len old xs n i.size el)
                          have hlive := s.live o b hb
                          cases hob : hget h o with
                          | cells vs e own =>
                            rw [hob] at hlive
                            cases own with
                            | false => exact .bad
                            | true =>
                              change ValOK P G M ρ h w _ (app8 (andB (Nat.beq e el) (andB (Nat.beq (Nat.mod off i.size) 0) (oneL xs))) h o (Nat.add len n) (appS old xs) el)
                              rw [andB_eq, andB_eq]
                              cases hck : (Nat.beq e el && (Nat.beq (Nat.mod off i.size) 0 && oneL xs)) with
                              | false => exact .bad
                              | true =>
                                simp only [Bool.and_eq_true] at hck
                                obtain ⟨k1, k2, k3⟩ := hck
                                have k1 : e = el := Nat.eq_of_beq_eq_true k1
                                have k2 : off % i.size = 0 := Nat.eq_of_beq_eq_true k2
                                subst k1
                                change ValOK P G M ρ h w _ (putE h o .none fun h => newE h (.cells (appS old xs) e true) fun i h => .val (.slc i 0 (Nat.add len n) (Nat.add len n) false) h)
                                rw [putE_eq, newE_eq, appS_eq]
                                obtain ⟨s2, g2⟩ := s.put (w' := w) (ob := .none) hb (by rw [hob]; rfl) rfl rfl rfl rfl (fun _ _ => rfl) (.none _ _)
                                rcases Nat.lt_or_ge cap' (len + n) with hlt | hge
                                · obtain ⟨ρ', w', v, q1, q2, q3, q4⟩ := fresh hlt _ s2 (nOf_put _ _ _)
                                  exact ⟨ρ', w', v, q1, q2, q3, g2.trans q4⟩
                                · -- in place
                                  have hr := hr rfl
                                  cases hk2 : w.heap[b.block]? with
                                  | none => rw [hk2] at hlive; cases hlive
                                  | some obj =>
                                    rw [hk2] at hlive
                                    cases hlive with
                                    | @cells _ _ _ _ c fr hs hm hf hroom hlen hvs =>
                                      obtain rfl : fr = (0, 0) := hf rfl
                                      have hesz : b.esz = i.size := by rw [← hs]; exact hes
                                      rw [hesz] at hr hm
                                      have hcapm : (len + n) * i.size ≤ cap' * i.size := Nat.mul_le_mul_right _ hge
                                      have hmul : (len + n) * i.size = len * i.size + n * i.size := Nat.add_mul _ _ _
                                      obtain ⟨w', c', hst, ht, hz', hc'⟩ := run_storeCells (P := P) (o := b.off + off + len * i.size) ys.toList 0 c w hk2 (by rw [Array.length_toList, hyl]; omega) (oneL_rel hrel k3)
                                      let b' : Loc := ⟨b.block, b.off + off, b.room - off, i.size⟩
                                      have hn0 := s2.none_at
                                      have hle' : Env.le ρ (ρ.put (nOf (hput h o .none)) b') := Env.put_le b' hn0
                                      have hblt := lt_of_at hk2
                                      obtain ⟨s3, g3⟩ := s2.push (w' := w') (b := b') (ob := .cells (old ++ xs) e true) ht.os ht.tape ht.output (Nat.le_of_eq ht.size.symm) (by rw [ht.size]; exact hblt) (fun k hk _ => ht.other k hk)
                                        (s.mine o b hb (by rw [hob]; rfl))
                                        (fun o' bb hb' hn' e' => by
                                          rw [hget_put] at hn'
                                          split at hn'
                                          · exact absurd rfl hn'
                                          · rename_i hne
                                            exact hne (s.apart o' o bb b hb' hb hn' (by rw [hob]; simp) e'))
                                        (by
                                          rw [show b'.block = b.block from rfl, ht.here]
                                          refine .cells (show P.cellsOf e = i.size from hes) (show (b.off + off) % i.size = 0 by rw [Nat.add_mod, hm, k2]; simp) (fun _ => rfl) (show b.off + off + (b.room - off) ≤ c'.size by rw [hz']; omega) (show (old ++ xs).length ≤ b.room - off by rw [hrel2.length, Array.length_toList, hsz2]; omega) fun j v hj => ?_
                                          show ∃ x, c'[b.off + off + j]? = some x ∧ _
                                          rw [hc']
                                          rw [Array.length_toList, hyl]
                                          have hol : old.length = len * i.size := by rw [ho2.length, ho1]; rfl
                                          by_cases hj2 : j < old.length
                                          · rw [List.getElem?_append_left hj2] at hj
                                            rw [if_neg (by omega)]
                                            obtain ⟨x, hx1, hx2⟩ := ho2.get _ _ hj
                                            have := ho3 j x hx1
                                            rw [cell_at hk2] at this
                                            exact ⟨x, this, hx2.mono hle'⟩
                                          · rw [List.getElem?_append_right (by omega)] at hj
                                            have hlt2 : j - old.length < xs.length := by
                                              rcases Nat.lt_or_ge (j - old.length) xs.length with h2 | h2
                                              · exact h2
                                              · rw [List.getElem?_eq_none h2] at hj; cases hj
                                            rw [hxl] at hlt2
                                            rw [if_pos (by omega)]
                                            obtain ⟨x, hx1, hx2⟩ := hrel.get _ _ hj
                                            exact ⟨x, by rw [← hx1]; congr 1; omega, hx2.mono hle'⟩)
                                      refine ⟨_, w', _, run_append_fit h0 h1 hsT hxT hni hi (hrun w rfl).2 (hrun w rfl).1 hge (by rw [add_at]; exact hst), ?_, s3, g2.trans g3⟩
                                      exact VR.slc (b := b') 0 (len + n) (len + n) false cap' (Env.put_self _ _ _) hge (fun e => by cases e) fun _ => by
                                        show 0 + cap' * i.size ≤ b.room - off
                                        omega
                          | _ => exact .bad
                | _ => exact .bad
      | _ => exact .bad
end
end Go.Play
