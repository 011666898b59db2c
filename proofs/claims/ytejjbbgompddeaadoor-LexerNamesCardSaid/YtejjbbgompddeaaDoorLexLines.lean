/- Lines of package lexer. -/
import Derived.Test.YtejjbbgompddeaaDoorLexIter
import Derived.RangeFuncWrites
import Derived.Stop.RegionWithIn
import Derived.OrdersIn
namespace Go.Proofs.YtejjbbgompddeaaDoor
open Go.RowKit Go.Shelf
set_option linter.unusedVariables false
set_option linter.unusedSimpArgs false
attribute [local go_sem] Oper.semAt_some

theorem rows_info : (Tryd.prog.info? 23).map (fun i => (i.zero, i.size, i.bytes)) = some (some (.slice none 0 0), 1, 24) := by kernel_rfl
/-- The lines that have come lie in rows of their own. -/
def RowsOf (W : World) (n₀ : Nat) (ls : List (List Raw)) (vals : List Value) : Prop := ls.length = vals.length ∧ ∀ (j : Nat) (ln : List Raw), ls[j]? = some ln → ∃ v, vals[j]? = some v ∧ W.ownsRow n₀ 29 4 v ln.length (rawRow ln)
theorem RowsOf.kept {W W' : World} {n₀ : Nat} {ls : List (List Raw)} {vals : List Value} {row : Option Nat} (h : RowsOf W n₀ ls vals) (hg : W.grownBy W' row) (hr : ∀ r, row = some r → ∀ c fz, W.heap[r]? ≠ some (.cells c 29 fz)) : RowsOf W' n₀ ls vals := by
  refine ⟨h.1, fun j ln hj => ?_⟩
  obtain ⟨v, hv, ho⟩ := h.2 j ln hj
  refine ⟨v, hv, ho.kept hg ?_⟩
  rcases ho.2 with ⟨rfl, _⟩ | ⟨g, cap, cur, rfl, _, hgb, _⟩
  · exact .inl rfl
  · refine .inr (fun e => ?_)
    exact hr g e.symm _ _ hgb
structure LInv (w0 w : World) (n₀ : Nat) (pre : List (LEl w0 n₀)) (W : World) : Prop where
  below : Below n₀ w W
  size : n₀ + 2 ≤ W.heap.size
  box : ∃ v vals, Boxed W n₀ 36 v ∧ W.ownsRow (n₀ + 2) 23 1 v pre.length vals ∧ RowsOf W n₀ (pre.map LEl.ln) vals
theorem LInv.own_from {w0 w : World} {n₀ B : Nat} (hB : n₀ + 2 ≤ B) (hw : n₀ ≤ w.heap.size) : OwnFrom B (fun (pre : List (LEl w0 n₀)) W => LInv w0 w n₀ pre W) := fun s A B' row hs hg hr => by
  obtain ⟨v, vals, h1, h2, h3⟩ := hs.box
  have hne : ∀ k : Nat, k < n₀ + 2 → some k ≠ row := fun k hk e => by have := (hr k e.symm).1; omega
  refine ⟨hs.below.grown hg (Nat.le_trans hw hs.below.size) (fun k e => by have := (hr k e).1; omega), Nat.le_trans hs.size hg.size, v, vals, h1.kept hg (hne _ (by omega)), h2.kept hg ?_, h3.kept hg (fun r e c fz h => by
    obtain ⟨_, o, ho, hc⟩ := hr r e
    rw [ho] at h; cases h; cases hc)⟩
  rcases h2.2 with ⟨rfl, _⟩ | ⟨g, cap, cur, rfl, _, hgb, _⟩
  · exact .inl rfl
  · refine .inr (fun e => ?_)
    obtain ⟨_, o, ho, hc⟩ := hr g e.symm
    rw [ho] at hgb; cases hgb; cases hc
theorem LKp.putObj {n₀ Bt : Nat} {w : World} (hn : n₀ ≤ w.heap.size) (W : World) (l : Nat) (o o' : Obj) (hl : w.heap.size ≤ l) (h : W.heap[l]? = some o) (ho : o.isCells = false) (hw : o.isWalk = false) : LKp n₀ Bt W (W.putObj l o') :=
  ⟨belowK_b hn W l o o' hl h ho hw, fun c e f hc => by
    by_cases hkl : Bt = l
    · subst hkl; rw [h] at hc; cases hc; simp [Obj.isCells] at ho
    · exact (World.putObj_heap_other hkl).trans hc⟩
theorem below_swap2 {B : Nat} {a b c : World} (h1 : Below B a b) (h2 : Below B a c) (hs : b.heap.size ≤ c.heap.size) : Below B b c :=
  ⟨h2.os.trans h1.os.symm, h2.tape.trans h1.tape.symm, h2.output.trans h1.output.symm, hs, fun k hk => (h2.block k hk).trans (h1.block k hk).symm⟩
/-- The append in a drawing region, its run being known. -/
theorem stepIn_append_run {F : Fence} {n : Nat} {P : Program} {o : Oper} {a : Act} {w w' : World} {v' : Value} {K : Act → World → Prop} {Q : Exit → Act → World → Prop} (s x : Operand) (t : TypeId) (hg : o.guard = none)
    (hop : o.op = Op.call { callee := Callee.builtin Builtin.append, args := #[s, x], argTypes := #[t, t] }) (hrun : (Builtin.append_ #[t, t] o.type #[a.eval s, a.eval x]).run P w = .ok v' w') (hK : K (a.put o.dst v') w') : Oper.wpIn F n P o a w K Q := by
  unfold Oper.wpIn
  refine ⟨?_, ?_⟩
  · simp [Oper.about, hop, resolve, Target.leads, Sem.run_pure]
  · rw [Oper.semAt_plain F _ _ (by rw [hop]; intro c hc'; cases hc')]
    simp [execOp, hop, resolve, invoke, builtin, hrun, Result.andThen]
    exact hK
/-- What Lines gives. -/
def LinesGive (n₀ : Nat) (w : World) (L : List Raw) (e : Ending) (w' : World) : Prop := ∃ v vals, e = .returned v ∧ w'.ownsRow n₀ 23 1 v (lnF [] L).length vals ∧ RowsOf w' n₀ (lnF [] L) vals ∧ Below n₀ w w'

theorem own_kept_below {W W' : World} {B n size : Nat} {e : TypeId} {v : Value} {xs : List Value} (h : W.ownsRow B e size v n xs) (hb : Below W.heap.size W W') : W'.ownsRow B e size v n xs :=
  h.kept (grown_below (row := none) hb) (by by_cases e : v.ownBlock = none; exact .inl e; exact .inr e)
theorem own_blk {W : World} {B n size : Nat} {e : TypeId} {v : Value} {xs : List Value} (h : W.ownsRow B e size v n xs) : ∀ k, v.ownBlock = some k → B ≤ k ∧ ∃ c fz, W.heap[k]? = some (.cells c e fz) := by
  rcases h.2 with ⟨rfl, _⟩ | ⟨g, cap, cur, rfl, hg, hh, _⟩
  · intro k hk; cases hk
  · intro k hk; cases hk; exact ⟨hg, _, _, hh⟩
theorem own_part {W W' : World} {B n size : Nat} {e : TypeId} {v : Value} {xs : List Value} {row : Option Nat} (h : W.ownsRow B e size v n xs) (hg : W.grownBy W' row) (hr : ∀ r, row = some r → ∀ c fz, W.heap[r]? ≠ some (.cells c e fz)) : W'.ownsRow B e size v n xs := by
  refine h.kept hg ?_
  cases hv : v.ownBlock with
  | none => exact .inl rfl
  | some k =>
    refine .inr (fun e => ?_)
    obtain ⟨_, c, fz, hk⟩ := own_blk h k hv
    exact hr k e.symm c fz hk
theorem own_low {w : World} {B B' n size : Nat} {e : TypeId} {v : Value} {xs : List Value} (h : w.ownsRow B e size v n xs) (hB : B' ≤ B) : w.ownsRow B' e size v n xs := by
  refine ⟨h.1, ?_⟩
  rcases h.2 with h' | ⟨g, cap, cur, hv, hg, r⟩
  · exact .inl h'
  · exact .inr ⟨g, cap, cur, hv, by omega, r⟩
/-- The append in a round: its run, and what it leaves. -/
theorem lines_app (i0 : TypeInfo) (hi0 : Tryd.prog.info? 23 = some i0) (hz0 : i0.zero = some (.slice none 0 0)) (hz1 : i0.size = 1) (hz2 : i0.bytes = 24) {w0 w : World} {pre : List (LEl w0 w.heap.size)} {W w2 : World} {v : Value} {vals : List Value} {ln : List Raw} {Ac : Option Addr} {cc : Nat} {B : Nat}
    (H : LInv w0 w w.heap.size pre W ∧ Boxed W w.heap.size 36 v ∧ W.ownsRow (w.heap.size + 2) 23 1 v pre.length vals ∧ RowsOf W w.heap.size (pre.map LEl.ln) vals)
    (hb : Below W.heap.size W w2) (hoc : w2.ownsRow B 29 4 (.slice Ac ln.length cc) ln.length (rawRow ln)) (hpl : pre.length ≤ 20100) (hBB : w.heap.size ≤ B) :
    ∃ g cap w5, (Builtin.append_ #[36, 36] 36 #[v, .slice (some ⟨w2.heap.size, 0, none⟩) 1 1]).run Tryd.prog (w2.alloc (.cells #[.slice Ac ln.length cc] 23)) = .ok (.slice (some ⟨g, 0, none⟩) (pre.length + 1) cap) w5 ∧
      w5.cell? ⟨w.heap.size, 0, none⟩ = some v ∧ w5.frozen? ⟨w.heap.size, 0, none⟩ = false ∧
      Hid (∀ x : LEl w0 w.heap.size, x.ln = ln → KeepsOthers W (w5.setCell ⟨w.heap.size, 0, none⟩ (.slice (some ⟨g, 0, none⟩) (pre.length + 1) cap)) ∧ LKp w.heap.size (w.heap.size + 1) W (w5.setCell ⟨w.heap.size, 0, none⟩ (.slice (some ⟨g, 0, none⟩) (pre.length + 1) cap)) ∧
        LInv w0 w w.heap.size (pre ++ [x]) (w5.setCell ⟨w.heap.size, 0, none⟩ (.slice (some ⟨g, 0, none⟩) (pre.length + 1) cap))) := by
  obtain ⟨hi, hbx, hown, hrows⟩ := H
  have hs := hi.size
  have hs2 := hb.size
  obtain ⟨X, hX⟩ : ∃ X, X = w2.alloc (.cells #[.slice Ac ln.length cc] 23) := ⟨_, rfl⟩
  have hbX : Below W.heap.size W X := by rw [hX]; exact hb.alloc hs2 _
  have hbX2 : Below w2.heap.size w2 X := by rw [hX]; exact (Below.refl _ _).alloc (Nat.le_refl _) _
  have hownX := own_kept_below hown hbX
  have hXs := hbX.size
  obtain ⟨v5, w5, hrun, hown5, hg5, _⟩ := run_append_own (P := Tryd.prog) X (w.heap.size + 2) 36 36 23 i0 (.slice none 0 0) 1 24 Tryd.underlying36 hi0 hz0 hz1 hz2 rfl (by decide) v pre.length vals hownX ⟨w2.heap.size, 0, none⟩ 1 1 [.slice Ac ln.length cc] rfl (by rw [hX]; exact cell_one_new _ _ _) (by simp [Value.oneCell']) (by unfold maxLen; omega) (by omega) (by omega)
  obtain ⟨g, cap, rfl⟩ := ownsRow_succ hown5
  have hblk := own_blk hownX
  have hge : ∀ k, v.ownBlock = some k → w.heap.size + 2 ≤ k := fun k hk => (hblk k hk).1
  have hbx5 : Boxed w5 w.heap.size 36 v := (hbx.kept (grown_below (row := none) hbX) (by simp)).kept hg5 (fun e => by have := hge _ e.symm; omega)
  refine ⟨g, cap, w5, by rw [← hX]; exact hrun, hbx5.cell, hbx5.frozen, Lib.hid (fun x hx => ?_)⟩
  have hgs := grownBy_setCell' w5 w.heap.size (.slice (some ⟨g, 0, none⟩) (pre.length + 1) cap)
  have hg5' : ∀ r, some w.heap.size = some r → ∀ c fz, w5.heap[r]? ≠ some (.cells c 29 fz) := fun r e c fz h => by
    cases e
    have := (show w5.heap[w.heap.size]? = _ from hbx5).symm.trans h
    simp at this
  have hg5r : ∀ r, v.ownBlock = some r → ∀ c fz, X.heap[r]? ≠ some (.cells c 29 fz) := fun r e c fz h => by
    obtain ⟨_, c', fz', hk⟩ := hblk r e
    rw [hk] at h
    simp at h
  have hbel5 : Below w.heap.size W w5 := (hbX.mono (by omega)).grown hg5 (by omega) (fun k hk => by have := hge k hk; omega)
  have hbelf := hbel5.setCell (p := ⟨w.heap.size, 0, none⟩) (Nat.le_refl _) (.slice (some ⟨g, 0, none⟩) (pre.length + 1) cap)
  have h5s : X.heap.size ≤ w5.heap.size := hg5.size
  refine ⟨⟨by simp; omega, fun k o hk ho => ?_⟩, ⟨hbelf, fun c e f hc => ?_⟩, ⟨hi.below.trans hbelf, by simp; omega, _, vals ++ [.slice Ac ln.length cc], hbx5.set _, ?_, ?_⟩⟩
  · have hkl : k < W.heap.size := (Array.getElem?_eq_some_iff.1 hk).1
    have hkX : X.heap[k]? = some o := (hbX.block k hkl).trans hk
    have hk5 : w5.heap[k]? = some o := (hg5.block k (by omega) (fun e => by
      obtain ⟨_, c', fz', h'⟩ := hblk k e.symm
      rw [hkX] at h'; cases h'; cases ho)).trans hkX
    refine (Below.heap_setCell w5 ⟨w.heap.size, 0, none⟩ _ k (fun e => ?_)).trans hk5
    subst e
    rw [show w5.heap[w.heap.size]? = _ from hbx5] at hk5
    cases hk5; cases ho
  · have hkl : w.heap.size + 1 < W.heap.size := (Array.getElem?_eq_some_iff.1 hc).1
    refine (Below.heap_setCell w5 ⟨w.heap.size, 0, none⟩ _ _ (by simp)).trans ?_
    refine (hg5.block _ (by omega) (fun e => by have := hge _ e.symm; omega)).trans ?_
    exact (hbX.block _ hkl).trans hc
  · rw [List.length_append]
    refine hown5.kept hgs (.inr (fun e => ?_))
    have := (own_blk hown5 w.heap.size e).1
    omega
  · refine ⟨by rw [List.map_append, List.length_append, List.length_append, hrows.1]; simp, fun j l hj => ?_⟩
    have hlen : (pre.map LEl.ln).length = vals.length := hrows.1
    rw [List.map_append, List.map_cons, List.map_nil] at hj
    rcases Nat.lt_or_ge j (pre.map LEl.ln).length with h | h
    · rw [List.getElem?_append_left h] at hj
      obtain ⟨u, hu, ho⟩ := hrows.2 j l hj
      refine ⟨u, by rw [List.getElem?_append_left (by omega)]; exact hu, ?_⟩
      exact own_part (own_part (own_kept_below ho hbX) hg5 hg5r) hgs hg5'
    · have hj0 : j = (pre.map LEl.ln).length := by
        rcases Nat.lt_or_ge (pre.map LEl.ln).length j with h2 | h2
        · rw [List.getElem?_eq_none (by rw [List.length_append]; simp at h2 ⊢; omega)] at hj; cases hj
        · omega
      subst hj0
      rw [List.getElem?_append_right (Nat.le_refl _), Nat.sub_self] at hj
      simp only [List.getElem?_cons_zero, Option.some.injEq] at hj
      rw [hx] at hj
      subst hj
      refine ⟨.slice Ac ln.length cc, by rw [hlen, List.getElem?_append_right (Nat.le_refl _), Nat.sub_self]; rfl, ?_⟩
      exact own_part (own_part (own_kept_below (own_low hoc hBB) hbX2) hg5 hg5r) hgs hg5'

set_option maxRecDepth 100000 in
set_option maxHeartbeats 4000000 in
theorem lines_gen (F : Fence) (hd : F.depth = none) (hro : F.round = none) (hfn : ∀ k, F.fn k)
    (hC : ∀ {c : FuncId} {args : Array Value} {W : World} {R : Ending → World → Prop} (n : Nat), Calls Tryd.prog c args W R → CallsIn F n Tryd.prog c args W R) (n : Nat) (hn : 3 ≤ n)
    (A : Option Addr) (c : Nat) (L : List Raw) (w : World) (hA : RawAt w A L) (hfit : RawFit L) (hc : L.length ≤ c) (hcm : c ≤ maxLen) :
    CallsIn F n Tryd.prog 13 #[.slice A L.length c] w fun e w' => LinesGive w.heap.size w L e w' := by
  have hroom : ∀ k : Nat, (F.depth.isSome = true → 1 ≤ k) := fun k h => by rw [hd] at h; cases h
  obtain ⟨n₀, hn0⟩ : ∃ n₀, n₀ = w.heap.size := ⟨_, rfl⟩
  have HLI := fun n w => lines_in F n (hfn _) hro A L.length c w
  obtain ⟨i0, hi0, hz0, hz1, hz2⟩ := info_parts rows_info
  refine callsIn_of_wp_marks Tryd.func13 rfl (hfn _) ?_ hro
  simp only [Tryd.ntmps13, List.size_toArray, List.length_cons, List.length_nil, Nat.reduceAdd, Nat.reduceSub, Array.replicate_succ, Array.replicate_zero, List.push_toArray, List.append_toArray, List.nil_append, List.cons_append]
  gi_wp2_with ((try refine ⟨hroom _, ?_⟩); gi_at_call 28; refine (HLI _ _).mono ?_; rintro e w' ⟨rfl, rfl⟩)
  obtain ⟨W0, hW0⟩ : ∃ W0, W0 = (w.alloc (.cells #[.slice none 0 0] 36)).alloc (.cells #[.slice A L.length c] 23) := ⟨_, rfl⟩
  have hsz : W0.heap.size = n₀ + 2 := by rw [hW0, hn0]; simp
  have hbel : Below n₀ w W0 := by rw [hW0, hn0]; exact ((Below.refl _ w).alloc (Nat.le_refl _) _).alloc (by simp) _
  have hbox : Boxed W0 n₀ 36 (.slice none 0 0) := by rw [hW0, hn0]; exact (Boxed.new w _ _).alloc _
  have hlb : W0.heap[n₀ + 1]? = some (.cells #[.slice A L.length c] 23 (0, 0)) := by
    rw [hW0, hn0]
    have := World.alloc_heap_new (w.alloc (.cells #[.slice none 0 0] 36)) (.cells #[.slice A L.length c] 23)
    rwa [World.size_alloc] at this
  have hinv : LInv W0 w n₀ [] W0 := ⟨hbel, by omega, _, [], hbox, ⟨rfl, .inl ⟨rfl, rfl⟩⟩, rfl, fun j ln h => by simp at h⟩
  rw [← hW0]
  clear hW0
  subst hn0
  refine wpIn_rangeFunc_ownG hro (by omega) (gf := 40) (lb := #[.pointer (some ⟨w.heap.size + 1, 0, none⟩)]) rfl (hfn _) (enters_of Tryd.func40 (by kernel_rfl) rfl)
    (lines_stops F hd (n - 1) (hfn _) (hfn _) hro hC W0 (w.heap.size + 1) w.heap.size A c L (RawIn.kept hA.in hbel) hfit hc hcm W0 (Below.refl _ _) (by omega) hlb)
    (fun h k => h.trans k) (LKp.putObj (by omega)) (Below.refl _ _) (fun _ => rfl)
    (fun pre W => LInv W0 w w.heap.size pre W) (fun _ _ _ => False) (LInv.own_from (by omega) (Nat.le_refl _)) (fun _ _ _ _ _ hs _ _ => hs) hinv
    (fun x => { tmps := #[.slice A L.length c, undef, .slice none 0 0, .pointer (some ⟨w.heap.size, 0, none⟩), x.1.1, .slice A L.length c, .func (.func 40) #[] #[.pointer (some ⟨w.heap.size + 1, 0, none⟩)], x.1.1, undef, undef, undef, undef, undef, undef], defers := [] })
    ?assign ?body ?done ?stop
  case assign =>
    intro l x W K hK
    simp only [LEl.encs]
    gi_wp2
    exact hK
  case body =>
    rintro l pre x W hi hlt
    obtain ⟨A', c', hxv, hin⟩ := x.2.1
    have hfl := x.2.2
    obtain ⟨ln, hln⟩ : ∃ ln, x.1.2 = ln := ⟨_, rfl⟩
    rw [hln] at hxv hin hfl
    simp only [hxv]
    have HLN := Lib.hid (show x.ln = ln from hln)
    clear hln hxv
    obtain ⟨v, vals, hbx, hown, hrows⟩ := hi.box
    have c0 := hbx.cell
    have f0 := hbx.frozen
    have HC : Hid (∀ (j : Nat) (X : World), Below W.heap.size W X → CallsIn (F.inRound l) j Tryd.prog 29 #[.slice A' ln.length c'] X fun e w' => ∃ v, e = .returned v ∧ w'.ownsRow X.heap.size 29 4 v ln.length (rawRow ln) ∧ Below X.heap.size X w') := Lib.hid (fun j X hX =>
      (hC j (copied_any A' c' ln X (RawIn.at (hin.kept ((below_swap2 hbel (hi.below.trans (hX.mono hi.below.size))) (by have := hX.size; have := hi.size; omega))) (Nat.le_trans hi.below.size hX.size)) hfl)).inRound l)
    clear HLI
    have HBX := Lib.hid (And.intro hi (And.intro hbx (And.intro hown hrows)))
    have hpl : pre.length ≤ 20100 := by have := hfit.1; omega
    have hnW := hi.below.size
    clear hA hfit hc hcm hbel hbox hlb hinv hrows hlt hin hfl
    gi_wp2
    refine wpIn_region_any (by kernel_rfl) ?_
    change wpAnyIn _ _ _ _ _ _ _ _ _ (World.drew _)
    have hbD : Below W.heap.size W W.drew := ⟨rfl, rfl, rfl, Nat.le_refl _, fun _ _ => rfl⟩
    have hbxl := hbx.lt
    -- ORDERS
    refine wpAnyIn_ready (rs := [0, 1]) (by kernel_rfl) (by simp) ?_
    refine AllReadyIn.cons rfl (fun K hK => ?_) ?_
    · skip
      go_simp
      refine hK _ _ ?_
      clear hK K
      refine wpAnyIn_ready (rs := [1]) (by kernel_rfl) (by simp) ?_
      refine AllReadyIn.cons rfl (fun K hK => ?_) ?_
      · skip
        go_simp
        refine hK _ _ ?_
        clear hK K
        refine wpAnyIn_ready (rs := [2]) (by kernel_rfl) (by simp) ?_
        refine AllReadyIn.cons rfl (fun K hK => ?_) ?_
        · skip
          go_simp
          gi_wp2_with ((try refine ⟨hroom _, ?_⟩); gi_at_call 29; refine (HC.out _ _ hbD).mono ?_; rintro e w2 ⟨vc, rfl, hoc, hbc⟩; obtain ⟨Ac, cc, rfl⟩ := own_slice hoc; have hb2 : Below W.heap.size W w2 := (hbD.trans hbc); obtain ⟨g5, cap5, w5, hrun, hc5, hf5, HE5⟩ := lines_app i0 hi0 hz0 hz1 hz2 HBX.out hb2 hoc hpl hnW; have c2 : w2.cell? ⟨w.heap.size, 0, none⟩ = some v := ((hb2.cell hbx.lt).trans c0); have c3 : ∀ o, (w2.alloc o).cell? ⟨w.heap.size, 0, none⟩ = some v := (fun o => (((Below.refl w2.heap.size w2).alloc (Nat.le_refl _) o).cell (p := ⟨w.heap.size, 0, none⟩) (Nat.lt_of_lt_of_le hbx.lt hb2.size)).trans c2))
          first | (refine hK _ _ ?_; clear hK K) | skip
          refine wpAnyIn_ready (rs := [3]) (by kernel_rfl) (by simp) ?_
          refine AllReadyIn.cons rfl (fun K hK => ?_) ?_
          · skip
            go_simp
            refine hK _ _ ?_
            clear hK K
            refine wpAnyIn_ready (rs := [4]) (by kernel_rfl) (by simp) ?_
            refine AllReadyIn.cons rfl (fun K hK => ?_) ?_
            · skip
              rw [if_pos (by rfl)]
              refine stepIn_append_run _ _ 36 rfl rfl hrun ?_
              refine hK _ _ ?_
              clear hK K
              refine wpAnyIn_ready (rs := [5]) (by kernel_rfl) (by simp) ?_
              refine AllReadyIn.cons rfl (fun K hK => ?_) ?_
              · skip
                go_simp
                refine hK _ _ ?_
                clear hK K
                refine wpAnyIn_done (by kernel_rfl) ?_ _
                obtain ⟨k1, k2, k3⟩ := HE5.out x HLN.out
                exact ⟨k1.from _, k2, k3⟩
              exact AllReadyIn.nil
            exact AllReadyIn.nil
          exact AllReadyIn.nil
        exact AllReadyIn.nil
      exact AllReadyIn.nil
    refine AllReadyIn.cons rfl (fun K hK => ?_) ?_
    · skip
      go_simp
      refine hK _ _ ?_
      clear hK K
      refine wpAnyIn_ready (rs := [0, 2]) (by kernel_rfl) (by simp) ?_
      refine AllReadyIn.cons rfl (fun K hK => ?_) ?_
      · skip
        go_simp
        refine hK _ _ ?_
        clear hK K
        refine wpAnyIn_ready (rs := [2]) (by kernel_rfl) (by simp) ?_
        refine AllReadyIn.cons rfl (fun K hK => ?_) ?_
        · skip
          go_simp
          gi_wp2_with ((try refine ⟨hroom _, ?_⟩); gi_at_call 29; refine (HC.out _ _ hbD).mono ?_; rintro e w2 ⟨vc, rfl, hoc, hbc⟩; obtain ⟨Ac, cc, rfl⟩ := own_slice hoc; have hb2 : Below W.heap.size W w2 := (hbD.trans hbc); obtain ⟨g5, cap5, w5, hrun, hc5, hf5, HE5⟩ := lines_app i0 hi0 hz0 hz1 hz2 HBX.out hb2 hoc hpl hnW; have c2 : w2.cell? ⟨w.heap.size, 0, none⟩ = some v := ((hb2.cell hbx.lt).trans c0); have c3 : ∀ o, (w2.alloc o).cell? ⟨w.heap.size, 0, none⟩ = some v := (fun o => (((Below.refl w2.heap.size w2).alloc (Nat.le_refl _) o).cell (p := ⟨w.heap.size, 0, none⟩) (Nat.lt_of_lt_of_le hbx.lt hb2.size)).trans c2))
          first | (refine hK _ _ ?_; clear hK K) | skip
          refine wpAnyIn_ready (rs := [3]) (by kernel_rfl) (by simp) ?_
          refine AllReadyIn.cons rfl (fun K hK => ?_) ?_
          · skip
            go_simp
            refine hK _ _ ?_
            clear hK K
            refine wpAnyIn_ready (rs := [4]) (by kernel_rfl) (by simp) ?_
            refine AllReadyIn.cons rfl (fun K hK => ?_) ?_
            · skip
              rw [if_pos (by rfl)]
              refine stepIn_append_run _ _ 36 rfl rfl hrun ?_
              refine hK _ _ ?_
              clear hK K
              refine wpAnyIn_ready (rs := [5]) (by kernel_rfl) (by simp) ?_
              refine AllReadyIn.cons rfl (fun K hK => ?_) ?_
              · skip
                go_simp
                refine hK _ _ ?_
                clear hK K
                refine wpAnyIn_done (by kernel_rfl) ?_ _
                obtain ⟨k1, k2, k3⟩ := HE5.out x HLN.out
                exact ⟨k1.from _, k2, k3⟩
              exact AllReadyIn.nil
            exact AllReadyIn.nil
          exact AllReadyIn.nil
        exact AllReadyIn.nil
      refine AllReadyIn.cons rfl (fun K hK => ?_) ?_
      · skip
        go_simp
        gi_wp2_with ((try refine ⟨hroom _, ?_⟩); gi_at_call 29; refine (HC.out _ _ hbD).mono ?_; rintro e w2 ⟨vc, rfl, hoc, hbc⟩; obtain ⟨Ac, cc, rfl⟩ := own_slice hoc; have hb2 : Below W.heap.size W w2 := (hbD.trans hbc); obtain ⟨g5, cap5, w5, hrun, hc5, hf5, HE5⟩ := lines_app i0 hi0 hz0 hz1 hz2 HBX.out hb2 hoc hpl hnW; have c2 : w2.cell? ⟨w.heap.size, 0, none⟩ = some v := ((hb2.cell hbx.lt).trans c0); have c3 : ∀ o, (w2.alloc o).cell? ⟨w.heap.size, 0, none⟩ = some v := (fun o => (((Below.refl w2.heap.size w2).alloc (Nat.le_refl _) o).cell (p := ⟨w.heap.size, 0, none⟩) (Nat.lt_of_lt_of_le hbx.lt hb2.size)).trans c2))
        first | (refine hK _ _ ?_; clear hK K) | skip
        refine wpAnyIn_ready (rs := [0, 3]) (by kernel_rfl) (by simp) ?_
        refine AllReadyIn.cons rfl (fun K hK => ?_) ?_
        · skip
          go_simp
          refine hK _ _ ?_
          clear hK K
          refine wpAnyIn_ready (rs := [3]) (by kernel_rfl) (by simp) ?_
          refine AllReadyIn.cons rfl (fun K hK => ?_) ?_
          · skip
            go_simp
            refine hK _ _ ?_
            clear hK K
            refine wpAnyIn_ready (rs := [4]) (by kernel_rfl) (by simp) ?_
            refine AllReadyIn.cons rfl (fun K hK => ?_) ?_
            · skip
              rw [if_pos (by rfl)]
              refine stepIn_append_run _ _ 36 rfl rfl hrun ?_
              refine hK _ _ ?_
              clear hK K
              refine wpAnyIn_ready (rs := [5]) (by kernel_rfl) (by simp) ?_
              refine AllReadyIn.cons rfl (fun K hK => ?_) ?_
              · skip
                go_simp
                refine hK _ _ ?_
                clear hK K
                refine wpAnyIn_done (by kernel_rfl) ?_ _
                obtain ⟨k1, k2, k3⟩ := HE5.out x HLN.out
                exact ⟨k1.from _, k2, k3⟩
              exact AllReadyIn.nil
            exact AllReadyIn.nil
          exact AllReadyIn.nil
        refine AllReadyIn.cons rfl (fun K hK => ?_) ?_
        · skip
          go_simp
          refine hK _ _ ?_
          clear hK K
          refine wpAnyIn_ready (rs := [0]) (by kernel_rfl) (by simp) ?_
          refine AllReadyIn.cons rfl (fun K hK => ?_) ?_
          · skip
            go_simp
            refine hK _ _ ?_
            clear hK K
            refine wpAnyIn_ready (rs := [4]) (by kernel_rfl) (by simp) ?_
            refine AllReadyIn.cons rfl (fun K hK => ?_) ?_
            · skip
              rw [if_pos (by rfl)]
              refine stepIn_append_run _ _ 36 rfl rfl hrun ?_
              refine hK _ _ ?_
              clear hK K
              refine wpAnyIn_ready (rs := [5]) (by kernel_rfl) (by simp) ?_
              refine AllReadyIn.cons rfl (fun K hK => ?_) ?_
              · skip
                go_simp
                refine hK _ _ ?_
                clear hK K
                refine wpAnyIn_done (by kernel_rfl) ?_ _
                obtain ⟨k1, k2, k3⟩ := HE5.out x HLN.out
                exact ⟨k1.from _, k2, k3⟩
              exact AllReadyIn.nil
            exact AllReadyIn.nil
          exact AllReadyIn.nil
        exact AllReadyIn.nil
      exact AllReadyIn.nil
    exact AllReadyIn.nil
    -- END
  case done =>
    rintro D xs W hD hxs hi hK
    obtain ⟨v, vals, hbx, hown, hrows⟩ := hi.box
    have hlen : xs.length = (lnF [] L).length := by rw [← hxs, List.length_map]
    rw [hlen] at hown
    rw [hxs] at hrows
    have c0 := hbx.cell
    have hbl := hi.below
    have hg := grownBy_putObj' W D (.deferred none)
    have hD' : w.heap.size ≤ D := by omega
    have HR : Hid (LinesGive w.heap.size w L (.returned v) (W.putObj D (.deferred none))) := Lib.hid (by
      have hnD : ∀ r, some D = some r → ∀ c e fz, W.heap[r]? ≠ some (.cells c e fz) := fun r e c e' fz h => by
        cases e; rw [hK] at h; cases h
      exact ⟨v, vals, rfl, own_low (own_part hown hg (fun r e c fz => hnD r e c _ fz)) (by omega), hrows.kept hg (fun r e c fz => hnD r e c _ fz),
        hbl.trans (belowK_b (w := w) (Nat.le_refl _) W D _ _ hD' hK rfl rfl)⟩)
    clear hbl hrows hown
    gi_wp2
    refine ⟨by simp, .inl ⟨_, _, rfl, run_takeDeferred hK, ?_⟩⟩
    exact ⟨_, by simp [results, Tryd.f13, go_sem], HR.out⟩
  case stop =>
    rintro D c pre W hD hpre hx
    exact hx.elim

theorem lines_any (A : Option Addr) (c : Nat) (L : List Raw) (w : World) (hA : RawAt w A L) (hfit : RawFit L) (hc : L.length ≤ c) (hcm : c ≤ maxLen) :
    Calls Tryd.prog 13 #[.slice A L.length c] w fun e w' => LinesGive w.heap.size w L e w' :=
  (callsIn_wide (n := 3)).1 (lines_gen Fence.wide rfl rfl (fun _ => trivial) (fun _ h => callsIn_wide.2 h) 3 (by omega) A c L w hA hfit hc hcm)
end Go.Proofs.YtejjbbgompddeaaDoor
