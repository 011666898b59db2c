/- blast.Run's own function. -/
import Derived.Test.YtmbogdimjbhbmaaRunLists
import Derived.Laws.MakeOwn
import Derived.OneCell
namespace Go.Proofs.Ytmbogdimjbhbmaa
open Go.RowKit Go.Sort
set_option linter.unusedVariables false
set_option linter.unusedSimpArgs false

/-- blast.Run's own function: the value of a literal. -/
theorem value_any (bx g cap n l : Nat) (b : Bool) (w : World) (h0 : w.cell? ⟨bx, 0, none⟩ = some (.slice (some ⟨g, 0, none⟩) n cap)) (hl : l / 2 < n) (hn : n ≤ 1000000) (h2 : w.cell? ⟨g, l / 2, none⟩ = some (.bool b)) :
    Calls Try.prog 16 #[.int .i64 (l : Int), .pointer (some ⟨bx, 0, none⟩)] w fun e w' => e = .returned (.bool (b != decide ((l : Int) % 2 = 1))) ∧ Below w.heap.size w w' := by
  have HI := Lib.hid (fun d os => Calls.regrown_of (d := d) (os := os) (w := w) (Calls.below_of (inverts_any (l : Int) (grow (redrawn w d) os))))
  have K0 := fun d os => cell_regrown h0 d os
  have K1 := fun d os => cell_regrown h2 d os
  obtain ⟨i, hi⟩ : ∃ i : Nat, l / 2 = i := ⟨_, rfl⟩
  rw [hi] at hl h2 K1
  have hw : IntKind.i64.wrap ((l : Int) / 2) = (i : Int) := by rw [IntWalk.i64_in _ (by omega)]; omega
  have hj0 : (0 : Int) ≤ (i : Int) := Int.natCast_nonneg _
  have hj1 : (i : Int) < (n : Int) := by omega
  go_enter Try.func16, Try.ntmps16
  go_wp2_with fail
  refine wp_region_quiet_below (by kernel_rfl) (by kernel_rfl) ?_
  repeat (first | go_big_quiet_step ((with_reducible exact HI.out _ _)) | quiet_step ((with_reducible exact HI.out _ _)))
  refine wpQuiet_nil ?_
  intro _ hw'
  obtain ⟨⟨dq, osq⟩, hw''⟩ := hw'
  subst hw''
  go_wp2
  go_ret
  exact ⟨rfl, below_regrown w dq osq⟩

theorem nodesOf_any (pi pg po : Option Addr) (ni ng no ci cg co : Nat) (w : World) (h1 : ni ≤ 600) (h2 : ng ≤ 100100) : Calls Try.prog 15 #[.agg #[.slice pi ni ci, .slice pg ng cg, .slice po no co]] w fun e w' => e = .returned (.int .i64 ((1 + ni + ng : Nat) : Int)) ∧ Below w.heap.size w w' := by
  go_enter Try.func15, Try.ntmps15
  go_wp2
  go_ret
  refine ⟨?_, (Below.refl _ _).alloc (Nat.le_refl _) _⟩
  first
    | rfl
    | (trace_state; sorry)

theorem made_one (w : World) (m : Nat) (h1 : 1 ≤ m) (h2 : m ≤ 1000000) : RowB (w.alloc (.cells (madeCells #[.bool false] m) 4)) w.heap.size (.slice (some ⟨w.heap.size, 0, none⟩) 1 m) [false] := by
  refine ⟨by simp [bls], .inr ⟨w.heap.size, m, _, rfl, Nat.le_refl _, heap_alloc_new w _, h1, by unfold maxLen; omega, by rw [size_madeCells]; omega, ?_⟩⟩
  obtain ⟨k, rfl⟩ : ∃ k, m = k + 1 := ⟨m - 1, by omega⟩
  simp [madeCells, bls, List.range_succ_eq_map]

theorem wpList_make_one (w : World) {ops : Array Oper} {rest : List Oper} {o : Oper} {a : Act} {Q : Exit → Act → World → Prop}
    (hg : o.guard = none) (l c : Operand) (hop : o.op = Op.makeSlice 27 l c) (m : Nat) (hl : a.eval l = .int .i64 1) (hc : a.eval c = .int .i64 (m : Int)) (h1 : 1 ≤ m) (h2 : m ≤ 1000000)
    (hK : ∀ v w', RowB w' w.heap.size v [false] → Below w.heap.size w w' → w'.heap.size = w.heap.size + 1 → wpList Try.prog ops Q rest (a.put o.dst v) w') :
    wpList Try.prog ops Q (o :: rest) a w := by
  refine wpList_plain hg fun K hK' => ?_
  obtain ⟨i0, hi, hz0, hz1, hz2⟩ := info_parts bool_info
  have hrun := run_make (P := Try.prog) w 27 4 i0 (.bool false) Try.underlying27 hi hz0 .i64 .i64 1 (m : Int) (by omega) (by omega) (by rw [hz2]; omega) (by omega)
  have hK2 := hK _ _ (made_one w m h1 h2) ((Below.refl _ _).alloc (Nat.le_refl _) _) (by simp)
  have e : (Value.bool false).cells = #[.bool false] := rfl
  rw [e, hz1, Nat.mul_one] at hrun
  simp only [Int.toNat_natCast, Int.toNat_one] at hrun
  unfold Oper.wp
  simp [execOp, hop, hl, hc, hrun, Result.andThen]
  exact hK' _ _ hK2

theorem RowB.apart {w : World} {bx base : Nat} {v u : Value} {l : List Bool} (hb : Boxed w bx 27 v) (hr : RowB w base u l) : u.ownBlock ≠ some bx := by
  rcases hr.2 with ⟨rfl, _⟩ | ⟨g, cap, cur, rfl, _, hh, _⟩
  · simp [Value.ownBlock]
  · intro e
    have e2 : g = bx := by simpa [Value.ownBlock] using e
    subst e2
    have h1 : w.heap[g]? = some (.cells #[v] 27 (0, 0)) := hb
    rw [h1] at hh
    injection hh with hh
    injection hh with _ h2 _
    exact absurd h2 (by decide)
/-- The nodes' values lie in memory of the call's own, their slice in a box. -/
def NodesAt (W1 wr : World) (bx : Nat) (l : List Bool) : Prop := ∃ v, Boxed wr bx 27 v ∧ RowB wr W1.heap.size v l ∧ Below W1.heap.size W1 wr ∧ W1.heap.size ≤ bx
theorem NodesAt.pushed {W1 wr w' : World} {bx : Nat} {l l' : List Bool} {v v' : Value} (h1 : Boxed wr bx 27 v) (h2 : RowB wr W1.heap.size v l) (h3 : Below W1.heap.size W1 wr) (h4 : W1.heap.size ≤ bx)
    (hown : RowB w' W1.heap.size v' l') (hg : wr.grownBy w' v.ownBlock) : NodesAt W1 (w'.setCell ⟨bx, 0, none⟩ v') bx l' := by
  have k1 : Boxed w' bx 27 v := h1.kept hg (fun e => RowB.apart h1 h2 e.symm)
  refine ⟨v', k1.set v', ownsRow_setCell_other hown (RowB.apart k1 hown) _, ?_, h4⟩
  exact (h3.grown hg h3.size (fun r hr => (World.ownsRow.lt h2 r hr).1)).setCell h4 _

theorem RowB.single {w : World} {base : Nat} {v : Value} {l : List Bool} (h : RowB w base v l) : v.oneCell' = true := by
  rcases h.2 with ⟨rfl, _⟩ | ⟨g, cap, cur, rfl, _⟩ <;> rfl
section
variable {P : Program}
theorem run_store_box (w : World) (ty t : TypeId) (bx : Nat) (u v : Value) (hb : Boxed w bx t u) (hi : (P.info? ty).map (·.size) = some 1) (hv : v.oneCell' = true) :
    (Instr.storeAt ty (.pointer (some ⟨bx, 0, none⟩)) v).run P w = .ok () (w.setCell ⟨bx, 0, none⟩ v) := by
  have hc := hb.cell
  have hf := hb.frozen
  have hcs : v.cells = #[v] := by cases v <;> first | rfl | cases hv
  cases hq : P.info? ty with
  | none => simp [hq] at hi
  | some i =>
    have hs : i.size = 1 := by simpa [hq] using hi
    simp [Instr.storeAt, Instr.sureAddr, storeVar, sizeOf, typeInfo, hq, hcs, hs, storeCells, run_store P w _ v _ hv, show (⟨bx, 0, none⟩ : Addr).add 0 = ⟨bx, 0, none⟩ from rfl, hc, hf]
theorem wpList_store_box {ops : Array Oper} {rest : List Oper} {op : Oper} {a : Act} {w : World} {Q : Exit → Act → World → Prop} (hgd : op.guard = none) (ty : TypeId) (x y : Operand) (ho : op.op = .store ty x y)
    (t : TypeId) (bx : Nat) (u v : Value) (hx : a.eval x = .pointer (some ⟨bx, 0, none⟩)) (hy : a.eval y = v) (hb : Boxed w bx t u) (hi : (P.info? ty).map (·.size) = some 1) (hv : v.oneCell' = true)
    (h : wpList P ops Q rest (a.put op.dst undef) (w.setCell ⟨bx, 0, none⟩ v)) : wpList P ops Q (op :: rest) a w := by
  refine wpList_plain hgd fun K hK => ?_
  unfold Oper.wp execOp
  simp only [ho, hx, hy, run_store_box w ty t bx u v hb hi hv, Sem.run_bind, Sem.run_pure, Result.andThen_ok]
  exact hK _ _ h
end
theorem NodesAt.below {W1 wr : World} {bx : Nat} {l : List Bool} (h : NodesAt W1 wr bx l) : Below W1.heap.size W1 wr := let ⟨_, _, _, h3, _⟩ := h; h3
section
variable {P : Program} {w : World}
/-- The law of append onto a row of the call's own, at an operation of a region that draws its order. -/
theorem step_append_own_at {ops : Array Oper} {o : Oper} {a : Act} {K : Act → World → Prop} {Q : Exit → Act → World → Prop} {E : Prop} (hgd : o.guard = none) (s x : Operand) (t : TypeId)
    (ho : o.op = .call { callee := .builtin .append, args := #[s, x], argTypes := #[t, t] })
    (base : Nat) (e : TypeId) (i : TypeInfo) (z : Value) (size bytes : Nat) (ht : P.underlying t = some (.slice e)) (hi : P.info? e = some i) (hz : i.zero = some z)
    (hsize : i.size = size) (hby : i.bytes = bytes) (hzs : z.cells.size = size) (hsz : 0 < size)
    (v : Value) (n : Nat) (xs : List Value) (hs : a.eval s = v) (hown : w.ownsRow base e size v n xs)
    (ad : Addr) (m c : Nat) (news : List Value) (hx : a.eval x = .slice (some ad) m c) (hl : news.length = m * size) (hnews : ∀ j u, news[j]? = some u → w.cell? (ad.add j) = some u) (h1 : ∀ u ∈ news, u.oneCell' = true)
    (h63 : n + m ≤ maxLen) (hbytes : (n + m) * bytes ≤ 140737488355328) (hbase : base ≤ w.heap.size)
    (h : ∀ v' w', w'.ownsRow base e size v' (n + m) (xs ++ news) → w.grownBy w' v.ownBlock → K (a.put o.dst v') w') :
    if Region.wanted o (yielded ops a.tmps) = true then Oper.wp P o a w K Q else E := by
  have hw : Region.wanted o (yielded ops a.tmps) = true := by simp [Region.wanted, hgd]
  rw [if_pos hw]
  obtain ⟨v', w', hr, h2, h3, h4, h5⟩ := run_append_own_at (P := P) w base t o.type e i z size bytes ht hi hz hsize hby hzs hsz v n xs hown ad m c news hl hnews h1 h63 hbytes hbase
  unfold Oper.wp execOp
  simp only [ho, resolve, invoke, builtin, Sem.run_bind, Sem.run_pure, Result.andThen_ok, List.map_toArray, List.map_cons, List.map_nil, hs, hx, hr]
  exact h v' w' h2 h3
end
section
variable {P : Program} {w : World}
theorem step_store_box {ops : Array Oper} {o : Oper} {a : Act} {K : Act → World → Prop} {Q : Exit → Act → World → Prop} {E : Prop} (hgd : o.guard = none) (ty : TypeId) (x y : Operand) (ho : o.op = .store ty x y)
    (t : TypeId) (bx : Nat) (u v : Value) (hx : a.eval x = .pointer (some ⟨bx, 0, none⟩)) (hy : a.eval y = v) (hb : Boxed w bx t u) (hi : (P.info? ty).map (·.size) = some 1) (hv : v.oneCell' = true)
    (h : K (a.put o.dst undef) (w.setCell ⟨bx, 0, none⟩ v)) : if Region.wanted o (yielded ops a.tmps) = true then Oper.wp P o a w K Q else E := by
  have hw : Region.wanted o (yielded ops a.tmps) = true := by simp [Region.wanted, hgd]
  rw [if_pos hw]
  unfold Oper.wp execOp
  simp only [ho, hx, hy, run_store_box w ty t bx u v hb hi hv, Sem.run_bind, Sem.run_pure, Result.andThen_ok]
  exact h
end
theorem RowB.alloc' {w : World} {base : Nat} {v : Value} {l : List Bool} (h : RowB w base v l) (o : Obj) : RowB (w.alloc o) base v l := World.ownsRow.alloc h o
theorem one_cell1 {x : Value} (hx : x.oneCell' = true) : ∀ u ∈ [x], u.oneCell' = true := by
  intro u hu; simp at hu; subst hu; exact hx
theorem RowB.form {w : World} {base : Nat} {v : Value} {l : List Bool} (h : RowB w base v l) : ∃ p c, v = .slice p l.length c := let ⟨p, c, e, _⟩ := h.read; ⟨p, c, e⟩
end Go.Proofs.Ytmbogdimjbhbmaa
