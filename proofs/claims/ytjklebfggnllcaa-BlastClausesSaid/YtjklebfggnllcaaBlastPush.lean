/- Three lists more in a row of lists. -/
import Derived.Test.YtjklebfggnllcaaBlastLists
namespace Go.Proofs.Ytjklebfggnllcaa
open Go.RowKit
set_option linter.unusedVariables false
set_option linter.unusedSimpArgs false
/-- Three lists more, by one append: what is left behind four literals and the append. -/
theorem push_three {W1 wr w1 : World} {v v' : Value} {us : List Value} {L L' : List (List Int)} {l1 l2 l3 : List Int} {A1 A2 A3 : Array Value} (hA1 : A1 = (l1.map (Value.int .i64)).toArray) (hA2 : A2 = (l2.map (Value.int .i64)).toArray) (hA3 : A3 = (l3.map (Value.int .i64)).toArray)
    (n1 n2 n3 : Nat) (hn1 : l1.length = n1) (hn2 : l2.length = n2) (hn3 : l3.length = n3) {m : Nat} (hm : L.length = m)
    (h : ListsAt wr W1.heap.size v us L) (hB : Below W1.heap.size W1 wr) (hL' : L ++ [l1, l2, l3] = L')
    (hown : w1.ownsRow W1.heap.size 24 1 v' (m + 3) (us ++ [.slice (some ⟨wr.heap.size, 0, none⟩) n1 n1, .slice (some ⟨wr.heap.size + 1, 0, none⟩) n2 n2, .slice (some ⟨wr.heap.size + 1 + 1, 0, none⟩) n3 n3]))
    (hg : ((((wr.alloc (.cells A1 3)).alloc (.cells A2 3)).alloc (.cells A3 3)).alloc (.cells #[.slice (some ⟨wr.heap.size, 0, none⟩) n1 n1, .slice (some ⟨wr.heap.size + 1, 0, none⟩) n2 n2, .slice (some ⟨wr.heap.size + 1 + 1, 0, none⟩) n3 n3] 24)).grownBy w1 v.ownBlock) :
    ListsAt w1 W1.heap.size v' (us ++ [.slice (some ⟨wr.heap.size, 0, none⟩) n1 n1, .slice (some ⟨wr.heap.size + 1, 0, none⟩) n2 n2, .slice (some ⟨wr.heap.size + 1 + 1, 0, none⟩) n3 n3]) L' ∧ Below W1.heap.size W1 w1 := by
  subst hA1 hA2 hA3 hn1 hn2 hn3 hL' hm
  have i1 := InnerAt.make wr l1
  generalize e1 : wr.alloc (.cells (l1.map (Value.int .i64)).toArray 3) = wa at *
  have b1 : Below wr.heap.size wr wa := by rw [← e1]; exact (Below.refl _ _).alloc (Nat.le_refl _) _
  have s1 : wa.heap.size = wr.heap.size + 1 := by rw [← e1]; simp
  have i2 := InnerAt.make wa l2
  generalize e2 : wa.alloc (.cells (l2.map (Value.int .i64)).toArray 3) = wb at *
  have b2 : Below wa.heap.size wa wb := by rw [← e2]; exact (Below.refl _ _).alloc (Nat.le_refl _) _
  have s2 : wb.heap.size = wa.heap.size + 1 := by rw [← e2]; simp
  have i3 := InnerAt.make wb l3
  generalize e3 : wb.alloc (.cells (l3.map (Value.int .i64)).toArray 3) = wc at *
  have b3 : Below wb.heap.size wb wc := by rw [← e3]; exact (Below.refl _ _).alloc (Nat.le_refl _) _
  generalize eo : (Obj.cells #[Value.slice (some ⟨wr.heap.size, 0, none⟩) l1.length l1.length, Value.slice (some ⟨wr.heap.size + 1, 0, none⟩) l2.length l2.length, Value.slice (some ⟨wr.heap.size + 1 + 1, 0, none⟩) l3.length l3.length] 24) = ob at *
  have b4 : Below wc.heap.size wc (wc.alloc ob) := (Below.refl _ _).alloc (Nat.le_refl _) _
  have c3 : Below wb.heap.size wb (wc.alloc ob) := b3.trans (b4.mono b3.size)
  have c2 : Below wa.heap.size wa (wc.alloc ob) := b2.trans (c3.mono b2.size)
  have c1 : Below wr.heap.size wr (wc.alloc ob) := b1.trans (c2.mono b1.size)
  rw [s1] at i2
  rw [s2, s1] at i3
  refine ⟨(h.below c1).push (Inners.cons (i1.below c2) (Inners.cons (i2.below c3) (Inners.cons (i3.below b4) (Inners.nil _)))) hown hg, ?_⟩
  exact (hB.trans (c1.mono hB.size)).grown hg (Nat.le_trans hB.size c1.size) (fun r hr => (World.ownsRow.lt h.1 r hr).1)
theorem add_flat (b o i : Nat) : (⟨b, o, none⟩ : Addr).add i = ⟨b, o + i, none⟩ := by unfold Addr.add; split <;> simp_all
theorem cells_at (W : World) (xs : List Value) (t n : Nat) (hn : W.heap.size = n) : ∀ j u, xs[j]? = some u → (W.alloc (.cells xs.toArray t)).cell? ((⟨n, 0, none⟩ : Addr).add j) = some u := by
  subst hn
  intro j u hj
  have h := heap_alloc_new W (.cells xs.toArray t)
  rw [add_flat, Nat.zero_add]
  show (match (W.alloc (.cells xs.toArray t)).heap[W.heap.size]? with | some (Obj.cells c elem frozen) => _ | x => none) = _
  rw [h]
  simp [hj]

theorem three_cell1 {x y z : Value} (hx : x.oneCell' = true) (hy : y.oneCell' = true) (hz : z.oneCell' = true) : ∀ u ∈ [x, y, z], u.oneCell' = true := by
  intro u hu; simp at hu; rcases hu with rfl | rfl | rfl <;> assumption

section
variable {P : Program} {w : World}
/-- The law of append onto a row of the call's own, at an operation of a region that draws its order. -/
theorem step_append_own_at {ops : Array Oper} {o : Oper} {a : Act} {K : Act → World → Prop} {Q : Exit → Act → World → Prop} {E : Prop} (hgd : o.guard = none) (s x : Operand) (t : TypeId)
    (ho : o.op = .call { callee := .builtin .append, args := #[s, x], argTypes := #[t, t] })
    (base : Nat) (e : TypeId) (i : TypeInfo) (z : Value) (size bytes : Nat) (ht : P.underlying t = some (.slice e)) (hi : P.info? e = some i) (hz : i.zero = some z)
    (hsize : i.size = size) (hby : i.bytes = bytes) (hzs : z.cells.size = size) (hsz : 0 < size)
    (v : Value) (n : Nat) (xs : List Value) (hs : a.eval s = v) (hown : w.ownsRow base e size v n xs)
    (ad : Addr) (m c : Nat) (news : List Value) (hx : a.eval x = .slice (some ad) m c) (hl : news.length = m * size) (hnews : ∀ j u, news[j]? = some u → w.cell? (ad.add j) = some u) (h1 : ∀ u ∈ news, u.oneCell' = true)
    (h63 : n + m ≤ maxLen) (hbytes : (n + m) * bytes ≤ 140737488355328) (hbase : base ≤ w.heap.size)
    (h : ∀ v' w', w'.ownsRow base e size v' (n + m) (xs ++ news) → w.grownBy w' v.ownBlock → K (a.put o.dst v') w') :
    if Region.wanted o (yielded ops a.tmps) = true then Oper.wp P o a w K Q else E := by
  have hw : Region.wanted o (yielded ops a.tmps) = true := by simp [Region.wanted, hgd]
  rw [if_pos hw]
  obtain ⟨v', w', hr, h2, h3, h4, h5⟩ := run_append_own_at (P := P) w base t o.type e i z size bytes ht hi hz hsize hby hzs hsz v n xs hown ad m c news hl hnews h1 h63 hbytes hbase
  unfold Oper.wp execOp
  simp only [ho, resolve, invoke, builtin, Sem.run_bind, Sem.run_pure, Result.andThen_ok, List.map_toArray, List.map_cons, List.map_nil, hs, hx, hr]
  exact h v' w' h2 h3
end
end Go.Proofs.Ytjklebfggnllcaa
