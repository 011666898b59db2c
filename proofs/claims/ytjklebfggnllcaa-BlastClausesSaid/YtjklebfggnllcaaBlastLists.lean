/- Lists of clauses in memory: a row of slices that the call owns, each of them a row of numbers. -/
import Derived.Test.YtjklebfggnllcaaBlastTwin
import Derived.Maps.AppendAt
import Derived.Laws.OwnMore
namespace Go.Proofs.Ytjklebfggnllcaa
open Go.RowKit
set_option linter.unusedVariables false
set_option linter.unusedSimpArgs false

theorem list_info : (Try.prog.info? 24).map (fun i => (i.zero, i.size, i.bytes)) = some (some (.slice none 0 0), 1, 24) := by kernel_rfl

/-- The signed atom of a literal. -/
def atomR (l : Int) : Int := if l % 2 = 1 then -(l / 2 + 1) else l / 2 + 1
theorem atom_odd {l : Int} (h : l % 2 = 1) : atomR l = -(l / 2 + 1) := if_pos h
theorem atom_even {l : Int} (h : ¬ l % 2 = 1) : atomR l = l / 2 + 1 := if_neg h

theorem rowKept {w w' : World} {base e size n B : Nat} {v : Value} {xs : List Value} (h : w.ownsRow base e size v n xs) (hb : Below B w w') (hB : w.heap.size ≤ B) : w'.ownsRow base e size v n xs := by
  obtain ⟨h1, h2⟩ := h
  refine ⟨h1, ?_⟩
  rcases h2 with h2 | ⟨g, cap, cur, hv, hg, hh, r⟩
  · exact Or.inl h2
  · refine Or.inr ⟨g, cap, cur, hv, hg, ?_, r⟩
    have hlt : g < w.heap.size := by
      rcases Nat.lt_or_ge g w.heap.size with h | h
      · exact h
      · rw [Array.getElem?_eq_none h] at hh; cases hh
    rw [hb.block g (by omega)]; exact hh
theorem rowBase {w : World} {base base' e size n : Nat} {v : Value} {xs : List Value} (h : w.ownsRow base e size v n xs) (hb : base' ≤ base) : w.ownsRow base' e size v n xs := by
  obtain ⟨h1, h2⟩ := h
  refine ⟨h1, ?_⟩
  rcases h2 with h2 | ⟨g, cap, cur, hv, hg, hh, r⟩
  · exact Or.inl h2
  · exact Or.inr ⟨g, cap, cur, hv, by omega, hh, r⟩

/-- u is a slice of the numbers l. -/
def InnerAt (w : World) (u : Value) (l : List Int) : Prop :=
  ∃ b c cur, u = .slice (some ⟨b, 0, none⟩) l.length c ∧ w.heap[b]? = some (.cells cur 3 (0, 0)) ∧ ∀ j x, l[j]? = some x → w.cell? ⟨b, j, none⟩ = some (.int .i64 x)
theorem heap_lt {w : World} {b : Nat} {o : Obj} (h : w.heap[b]? = some o) : b < w.heap.size := by
  rcases Nat.lt_or_ge b w.heap.size with h2 | h2
  · exact h2
  · rw [Array.getElem?_eq_none h2] at h; cases h
theorem InnerAt.block {w w' : World} {u : Value} {l : List Int} (h : InnerAt w u l) (hb : ∀ (b : Nat) (cur : Array Value), w.heap[b]? = some (Obj.cells cur 3 (0, 0)) → w'.heap[b]? = w.heap[b]?) : InnerAt w' u l := by
  obtain ⟨b, c, cur, e, hh, hc⟩ := h
  refine ⟨b, c, cur, e, by rw [hb b cur hh]; exact hh, fun j x hj => ?_⟩
  have := hc j x hj
  simp only [World.cell?] at this ⊢
  rw [hb b cur hh]; exact this
theorem InnerAt.below {w w' : World} {u : Value} {l : List Int} (h : InnerAt w u l) (hb : Below w.heap.size w w') : InnerAt w' u l :=
  h.block fun b cur hh => hb.block b (heap_lt hh)
theorem InnerAt.make (w : World) (l : List Int) : InnerAt (w.alloc (.cells (l.map (Value.int .i64)).toArray 3)) (.slice (some ⟨w.heap.size, 0, none⟩) l.length l.length) l :=
  ⟨w.heap.size, l.length, _, rfl, heap_alloc_new w _, fun j x hj => by
    have h := heap_alloc_new w (.cells (l.map (Value.int .i64)).toArray 3)
    show (match (w.alloc (.cells (l.map (Value.int .i64)).toArray 3)).heap[w.heap.size]? with | some (Obj.cells c elem frozen) => _ | x => none) = _
    rw [h]
    simp [hj]⟩
theorem InnerAt.one (w : World) (a : Int) : InnerAt (w.alloc (.cells #[.int .i64 a] 3)) (.slice (some ⟨w.heap.size, 0, none⟩) 1 1) [a] := InnerAt.make w [a]
theorem InnerAt.two (w : World) (a b : Int) : InnerAt (w.alloc (.cells #[.int .i64 a, .int .i64 b] 3)) (.slice (some ⟨w.heap.size, 0, none⟩) 2 2) [a, b] := InnerAt.make w [a, b]
theorem InnerAt.three (w : World) (a b c : Int) : InnerAt (w.alloc (.cells #[.int .i64 a, .int .i64 b, .int .i64 c] 3)) (.slice (some ⟨w.heap.size, 0, none⟩) 3 3) [a, b, c] := InnerAt.make w [a, b, c]

/-- Slices us of the lists L. -/
def Inners (w : World) (us : List Value) (L : List (List Int)) : Prop := us.length = L.length ∧ ∀ (i : Nat) u l, us[i]? = some u → L[i]? = some l → InnerAt w u l
theorem Inners.nil (w : World) : Inners w [] [] := ⟨rfl, fun i u l h => by simp at h⟩
theorem Inners.cons {w : World} {u : Value} {l : List Int} {us : List Value} {L : List (List Int)} (h : InnerAt w u l) (k : Inners w us L) : Inners w (u :: us) (l :: L) :=
  ⟨by simp [k.1], fun i u' l' h1 h2 => by
    cases i with
    | zero => simp at h1 h2; subst h1 h2; exact h
    | succ i => simp at h1 h2; exact k.2 i u' l' h1 h2⟩
theorem Inners.append {w : World} {us vs : List Value} {L M : List (List Int)} (h : Inners w us L) (k : Inners w vs M) : Inners w (us ++ vs) (L ++ M) := by
  refine ⟨by simp [h.1, k.1], fun i u l h1 h2 => ?_⟩
  by_cases hi : i < us.length
  · rw [List.getElem?_append_left hi] at h1
    rw [List.getElem?_append_left (by rw [← h.1]; exact hi)] at h2
    exact h.2 i u l h1 h2
  · rw [List.getElem?_append_right (by omega)] at h1
    rw [List.getElem?_append_right (by rw [← h.1]; omega), ← h.1] at h2
    exact k.2 _ u l h1 h2
theorem Inners.block {w w' : World} {us : List Value} {L : List (List Int)} (h : Inners w us L) (hb : ∀ (b : Nat) (cur : Array Value), w.heap[b]? = some (Obj.cells cur 3 (0, 0)) → w'.heap[b]? = w.heap[b]?) : Inners w' us L :=
  ⟨h.1, fun i u l h1 h2 => (h.2 i u l h1 h2).block hb⟩
theorem Inners.below {w w' : World} {us : List Value} {L : List (List Int)} (h : Inners w us L) (hb : Below w.heap.size w w') : Inners w' us L := h.block fun b cur hh => hb.block b (heap_lt hh)

/-- v is a slice of lists, in memory from base on. -/
def ListsAt (w : World) (base : Nat) (v : Value) (us : List Value) (L : List (List Int)) : Prop := w.ownsRow base 24 1 v L.length us ∧ Inners w us L
theorem ListsAt.below {w w' : World} {base : Nat} {v : Value} {us : List Value} {L : List (List Int)} (h : ListsAt w base v us L) (hb : Below w.heap.size w w') : ListsAt w' base v us L :=
  ⟨rowKept h.1 hb (Nat.le_refl _), h.2.below hb⟩
theorem ListsAt.nil (w : World) (base : Nat) : ListsAt w base (.slice none 0 0) [] [] := ⟨World.ownsRow_nil _ _ _ _, Inners.nil w⟩
theorem ListsAt.push {w w' : World} {base : Nat} {v v' : Value} {us vs : List Value} {L M : List (List Int)} (h : ListsAt w base v us L) (hv : Inners w vs M) (hown : w'.ownsRow base 24 1 v' (L.length + M.length) (us ++ vs)) (hg : w.grownBy w' v.ownBlock) :
    ListsAt w' base v' (us ++ vs) (L ++ M) := by
  refine ⟨by rw [List.length_append]; exact hown, (h.2.append hv).block fun b cur hh => hg.block b (heap_lt hh) fun e => ?_⟩
  rcases h.1.2 with ⟨hn, _⟩ | ⟨g, cap, cur', hv', _, hh', _⟩
  · rw [hn] at e; simp [Value.ownBlock] at e
  · rw [hv'] at e
    simp [Value.ownBlock] at e
    subst e
    rw [hh] at hh'
    injection hh' with hh'
    injection hh' with _ ht _
    exact absurd ht (by decide)

theorem ListsAt.base {w : World} {base base' : Nat} {v : Value} {us : List Value} {L : List (List Int)} (h : ListsAt w base v us L) (hb : base' ≤ base) : ListsAt w base' v us L := ⟨rowBase h.1 hb, h.2⟩
theorem cell_one_at (W : World) (x : Value) (t n : Nat) (hn : W.heap.size = n) : ∀ j u, [x][j]? = some u → (W.alloc (.cells #[x] t)).cell? ((⟨n, 0, none⟩ : Addr).add j) = some u := by
  subst hn; exact cell_one_new W x t
theorem one_cell1 {x : Value} (hx : x.oneCell' = true) : ∀ u ∈ [x], u.oneCell' = true := by
  intro u hu; simp at hu; subst hu; exact hx

/-- One list more: what the append of a single list leaves. -/
theorem push_one {W1 wr w1 : World} {v v' : Value} {us : List Value} {L L' : List (List Int)} {l : List Int} {A : Array Value} (hA : A = (l.map (Value.int .i64)).toArray) (n : Nat) (hn : l.length = n) {m : Nat} (hm : L.length = m)
    (h : ListsAt wr W1.heap.size v us L) (hB : Below W1.heap.size W1 wr) (hL' : L ++ [l] = L')
    (hown : w1.ownsRow W1.heap.size 24 1 v' (m + 1) (us ++ [.slice (some ⟨wr.heap.size, 0, none⟩) n n]))
    (hg : ((wr.alloc (.cells A 3)).alloc (.cells #[.slice (some ⟨wr.heap.size, 0, none⟩) n n] 24)).grownBy w1 v.ownBlock) :
    ListsAt w1 W1.heap.size v' (us ++ [.slice (some ⟨wr.heap.size, 0, none⟩) n n]) L' ∧ Below W1.heap.size W1 w1 := by
  subst hA hn hL' hm
  have b1 : Below wr.heap.size wr ((wr.alloc (.cells (l.map (Value.int .i64)).toArray 3)).alloc (.cells #[.slice (some ⟨wr.heap.size, 0, none⟩) l.length l.length] 24)) := ((Below.refl _ _).alloc (Nat.le_refl _) _).alloc (by simp) _
  refine ⟨(h.below b1).push (Inners.cons ((InnerAt.make wr l).below ((Below.refl _ _).alloc (Nat.le_refl _) _)) (Inners.nil _)) hown hg, ?_⟩
  exact (hB.trans (b1.mono hB.size)).grown hg (Nat.le_trans hB.size b1.size) (fun r hr => (World.ownsRow.lt h.1 r hr).1)

/-- What a reader sees of it. -/
theorem ListsAt.read {w : World} {base : Nat} {v : Value} {us : List Value} {L : List (List Int)} (h : ListsAt w base v us L) : ∃ p c, v = .slice p L.length c ∧
    ∀ i l, L[i]? = some l → ∃ g b c', p = some ⟨g, 0, none⟩ ∧ w.cell? ⟨g, i, none⟩ = some (.slice (some ⟨b, 0, none⟩) l.length c') ∧ ∀ j x, l[j]? = some x → w.cell? ⟨b, j, none⟩ = some (.int .i64 x) := by
  obtain ⟨hr, hl, hi⟩ := h
  rcases hr.2 with ⟨rfl, hn⟩ | ⟨g, cap, cur', rfl, _, _, _⟩
  · exact ⟨none, 0, by rw [hn], fun i l hl' => by
      rw [List.eq_nil_of_length_eq_zero hn] at hl'; simp at hl'⟩
  · refine ⟨_, cap, rfl, fun i l hl' => ?_⟩
    have hlt : i < L.length := (List.getElem?_eq_some_iff.1 hl').1
    obtain ⟨u, hu⟩ : ∃ u, us[i]? = some u := ⟨us[i], by simp [hl ▸ hlt]⟩
    obtain ⟨b, c', cur, rfl, _, hc⟩ := hi i u l hu hl'
    exact ⟨g, b, c', rfl, by rw [World.ownsRow.cellAt hr i (by omega)]; exact hu, hc⟩

/-- The clauses of the first k gates, behind the clause of node 0. -/
def gateL (P Q : Nat → Int) (ni k : Nat) : List (List Int) := [[-(2 + ni + k : Int), atomR (P k)], [-(2 + ni + k : Int), atomR (Q k)], [(2 + ni + k : Int), -atomR (P k), -atomR (Q k)]]
def clausesTo (P Q : Nat → Int) (ni : Nat) : Nat → List (List Int)
  | 0 => [[-1]]
  | k + 1 => clausesTo P Q ni k ++ gateL P Q ni k
theorem clausesTo_length (P Q : Nat → Int) (ni : Nat) : ∀ k, (clausesTo P Q ni k).length = 1 + 3 * k
  | 0 => rfl
  | k + 1 => by rw [clausesTo, List.length_append, clausesTo_length P Q ni k, show (gateL P Q ni k).length = 3 from rfl]; omega
def clausesR (P Q : Nat → Int) (ni ng : Nat) (o : Int) : List (List Int) := clausesTo P Q ni ng ++ [[atomR o]]
end Go.Proofs.Ytjklebfggnllcaa
