/- The iterator over pieces with their places, of package format. -/
import Derived.Test.YtjbapjgagiaefaaFmtLayMath
import Derived.RangeFuncKeeps
import Derived.RangeFuncNested
import Derived.RangeFuncBound
import Derived.RangeFuncLeaves
import Derived.RangeFuncBox
import Derived.Shelf.Abstract
import Derived.OwnWalkIn
import Derived.TacticsInMore
import Derived.LoopIn
import Derived.Laws.EntriesVeiled
import Derived.Maps.AppendAt
namespace Go.Proofs.Ytjbapjgagiaefaa
open Go.RowKit Go.Shelf Go.Deep
set_option linter.unusedVariables false
set_option linter.unusedSimpArgs false
attribute [local go_sem] Oper.semAt_some

theorem RoundIn.anyDepth {F : Fence} (hd : F.depth = none) {m m' : Nat} {P : Program} {l : Nat} {f : FuncId} {tmps : Array Value} {assign body : Code} {w : World} {R : Ending → World → Prop}
    (h : RoundIn F m P l f tmps assign body w R) : RoundIn F m' P l f tmps assign body w R := ⟨h.1, fun c cs _ => h.2 c cs (fun d h => by rw [hd] at h; cases h)⟩
theorem YieldAt.anyDepth {F : Fence} (hd : F.depth = none) {m : Nat} (m' : Nat) {P : Program} {l : Nat} {args : Array Value} {W : World} {R : Ending → World → Prop} (h : YieldAt F m P l args W R) : YieldAt F m' P l args W R := by
  obtain ⟨fn, tmps, assign, body, hy, hR⟩ := h
  exact ⟨fn, tmps, assign, body, hy, RoundIn.anyDepth hd hR⟩

/-- A piece lies in words of 64 bits. -/
def MPiece.fits (x : MPiece) : Prop := 1 ≤ x.len ∧ 0 ≤ x.pos ∧ x.pos + x.len ≤ 64
def GoodL (L : List MPiece) : Prop := (∀ x ∈ L, x.fits) ∧ widthL L ≤ 64
def placedN : Nat → List MPiece → List (Nat × MPiece) | _, [] => [] | p, x :: L => (p, x) :: placedN (p + x.l) L
theorem placedN_len : ∀ (L : List MPiece) (p : Nat), (placedN p L).length = L.length
  | [], _ => rfl
  | x :: L, p => by simp [placedN, placedN_len L]
theorem widthL_drop : ∀ (L : List MPiece) (i : Nat) (x : MPiece), L[i]? = some x → widthL (L.drop i) = x.l + widthL (L.drop (i + 1))
  | y :: L, 0, x, h => by simp at h; subst h; rfl
  | y :: L, i + 1, x, h => by simpa using widthL_drop L i x (by simpa using h)
theorem drop_at {L : List MPiece} {i : Nat} {x : MPiece} (h : L[i]? = some x) : L.drop i = x :: L.drop (i + 1) := by
  have hlt := (List.getElem?_eq_some_iff.1 h).1
  rw [List.drop_eq_getElem_cons hlt]
  congr 1
  exact Option.some.inj ((List.getElem?_eq_getElem hlt).symm.trans h)
/-- Pieces in memory below a bound. -/
def PcsIn (w : World) (n : Nat) (A : Option Addr) (L : List MPiece) : Prop := ∀ i x, L[i]? = some x → ∃ g o, A = some ⟨g, o, none⟩ ∧ g < n ∧ w.cell? ⟨g, o + i * 2, none⟩ = some (.int .i64 x.pos) ∧ w.cell? ⟨g, o + i * 2 + 1, none⟩ = some (.int .i64 x.len)
theorem PcsIn.kept {w w' : World} {n : Nat} {A : Option Addr} {L : List MPiece} (h : PcsIn w n A L) (hb : Below n w w') : PcsIn w' n A L := by
  intro i y hy
  obtain ⟨g, o, e, hg, h0, h1⟩ := h i y hy
  exact ⟨g, o, e, hg, by rw [hb.cell hg]; exact h0, by rw [hb.cell hg]; exact h1⟩
theorem PcsAt.in {w : World} {A : Option Addr} {L : List MPiece} (h : PcsAt w A L) : PcsIn w w.heap.size A L := h
/-- What comes: a place and a piece. -/
abbrev PEl : Type := { x : Nat × MPiece // x.2.fits ∧ x.1 + x.2.l ≤ 64 }
def PEl.encs (x : PEl) : Array Value := #[.int .i64 (x.1.1 : Nat), .agg #[.int .i64 x.1.2.pos, .int .i64 x.1.2.len]]
/-- What a round keeps: all below n₀, and every block of cells but one. -/
def PKp (n₀ Bw : Nat) (W W' : World) : Prop := Below n₀ W W' ∧ ∀ k c e f, k ≠ Bw → W.heap[k]? = some (.cells c e f) → W'.heap[k]? = some (.cells c e f)
theorem PKp.refl (n₀ Bw : Nat) (W : World) : PKp n₀ Bw W W := ⟨Below.refl _ _, fun _ _ _ _ _ h => h⟩
theorem PKp.trans {n₀ Bw : Nat} {A B C : World} (h : PKp n₀ Bw A B) (k : PKp n₀ Bw B C) : PKp n₀ Bw A C := ⟨h.1.trans k.1, fun j c e f hj hc => k.2 j c e f hj (h.2 j c e f hj hc)⟩
theorem PKp.alloc {n₀ Bw : Nat} (W : World) (hn : n₀ ≤ W.heap.size) (o : Obj) : PKp n₀ Bw W (W.alloc o) :=
  ⟨(Below.refl _ _).alloc hn o, fun k c e f _ hc => (Below.heap_alloc W o k (Array.getElem?_eq_some_iff.1 hc).1).trans hc⟩
theorem PKp.putObj {n₀ Bw : Nat} {w : World} (hn : n₀ ≤ w.heap.size) (W : World) (l : Nat) (o o' : Obj) (hl : w.heap.size ≤ l) (h : W.heap[l]? = some o) (ho : o.isCells = false) (hw : o.isWalk = false) : PKp n₀ Bw W (W.putObj l o') :=
  ⟨belowK_b hn W l o o' hl h ho hw, fun k c e f _ hc => by
    by_cases hkl : k = l
    · subst hkl; rw [h] at hc; cases hc; simp [Obj.isCells] at ho
    · exact (World.putObj_heap_other hkl).trans hc⟩
theorem PKp.setCell {n₀ Bw : Nat} (W : World) (hn : n₀ ≤ Bw) (i : Nat) (v : Value) : PKp n₀ Bw W (W.setCell ⟨Bw, i, none⟩ v) :=
  ⟨(Below.refl _ _).setCell (p := ⟨Bw, i, none⟩) hn v, fun k c e f hk hc => (Below.heap_setCell W ⟨Bw, i, none⟩ v k hk).trans hc⟩
theorem PKp.drew {n₀ Bw : Nat} (W : World) : PKp n₀ Bw W W.drew := ⟨(Below.refl _ _).drew, fun _ _ _ _ _ h => h⟩
theorem lcell {W : World} {B : Nat} {v : Value} {t : TypeId} (h : W.heap[B]? = some (.cells #[v] t (0, 0))) : W.cell? ⟨B, 0, none⟩ = some v := by simp [World.cell?, h]
theorem pcell {W : World} {B : Nat} {u v : Value} {t : TypeId} (h : W.heap[B]? = some (.cells #[u, v] t (0, 0))) : W.cell? ⟨B, 0, none⟩ = some u ∧ W.cell? ⟨B, 1, none⟩ = some v := by simp [World.cell?, h]
theorem PKp.below_swap {B : Nat} {a b c : World} (h1 : Below B a b) (h2 : Below B a c) (hs : b.heap.size ≤ c.heap.size) : Below B b c :=
  ⟨h2.os.trans h1.os.symm, h2.tape.trans h1.tape.symm, h2.output.trans h1.output.symm, hs, fun k hk => (h2.block k hk).trans (h1.block k hk).symm⟩

set_option maxRecDepth 100000 in
set_option maxHeartbeats 4000000 in
theorem placed1_in (F : Fence) (hd : F.depth = none) (n : Nat) (h1 : F.fn 55) (hro : F.round = none)
    (w0 : World) (l Bt Bw n₀ : Nat) (J Jx : List PEl → World → Prop) (hJ : ∀ s W o, J s W → J s (W.alloc o)) (A : Option Addr) (c : Nat) (L : List MPiece) (hA : PcsIn w0 n₀ A L) (hG : GoodL L) (hc : L.length ≤ c) (hcm : c ≤ maxLen)
    (hY : ∀ m pre x W, J pre W → pre.length < L.length → YieldAt F m Try.prog l x.encs W fun e W' =>
      (e = .returned (.bool true) ∧ J (pre ++ [x]) W' ∧ PKp n₀ Bw W W') ∨ (e = .returned (.bool false) ∧ Jx (pre ++ [x]) W'))
    (W : World) (hW : Below n₀ w0 W) (hn0 : n₀ ≤ W.heap.size) (hB : W.heap[Bt]? = some (.cells #[.slice A L.length c] 34 (0, 0))) (hne : Bt ≠ Bw) (hBw : Bw < W.heap.size) (h0 : J [] W) :
    CallsIn F n Try.prog 55 #[.func (.yield l) #[] #[], .pointer (some ⟨Bt, 0, none⟩)] W fun e W' => (∃ v, e = .returned v) ∧
      ((∃ ys : List PEl, ys.map (·.1) = placedN 0 L ∧ J ys W') ∨ (∃ pre : List PEl, pre.map (·.1) <+: placedN 0 L ∧ Jx pre W')) := by
  obtain ⟨nn, hnn⟩ : ∃ nn, L.length = nn := ⟨_, rfl⟩
  have HN := Lib.hid hnn
  have HG := Lib.hid hG
  have HA := Lib.hid hA
  have HJ := Lib.hid hJ
  have HY := Lib.hid hY
  have HB0 := Lib.hid (And.intro hW (And.intro hn0 (And.intro hB (And.intro hne hBw))))
  have c0 := lcell hB
  rw [hnn] at c0 hc
  have hnx : (nn : Int) ≤ 9223372036854775807 := by unfold maxLen at hcm; omega
  have HH0 := Lib.hid h0
  clear hnn hG hA hJ hY hW hn0 hB hcm h0 hne hBw hc
  refine callsIn_of_wp Try.func55 rfl h1 ?_ hro
  simp only [Try.ntmps55, List.size_toArray, List.length_cons, List.length_nil, Nat.reduceAdd, Nat.reduceSub, Array.replicate_succ, Array.replicate_zero, List.push_toArray, List.append_toArray, List.nil_append, List.cons_append]
  gi_wp2
  gi_loopw [3, 8] (fun vf vi wr => ∃ p i : Nat, vf = .int .i64 p ∧ vi = .int .i64 i ∧ i ≤ nn ∧ Hid (PKp n₀ Bw W wr ∧ p + widthL (L.drop i) = widthL L ∧ ∃ q : List PEl, q.map (·.1) ++ placedN p (L.drop i) = placedN 0 L ∧ J q wr)) (fun _ vi _ => nn - (intOf vi).toNat)
  case atStart => exact ⟨0, 0, rfl, rfl, Nat.zero_le _, Lib.hid ⟨PKp.refl _ _ _, by rw [List.drop_zero]; omega, [], by rw [List.drop_zero]; rfl, HH0.out⟩⟩
  case round =>
    obtain ⟨p, i, rfl, rfl, hi, HI⟩ := hrel
    by_cases hlt : i < nn
    · obtain ⟨y, hy⟩ : ∃ y, L[i]? = some y := ⟨_, List.getElem?_eq_getElem (by rw [HN.out]; exact hlt)⟩
      have hb := HB0.out.1.trans HI.out.1.1
      obtain ⟨g, o, rfl, hg, t0, t1⟩ := (HA.out.kept hb) i y hy
      have hfit := HG.out.1 y (List.mem_of_getElem? hy)
      have hwd := widthL_drop L i y hy
      have hwt := HG.out.2
      have hpw := HI.out.2.1
      obtain ⟨q, hq, hJq⟩ := HI.out.2.2
      rw [drop_at hy] at hq
      simp only [placedN] at hq
      have hql : q.length < L.length := by
        have e := congrArg List.length hq
        rw [List.length_append, List.length_map, List.length_cons, placedN_len, placedN_len, List.length_drop] at e
        have := HN.out
        omega
      obtain ⟨x, hx⟩ : ∃ x : PEl, x.1 = (p, y) := ⟨⟨(p, y), hfit, by show p + y.l ≤ 64; omega⟩, rfl⟩
      have hyl : (y.l : Int) = y.len := by have := hfit.1; unfold MPiece.l; omega
      have hpl : p + y.l ≤ 64 := by omega
      obtain ⟨fn, tmps, assign, body, hyy, hR⟩ := HY.out (n - 1) q x (wr.alloc (.cells #[.int .i64 y.pos, .int .i64 y.len] 33)) (HJ.out _ _ _ hJq) hql
      have hxe : x.encs = #[.int .i64 (p : Nat), .agg #[.int .i64 y.pos, .int .i64 y.len]] := by unfold PEl.encs; rw [hx]
      rw [hxe] at hyy
      have hnw : n₀ ≤ wr.heap.size := Nat.le_trans HB0.out.2.1 HI.out.1.1.size
      have hbw : Bw < wr.heap.size := Nat.lt_of_lt_of_le HB0.out.2.2.2.2 HI.out.1.1.size
      have hnew := heap_alloc_new wr (.cells #[.int .i64 y.pos, .int .i64 y.len] 33)
      have HK := Lib.hid (PKp.alloc (Bw := Bw) wr hnw (.cells #[.int .i64 y.pos, .int .i64 y.len] 33))
      have HX := Lib.hid (And.intro hq (And.intro hpw (And.intro hwd hx)))
      have HNEW := Lib.hid hnew
      have HBW := Lib.hid (show wr.heap.size ≠ Bw by omega)
      have hcells := piece_cells wr y.pos y.len wr.heap.size rfl
      obtain ⟨a, ha⟩ : ∃ a, y.pos = a := ⟨_, rfl⟩
      obtain ⟨b, hb'⟩ : ∃ a, y.len = a := ⟨_, rfl⟩
      rw [ha] at t0 HK HNEW hyy hR hcells
      rw [hb'] at t1 HK HNEW hyy hR hcells hyl
      have HYL := Lib.hid (And.intro hyl hpl)
      have hbb : b ≤ 64 := by omega
      have hb0 : 1 ≤ b := by have := hfit.1; omega
      have hp64 : (p : Int) ≤ 64 := by omega
      have HLT := Lib.hid hlt
      clear hy hb hfit hwd hwt hpw hJq hq hql hx hyl hpl hxe hnw hbw hnew ha hb'
      gi_wp2_with (refine hR.mono ?_; clear hR; rintro e W2 (⟨rfl, hJ2, hk2⟩ | ⟨rfl, hx2⟩); (try (obtain ⟨d0, d1⟩ := pcell (hk2.2 _ _ _ _ HBW.out HNEW.out))))
      · have HJ2 := Lib.hid hJ2
        have HK2 := Lib.hid hk2
        clear hJ2 hk2
        go_roundw
        case rel =>
          obtain ⟨h1, h2, h3, h4⟩ := HX.out
          refine ⟨p + y.l, i + 1, ?_, by first | rfl | go_num | (congr 1), by have := HLT.out; omega, Lib.hid ⟨HI.out.1.trans (HK.out.trans HK2.out), by omega, q ++ [x], ?_, HJ2.out⟩⟩
          · rw [← HYL.out.1]; go_num
          · rw [← h1, List.map_append, List.map_cons, List.map_nil, h4]; simp
        case measure => simp only [intOf]; have := HLT.out; omega
      · refine bodyPost_ret (v := .tuple #[]) (by simp [results, Try.results55, go_sem]) rfl ?_
        refine ⟨⟨_, rfl⟩, .inr ⟨q ++ [x], ?_, hx2⟩⟩
        obtain ⟨h1, h2, h3, h4⟩ := HX.out
        rw [← h1, List.map_append, List.map_cons, List.map_nil, h4]
        exact ⟨placedN (p + y.l) (L.drop (i + 1)), by simp⟩
    · obtain rfl : nn = i := by omega
      obtain ⟨q, hq, hJq⟩ := HI.out.2.2
      rw [List.drop_of_length_le (by rw [HN.out]; exact Nat.le_refl _)] at hq
      simp only [placedN, List.append_nil] at hq
      have HQ := Lib.hid hq
      have HJQ := Lib.hid hJq
      clear hq hJq
      gi_wp2
      go_end0
      exact ⟨⟨_, rfl⟩, .inl ⟨q, HQ.out, HJQ.out⟩⟩

/-- placed hands back its iterator: the list lies in a box of its own. -/
theorem placed_in (F : Fence) (n : Nat) (h1 : F.fn 39) (hro : F.round = none) (A : Option Addr) (m c : Nat) (w : World) :
    CallsIn F n Try.prog 39 #[.slice A m c] w fun e w' => e = .returned (.func (.func 55) #[] #[.pointer (some ⟨w.heap.size, 0, none⟩)]) ∧ w' = w.alloc (.cells #[.slice A m c] 34) := by
  refine callsIn_of_wp Try.func39 rfl h1 ?_ hro
  simp only [Try.ntmps39, List.size_toArray, List.length_cons, List.length_nil, Nat.reduceAdd, Nat.reduceSub, Array.replicate_succ, Array.replicate_zero, List.push_toArray, List.append_toArray, List.nil_append, List.cons_append]
  gi_wp2
  go_ret
  exact ⟨rfl, rfl⟩

/-- The iterator's contract, as a range over it wants it. -/
theorem placed_stops (F : Fence) (hd : F.depth = none) (n : Nat) (h1 : F.fn 55) (hro : F.round = none)
    (w0 : World) (Bt Bw n₀ : Nat) (A : Option Addr) (c : Nat) (L : List MPiece) (hA : PcsIn w0 n₀ A L) (hG : GoodL L) (hc : L.length ≤ c) (hcm : c ≤ maxLen)
    (w : World) (hw : Below n₀ w0 w) (hn0 : n₀ ≤ w.heap.size) (hB : w.heap[Bt]? = some (.cells #[.slice A L.length c] 34 (0, 0))) (hne : Bt ≠ Bw) (hBw : Bw < w.heap.size) :
    SeqStopsK F n Try.prog 55 #[.pointer (some ⟨Bt, 0, none⟩)] PEl.encs (PKp n₀ Bw) (fun ys => ys.map (·.1) = placedN 0 L) (fun pre => pre.map (·.1) <+: placedN 0 L) L.length w := fun l J Jx W hW hJ _ hY h0 =>
  placed1_in F hd n h1 hro w0 l Bt Bw n₀ J Jx (fun s W' o hs => hJ s W' _ none hs (World.grownBy_alloc W' o none) (fun r e => by cases e)) A c L hA hG hc hcm (fun m pre x W hj hl => YieldAt.anyDepth hd m (hY pre x W hj hl)) W (hw.trans (hW.mono hn0)) (Nat.le_trans hn0 hW.size) ((hW.block Bt (Array.getElem?_eq_some_iff.1 hB).1).trans hB) hne (Nat.lt_of_lt_of_le hBw hW.size) h0
end Go.Proofs.Ytjbapjgagiaefaa
