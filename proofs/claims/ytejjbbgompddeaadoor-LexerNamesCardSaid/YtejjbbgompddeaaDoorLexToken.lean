/- token of package lexer. -/
import Derived.Test.YtejjbbgompddeaaDoorLexSkip
import Derived.Deep.RegionHeld3
import Derived.IntWalk
namespace Go.Proofs.YtejjbbgompddeaaDoor
open Go.RowKit Go.Instr
set_option linter.unusedVariables false
set_option linter.unusedSimpArgs false

/-- What the program writes of a token whose text is T. -/
def wrS (k : Int) (T : ByteArray) : ByteArray := if k = 3 then ⟨#[34]⟩ ++ T ++ ⟨#[34]⟩ else T
theorem writtenK_any (k n p : Int) (T : ByteArray) (w : World) (hk : k ≠ 3) :
    Calls Tryd.prog 25 #[.agg #[.int .u8 k, .string T, .int .i64 n, .int .i64 p]] w fun e w' => e = .returned (.string T) ∧ w.alloc (.cells #[.int .u8 k, .string T, .int .i64 n, .int .i64 p] 29) = w' := by
  have h3 : (k == 3) = false := by simpa using hk
  go_enter Tryd.func25, Tryd.ntmps25
  go_wp2
  go_ret
  exact ⟨rfl, rfl⟩
theorem written3_any (n p : Int) (T : ByteArray) (w : World) (hT : T.size ≤ 1000000) :
    Calls Tryd.prog 25 #[.agg #[.int .u8 3, .string T, .int .i64 n, .int .i64 p]] w fun e w' => e = .returned (.string (⟨#[34]⟩ ++ T ++ ⟨#[34]⟩)) ∧ w.alloc (.cells #[.int .u8 3, .string T, .int .i64 n, .int .i64 p] 29) = w' := by
  have n1 : ¬ 9223372036854775807 < 1 + T.size := by omega
  have n2 : ¬ 9223372036854775807 < 1 + T.size + 1 := by omega
  clear hT
  go_enter Tryd.func25, Tryd.ntmps25
  go_wp2
  go_ret
  exact ⟨rfl, rfl⟩
theorem written_any (k n p : Int) (T : ByteArray) (w : World) (hT : T.size ≤ 1000000) :
    Calls Tryd.prog 25 #[.agg #[.int .u8 k, .string T, .int .i64 n, .int .i64 p]] w fun e w' => e = .returned (.string (wrS k T)) ∧ w.alloc (.cells #[.int .u8 k, .string T, .int .i64 n, .int .i64 p] 29) = w' := by
  unfold wrS
  by_cases h : k = 3
  · rw [if_pos h, h]; exact written3_any n p T w hT
  · rw [if_neg h]; exact writtenK_any k n p T w h

/-- What token gives. -/
def TokGives (l : List UInt8) (r a : Nat) (m : Option Nat) (bs : ByteArray) (e : Ending) (w' : World) : Prop :=
  match nextT l with
  | some (x, n) => ∃ T : ByteArray, e = .returned (.tuple #[.agg #[.int .u8 (x.k : Nat), .string T, .int .i64 x.n, .int .i64 a], .bool true]) ∧ T.data.toList = x.t ∧ RdAt w' r bs (a + n) m
  | none => e = .returned (.tuple #[.agg #[.int .u8 0, .string ⟨#[]⟩, .int .i64 0, .int .i64 0], .bool false]) ∧ RdAt w' r bs a m

theorem func_eql (f : Fn) (cs : Array Value) (w : World) : Sem.run Tryd.prog (binOp BinOp.eql 48 (.func f cs #[]) .nilFunc) w = .ok (.bool false) w := by kernel_rfl
theorem nil_eql (w : World) : Sem.run Tryd.prog (binOp BinOp.eql 48 .nilFunc .nilFunc) w = .ok (.bool true) w := by kernel_rfl
theorem set_block {W : World} {B : Nat} {xs ys : Array Value} {ty : TypeId} (h : W.heap[B]? = some (.cells xs ty (0, 0))) (i : Nat) (v : Value) (hy : ys = xs.setIfInBounds i v) :
    (W.setCell ⟨B, i, none⟩ v).heap[B]? = some (.cells ys ty (0, 0)) := by
  have hlt := lt_of_block h
  have h' : W.heap[B] = .cells xs ty (0, 0) := by simpa [Array.getElem?_eq_getElem hlt] using h
  show (W.heap.modify B _)[B]? = _
  rw [Array.getElem?_eq_getElem (by simpa using hlt), Array.getElem_modify_self, h', hy]
  rfl
theorem set4 {W : World} {B : Nat} {x0 x1 x2 x3 : Value} (h : W.heap[B]? = some (.cells #[x0, x1, x2, x3] 29 (0, 0))) (a b c d : Value) :
    ((((W.setCell ⟨B, 0, none⟩ a).setCell ⟨B, 1, none⟩ b).setCell ⟨B, 2, none⟩ c).setCell ⟨B, 3, none⟩ d).heap[B]? = some (.cells #[a, b, c, d] 29 (0, 0)) := by
  have s1 := set_block h 0 a (ys := #[a, x1, x2, x3]) rfl
  have s2 := set_block s1 1 b (ys := #[a, b, x2, x3]) rfl
  have s3 := set_block s2 2 c (ys := #[a, b, c, x3]) rfl
  exact set_block s3 3 d (ys := #[a, b, c, d]) rfl
theorem grown_set_new {w X : World} {row : Option Nat} (h : w.grownBy X row) {p : Addr} (hp : w.heap.size ≤ p.block) (v : Value) : w.grownBy (X.setCell p v) row :=
  ⟨h.os, h.tape, h.output, by have := h.size; simpa using this, fun k hk hr => (Below.heap_setCell _ _ _ _ (by omega)).trans (h.block k hk hr)⟩
theorem grown_alloc {w X : World} {row : Option Nat} (h : w.grownBy X row) (o : Obj) : w.grownBy (X.alloc o) row :=
  grown_trans h (World.grownBy_alloc X o row)
theorem grown_drew {w X : World} {row : Option Nat} (h : w.grownBy X row) : w.grownBy X.drew row := ⟨h.os, h.tape, h.output, h.size, h.block⟩
theorem block_of_tok {w W : World} (hb : Below (w.alloc (.cells #[.int .u8 0, .string ⟨#[]⟩, .int .i64 0, .int .i64 0] 29)).heap.size (w.alloc (.cells #[.int .u8 0, .string ⟨#[]⟩, .int .i64 0, .int .i64 0] 29)) W) :
    W.heap[w.heap.size]? = some (.cells #[.int .u8 0, .string ⟨#[]⟩, .int .i64 0, .int .i64 0] 29 (0, 0)) := by
  have hlt : w.heap.size < (w.alloc (.cells #[.int .u8 0, .string ⟨#[]⟩, .int .i64 0, .int .i64 0] 29)).heap.size := by simp
  have h := (MapKept.heap_alloc w (.cells #[.int .u8 0, .string ⟨#[]⟩, .int .i64 0, .int .i64 0] 29)).1
  exact (hb.block w.heap.size hlt).trans h
/-- The end of token: the result's cells are read. -/
theorem token_end {Wf : World} {B : Nat} {tmps : Array Value} {Q : Ending → World → Prop} {a0 a1 a2 a3 okv : Value} (h2 : tmps.getD 2 undef = .pointer (some ⟨B, 0, none⟩)) (h3 : tmps.getD 3 undef = okv)
    (hb : Wf.heap[B]? = some (.cells #[a0, a1, a2, a3] 29 (0, 0))) (hQ : Q (.returned (.tuple #[.agg #[a0, a1, a2, a3], okv])) Wf) :
    bodyPost Tryd.prog Tryd.f20 Q Exit.ret ⟨tmps, []⟩ Wf := by
  have e0 : Wf.cell? ⟨B, 0, none⟩ = some a0 := by simp [World.cell?, hb]
  have e1 : Wf.cell? ⟨B, 1, none⟩ = some a1 := by simp [World.cell?, hb]
  have e2 : Wf.cell? ⟨B, 2, none⟩ = some a2 := by simp [World.cell?, hb]
  have e3 : Wf.cell? ⟨B, 3, none⟩ = some a3 := by simp [World.cell?, hb]
  have h2' : tmps[2]?.getD undef = .pointer (some ⟨B, 0, none⟩) := by simpa using h2
  have h3' : tmps[3]?.getD undef = okv := by simpa using h3
  exact bodyPost_ret (v := .tuple #[.agg #[a0, a1, a2, a3], okv]) (by simp [results, Tryd.results20, go_sem, h2', h3', e0, e1, e2, e3]) rfl hQ

theorem tok_final {w W2 : World} {r a mm M : Nat} {bs T Y : ByteArray} {k n : Int} {x : Tk} {tmps : Array Value} (HN : nextT (bs.data.toList.drop a) = some (x, mm)) (x1 : k = x.k) (x2 : T.data.toList = x.t) (x3 : n = x.n)
    (hv : (a : Int) + (Y.size : Int) = ((a + mm : Nat) : Int)) (g1 : w.grownBy (W2.setCell ⟨r, 1, none⟩ (.int .i64 ((a : Int) + (Y.size : Int)))) (some r)) (g2 : RdAt (W2.setCell ⟨r, 1, none⟩ (.int .i64 ((a : Int) + (Y.size : Int)))) r bs (a + mm) (some M))
    (hBB : W2.heap[w.heap.size]? = some (.cells #[.int .u8 0, .string ⟨#[]⟩, .int .i64 0, .int .i64 0] 29 (0, 0))) (hwr : w.heap.size ≠ r) (hrW : r < W2.heap.size)
    (t2 : tmps.getD 2 undef = .pointer (some ⟨w.heap.size, 0, none⟩)) (t3 : tmps.getD 3 undef = .bool true) (o : Obj) :
    bodyPost Tryd.prog Tryd.f20 (fun e w' => TokGives (bs.data.toList.drop a) r a (some M) bs e w' ∧ w.grownBy w' (some r)) Exit.ret ⟨tmps, []⟩
      ((((((W2.setCell ⟨r, 1, none⟩ (.int .i64 ((a : Int) + (Y.size : Int)))).setCell ⟨w.heap.size, 0, none⟩ (.int .u8 k)).setCell ⟨w.heap.size, 1, none⟩ (.string T)).setCell ⟨w.heap.size, 2, none⟩ (.int .i64 n)).setCell ⟨w.heap.size, 3, none⟩ (.int .i64 (a : Int))).alloc o).drew := by
  have hX := (Below.heap_setCell W2 ⟨r, 1, none⟩ (.int .i64 ((a : Int) + (Y.size : Int))) w.heap.size hwr).trans hBB
  have h4 := set4 hX (.int .u8 k) (.string T) (.int .i64 n) (.int .i64 (a : Int))
  have g5 := grown_set_new (grown_set_new (grown_set_new (grown_set_new g1 (Nat.le_refl w.heap.size) (p := ⟨w.heap.size, 0, none⟩) (.int .u8 k)) (Nat.le_refl w.heap.size) (p := ⟨w.heap.size, 1, none⟩) (.string T)) (Nat.le_refl w.heap.size) (p := ⟨w.heap.size, 2, none⟩) (.int .i64 n)) (Nat.le_refl w.heap.size) (p := ⟨w.heap.size, 3, none⟩) (.int .i64 (a : Int))
  have r5 : RdAt ((((((W2.setCell ⟨r, 1, none⟩ (.int .i64 ((a : Int) + (Y.size : Int)))).setCell ⟨w.heap.size, 0, none⟩ (.int .u8 k)).setCell ⟨w.heap.size, 1, none⟩ (.string T)).setCell ⟨w.heap.size, 2, none⟩ (.int .i64 n)).setCell ⟨w.heap.size, 3, none⟩ (.int .i64 (a : Int)))) r bs (a + mm) (some M) := by
    unfold RdAt at g2 ⊢
    rw [Below.heap_setCell _ _ _ _ (Ne.symm hwr), Below.heap_setCell _ _ _ _ (Ne.symm hwr), Below.heap_setCell _ _ _ _ (Ne.symm hwr), Below.heap_setCell _ _ _ _ (Ne.symm hwr)]
    exact g2
  generalize ((((W2.setCell ⟨r, 1, none⟩ (.int .i64 ((a : Int) + (Y.size : Int)))).setCell ⟨w.heap.size, 0, none⟩ (.int .u8 k)).setCell ⟨w.heap.size, 1, none⟩ (.string T)).setCell ⟨w.heap.size, 2, none⟩ (.int .i64 n)).setCell ⟨w.heap.size, 3, none⟩ (.int .i64 (a : Int)) = X at *
  refine token_end (B := w.heap.size) t2 t3 (Wf := (X.alloc o).drew) ((Below.heap_alloc X o w.heap.size (lt_of_block h4)).trans h4) ⟨?_, grown_drew (grown_alloc g5 o)⟩
  unfold TokGives
  rw [HN]
  refine ⟨T, by rw [x1, x3], x2, ?_⟩
  have hlt := r5.lt
  unfold RdAt at r5 ⊢
  exact (Below.heap_alloc X o r hlt).trans r5

/-- What the entries of the map of forms say of a class. -/
def FormOf (q F : Nat) : Prop := ∃ i, ∀ r, findNow (.int .u8) (.int .u8 (q : Int)) (formsE r).toList 0 = some (some (i, .func (Fn.func F) #[.pointer (some ⟨r, 0, none⟩)] #[]))
set_option warningAsError false in
set_option maxHeartbeats 4000000 in
set_option maxRecDepth 100000 in
theorem token_form (F q r a M : Nat) (hq : FormOf q F) (hen : ∀ (args : Array Value) (w : World), Sem.run Tryd.prog (callFunc F args) w = .ok (.enter F args) w) (bs : ByteArray) (w : World) (hr : RdAt w r bs a (some M)) (hF : FormsAt w r M) (hT : LaidOn w r) (hbs : bs.size ≤ 999999) (ha : a < bs.size) (hcl : clsI bs.data.toList a = q)
    (hform : ∀ W, Below w.heap.size w W → Calls Tryd.prog F #[.pointer (some ⟨r, 0, none⟩)] W fun e w' => FormGives (bs.data.toList.drop a) e ∧ Below W.heap.size W w') :
    Calls Tryd.prog 20 #[.pointer (some ⟨r, 0, none⟩)] w fun e w' => TokGives (bs.data.toList.drop a) r a (some M) bs e w' ∧ w.grownBy w' (some r) := by
  have c0 := hr.c0
  have c1 := hr.c1
  have c2 := hr.c2
  have f1 := hr.f1
  have hlt := hr.lt
  have HC := Lib.hid (fun W (hb : Below w.heap.size w W) => class_any r a a (some M) bs W (hr.below hb) (hT W (grown_below hb)).cls (by omega) (by omega))
  rw [hcl] at HC
  obtain ⟨i, hi⟩ := hq
  have hlk : ∀ n, (Instr.lookup 44 (.map (some M)) (.int .u8 (q : Int)) false).run Tryd.prog ((w.alloc (.cells #[.int .u8 0, .string ⟨#[]⟩, .int .i64 0, .int .i64 0] 29)).drewN n) = .ok (.func (Fn.func F) #[.pointer (some ⟨r, 0, none⟩)] #[]) ((w.alloc (.cells #[.int .u8 0, .string ⟨#[]⟩, .int .i64 0, .int .i64 0] 29)).drewN n) := fun n =>
    look_run (i := i) (c := 6) (es := formsE r) (hF.below (((Below.refl _ _).alloc (Nat.le_refl _) _).trans (drewN_below _ _ |>.mono (by simp)))) (hi r)
  have hfe := func_eql
  have HFM := Lib.hid hform
  have HR := Lib.hid hr
  have HB0 := Lib.hid (And.intro hbs ha)
  clear hr hF hT hbs ha hcl hi hform
  go_enter Tryd.func20, Tryd.ntmps20
  go_wp2
  go_quiet ((go_at_call 37; exact quiet_left (HC.out _ (((Below.refl _ _).alloc (Nat.le_refl _) _).trans (drewN_below _ _ |>.mono (by simp))))))
  clear hlk HC
  go_wp2_with (fail)
  have hbW : ∀ nq, Below w.heap.size w ((w.alloc (.cells #[.int .u8 0, .string ⟨#[]⟩, .int .i64 0, .int .i64 0] 29)).drewN nq) := fun nq => ((Below.refl _ _).alloc (Nat.le_refl _) _).trans (drewN_below _ _ |>.mono (by simp))
  refine (HFM.out _ (hbW _)).mono ?_
  rintro e w1 ⟨⟨k, T, n, ok, rfl, hok, hx⟩, hb1⟩
  have HB1 := Lib.hid ((hbW _).trans (hb1.mono (hbW _).size))
  have HBT := Lib.hid (show Below (w.alloc (.cells #[.int .u8 0, .string ⟨#[]⟩, .int .i64 0, .int .i64 0] 29)).heap.size (w.alloc (.cells #[.int .u8 0, .string ⟨#[]⟩, .int .i64 0, .int .i64 0] 29)) w1 from Below.trans (drewN_below (w.alloc (.cells #[.int .u8 0, .string ⟨#[]⟩, .int .i64 0, .int .i64 0] 29)) _) hb1)
  have HOK := Lib.hid (And.intro hok hx)
  obtain ⟨h0, h1, h2, h3, f0⟩ := tokCells HBT.out
  have HR1 := Lib.hid (HR.out.below HB1.out)
  clear hok hx hb1 hbW c0 c1 c2 f1
  have c1 := HR1.out.c1
  have f1 := HR1.out.f1
  have hlt1 := HR1.out.lt
  have hsz : w.heap.size < w1.heap.size := by have := HBT.out.size; simp at this; omega
  cases ok with
  | false =>
    have HN : Hid (nextT (bs.data.toList.drop a) = none) := Lib.hid (by
      have := HOK.out.1
      cases hn : nextT (bs.data.toList.drop a) with
      | none => rfl
      | some y => rw [hn] at this; cases this)
    go_wp2
    refine token_end (B := w.heap.size) rfl rfl ((Below.heap_alloc _ _ _ (by simpa using hsz)).trans (set4 (block_of_tok HBT.out) _ _ _ _)) ⟨?_, ?_⟩
    · unfold TokGives
      rw [HN.out]
      refine ⟨rfl, ?_⟩
      refine RdAt.below (w := (((w1.setCell ⟨w.heap.size, 0, none⟩ (.int .u8 0)).setCell ⟨w.heap.size, 1, none⟩ (.string ⟨#[]⟩)).setCell ⟨w.heap.size, 2, none⟩ (.int .i64 0)).setCell ⟨w.heap.size, 3, none⟩ (.int .i64 0)) ?_ ((Below.refl _ _).alloc (Nat.le_refl _) _)
      have e := HR1.out
      unfold RdAt at e ⊢
      rw [Below.heap_setCell _ _ _ _ (show r ≠ w.heap.size by omega), Below.heap_setCell _ _ _ _ (show r ≠ w.heap.size by omega), Below.heap_setCell _ _ _ _ (show r ≠ w.heap.size by omega), Below.heap_setCell _ _ _ _ (show r ≠ w.heap.size by omega)]
      exact e
    · refine grown_below ?_
      refine Below.alloc ?_ (by simp; have := HB1.out.size; omega) _
      exact (((HB1.out.setCell (Nat.le_refl _) _).setCell (Nat.le_refl _) _).setCell (Nat.le_refl _) _).setCell (Nat.le_refl _) _
  | true =>
    obtain ⟨x, mm, HN⟩ : ∃ x mm, Hid (nextT (bs.data.toList.drop a) = some (x, mm)) := by
      have := HOK.out.1
      cases hn : nextT (bs.data.toList.drop a) with
      | none => rw [hn] at this; cases this
      | some y => exact ⟨y.1, y.2, Lib.hid rfl⟩
    obtain ⟨m1, m2, m3, m4⟩ := nextT_le HN.out
    obtain ⟨x1, x2, x3, x4⟩ := HOK.out.2 _ _ HN.out
    have hlen : (bs.data.toList.drop a).length = bs.size - a := by rw [List.length_drop]; rfl
    have hYs : (wrS k T).size = mm := by
      have e : (wrS k T).data.toList = wr x := by
        unfold wrS wr
        by_cases h3 : x.k = 3
        · rw [if_pos h3, if_pos (by rw [x1, h3]; rfl)]; simp [x2]
        · rw [if_neg h3, if_neg (by rw [x1]; omega), x2]
      have : (wrS k T).data.toList.length = (wrS k T).size := rfl
      rw [← this, e, m3]
    have HX := Lib.hid (And.intro x1 (And.intro x2 x3))
    have hTs : T.size ≤ 1000000 := by have := HB0.out; omega
    have HA := Lib.hid (show a + mm ≤ 999999 by have := HB0.out; omega)
    clear m1 m2 m3 m4 x1 x2 x3 x4 hlen
    go_wp2_with (fail)
    obtain ⟨W2, hW2⟩ : ∃ W2, W2 = w1.alloc (.cells #[.int .u8 k, .string T, .int .i64 n, .int .i64 (a : Int)] 29) := ⟨_, rfl⟩
    obtain ⟨g, hg⟩ : ∃ g, g = w1.heap.size := ⟨_, rfl⟩
    have hb2 : W2.heap[g]? = some (.cells #[.int .u8 k, .string T, .int .i64 n, .int .i64 (a : Int)] 29 (0, 0)) := by rw [hW2, hg]; exact (MapKept.heap_alloc _ _).1
    have hB2 : Below w1.heap.size w1 W2 := by rw [hW2]; exact (Below.refl _ _).alloc (Nat.le_refl _) _
    rw [← hW2, ← hg]
    have HRW := Lib.hid (HR1.out.below hB2)
    have HW2 := Lib.hid hW2
    have HG := Lib.hid hg
    have HB2 := Lib.hid hB2
    have tf : ∀ o, W2.frozen? ⟨g, o, none⟩ = false := fun o => by simp [World.frozen?, hb2]
    have t0 : W2.cell? ⟨g, 0, none⟩ = some (.int .u8 k) := by simp [World.cell?, hb2]
    have t1 : W2.cell? ⟨g, 1, none⟩ = some (.string T) := by simp [World.cell?, hb2]
    have t2 : W2.cell? ⟨g, 2, none⟩ = some (.int .i64 n) := by simp [World.cell?, hb2]
    have t3 : W2.cell? ⟨g, 3, none⟩ = some (.int .i64 (a : Int)) := by simp [World.cell?, hb2]
    have HBK := Lib.hid hb2
    have hgW : g < W2.heap.size := lt_of_block hb2
    have hrg : r < g := by omega
    have hrW : r < W2.heap.size := by omega
    have c1W := HRW.out.c1
    have f1W := HRW.out.f1
    clear hW2 hg hB2 hb2 c1 f1 h0 h1 h2 h3 f0 hlt1 hfe
    have HW := Lib.hid (fun p W => written_any k n p T W hTs)
    obtain ⟨Y, hY⟩ : ∃ Y, Y = wrS k T := ⟨_, rfl⟩
    rw [← hY] at HW hYs
    have hYa : (a : Int) + (Y.size : Int) ≤ 999999 := by have := HA.out; omega
    have hYw : IntKind.i64.wrap ((a : Int) + (Y.size : Int)) = (a : Int) + (Y.size : Int) := IntWalk.i64_in _ (by omega)
    have HYS := Lib.hid hYs
    obtain ⟨q0, q1, q2, q3, qf⟩ := tokCells (HBT.out.trans (HB2.out.mono HBT.out.size))
    have hwr : w.heap.size ≠ r := by omega
    have hgr : g ≠ r := by omega
    have hwW : w.heap.size < W2.heap.size := by have := HG.out; omega
    have hgw : g ≠ w.heap.size := by have := HG.out; omega
    clear hY hYs hTs
    have HBB := Lib.hid (block_of_tok (HBT.out.trans (HB2.out.mono HBT.out.size)))
    have HGF : Hid (∀ v : Int, v = ((a + mm : Nat) : Int) → w.grownBy (W2.setCell ⟨r, 1, none⟩ (.int .i64 v)) (some r) ∧ RdAt (W2.setCell ⟨r, 1, none⟩ (.int .i64 v)) r bs (a + mm) (some M)) := Lib.hid (fun v hv =>
      ⟨grown_trans (grown_below (HB1.out.trans (HB2.out.mono HB1.out.size))) (grown_set _ _ _), RdAt.set1' HRW.out _ _ hv⟩)
    have hne : ∀ o, (⟨g, o, none⟩ : Addr) ≠ ⟨r, 1, none⟩ := fun o e => by injection e with e; omega
    go_region_held3 (fun w' => w'.cell? ⟨g, 0, none⟩ = some (.int .u8 k) ∧ w'.cell? ⟨g, 1, none⟩ = some (.string T) ∧ w'.cell? ⟨g, 2, none⟩ = some (.int .i64 n) ∧ w'.cell? ⟨g, 3, none⟩ = some (.int .i64 (a : Int)))
      (first | exact ⟨t0, t1, t2, t3⟩ | (refine ⟨?_, ?_, ?_, ?_⟩ <;> go_simp; done))
      ((first
        | (go_at_call 25; (with_reducible refine (HW.out _ _).mono ?_); rintro e w9 ⟨rfl, rfl⟩)
        | fail "stood"))
    all_goals
      go_wp2
      have hv : (a : Int) + (Y.size : Int) = ((a + mm : Nat) : Int) := by have := HYS.out; omega
      exact tok_final HN.out HX.out.1 HX.out.2.1 HX.out.2.2 hv (HGF.out _ hv).1 (HGF.out _ hv).2 HBB.out hwr hrW rfl rfl _
end Go.Proofs.YtejjbbgompddeaaDoor
