import Derived.Test.YtnjpdlfilfekoaaGreatDoorRows
import Derived.Test.YtnjpdlfilfekoaaGreatDoorGb
import Derived.KernelRfl
import Derived.Below
import Derived.LaidSub
import Derived.Test.YtnjpdlfilfekoaaGreatDoorPf
import Derived.Test.YtnjpdlfilfekoaaGreatDoorGp
import Derived.Test.YtnjpdlfilfekoaaGreatDoorPe
namespace Go.Proofs.YtnjpdlfilfekoaaGreatDoor
open Go.RowKit
set_option linter.unusedVariables false
set_option linter.unusedSimpArgs false
inductive VQ : Value → Value → Prop
 | lit (v : Value) : VQ v v
inductive VQL : List Value → List Value → Prop
 | nil : VQL [] []
 | cons {v x : Value} {l xs : List Value} (h : VQ v x) (t : VQL l xs) : VQL (v :: l) (x :: xs)
theorem VQL.get {l : List Value} : ∀ {xs : List Value}, VQL l xs → ∀ (i : Nat) (v : Value), l[i]? = some v → ∃ x, xs[i]? = some x ∧ VQ v x := by
 induction l with
 | nil => intro xs h i v hv; simp at hv
 | cons u l ih =>
   intro xs h i v hv
   cases h with
   | cons h t =>
     cases i with
     | zero => simp at hv; subst hv; exact ⟨_, rfl, h⟩
     | succ i => simpa using ih t i v (by simpa using hv)
theorem VQL.append {l m : List Value} : ∀ {xs ys : List Value}, VQL l xs → VQL m ys → VQL (l ++ m) (xs ++ ys) := by
 induction l with
 | nil => intro xs ys h k; cases h; exact k
 | cons v l ih => intro xs ys h k; cases h with | cons h t => exact .cons h (ih t k)
def z6i (P : Program) (lay : TypeId → DataW Unit → Option (List Value)) : List Field → List (DataW Unit) → Nat → Option (List Value)
 | [], [], _ => some []
 | f :: fs, d :: ds, off => match f.offset == off, lay f.type d, z6i P lay fs ds (off + P.cellsOf f.type) with
   | true, some a, some b => match a.length == P.cellsOf f.type with
     | true => some (a ++ b)
     | false => none
   | _, _, _ => none
 | _, _, _ => none
def z8c (k : Nat) (lay : DataW Unit → Option (List Value)) : List (DataW Unit) → Option (List Value)
 | [] => some []
 | d :: ds => match lay d, z8c k lay ds with
   | some a, some b => match a.length == k with
     | true => some (a ++ b)
     | false => none
   | _, _ => none
def layC (P : Program) : Nat → TypeId → DataW Unit → Option (List Value)
 | 0, _, _ => none
 | n + 1, t, d => match P.underlying t, d with
   | some .bool, .lit (.bool b) => some [.bool b]
   | some (.int k), .lit (.int _ z) => some [.int k z]
   | some .string, .lit (.string s) => some [.string ⟨s.toArray⟩]
   | some (.struct fs), .agg ds => z6i P (layC P n) fs.toList ds 0
   | some (.array m e), .agg ds => z8c (P.cellsOf e) (layC P n e) ds
   | _, _ => none
section
variable {P : Program} {w : World}
theorem zl8 {enc : TypeId × Value → Unit} {spare : Nat → Bool} {held : Bool} {fuel n : Nat} {cs : List Value} (ih : ∀ {t : TypeId} {d : DataW Unit} {cs : List Value} {p : List MemPlace} {vs : List Value}, layC P n t d = some vs → DataW.trod enc P w 0 spare held fuel t cs = some (d, p) → VQL vs (cs.take vs.length)) :
 ∀ (fs : List Field) {xs : List (DataW Unit × List MemPlace)} {off : Nat} {vs : List Value}, (fs.mapM fun f => DataW.trod enc P w 0 spare held fuel f.type ((cs.drop f.offset).take (P.cellsOf f.type))) = some xs →
  z6i P (layC P n) fs (xs.map (·.1)) off = some vs → VQL vs ((cs.drop off).take vs.length) := by
 intro fs
 induction fs with
 | nil => intro xs off vs hx hv; cases hx; cases hv; simpa using VQL.nil
 | cons f fs ihf =>
   intro xs off vs hx hv
   rw [List.mapM_cons] at hx
   cases h1 : DataW.trod enc P w 0 spare held fuel f.type ((cs.drop f.offset).take (P.cellsOf f.type)) with
   | none => rw [h1] at hx; cases hx
   | some x =>
     rw [h1] at hx
     cases h2 : (fs.mapM fun f => DataW.trod enc P w 0 spare held fuel f.type ((cs.drop f.offset).take (P.cellsOf f.type))) with
     | none => rw [h2] at hx; cases hx
     | some ys =>
       rw [h2] at hx
       cases hx
       obtain ⟨d, p⟩ := x
       unfold z6i at hv
       simp only [List.map_cons] at hv
       split at hv
       ·rename_i a b ho ha hb
        split at hv
        ·rename_i hl
         cases hv
         have ho : f.offset = off := by simpa using ho
         have hl : a.length = P.cellsOf f.type := by simpa using hl
         subst ho
         have r1 := ih ha h1
         have r2 := ihf h2 hb
         rw [List.length_append, List.take_add]
         rw [← hl, List.take_take, Nat.min_self] at r1
         refine r1.append ?_
         rw [List.drop_drop]
         rw [← hl] at r2
         exact r2
        ·cases hv
       ·cases hv
theorem zo5 {enc : TypeId × Value → Unit} {spare : Nat → Bool} {held : Bool} {fuel n k : Nat} {e : TypeId} {cs : List Value} (ih : ∀ {t : TypeId} {d : DataW Unit} {cs : List Value} {p : List MemPlace} {vs : List Value}, layC P n t d = some vs → DataW.trod enc P w 0 spare held fuel t cs = some (d, p) → VQL vs (cs.take vs.length)) :
 ∀ (m s : Nat) {xs : List (DataW Unit × List MemPlace)} {vs : List Value}, ((List.range' s m).mapM fun i => DataW.trod enc P w 0 spare held fuel e ((cs.drop (i * k)).take k)) = some xs →
  z8c k (layC P n e) (xs.map (·.1)) = some vs → VQL vs ((cs.drop (s * k)).take vs.length) ∧ vs.length = m * k := by
 intro m
 induction m with
 | zero => intro s xs vs hx hv; cases hx; cases hv; exact ⟨by simpa using VQL.nil, by simp⟩
 | succ m ihm =>
   intro s xs vs hx hv
   rw [List.range'_succ, List.mapM_cons] at hx
   cases h1 : DataW.trod enc P w 0 spare held fuel e ((cs.drop (s * k)).take k) with
   | none => rw [h1] at hx; cases hx
   | some x =>
     rw [h1] at hx
     cases h2 : ((List.range' (s + 1) m).mapM fun i => DataW.trod enc P w 0 spare held fuel e ((cs.drop (i * k)).take k)) with
     | none => rw [h2] at hx; cases hx
     | some ys =>
       rw [h2] at hx
       cases hx
       obtain ⟨d, p⟩ := x
       unfold z8c at hv
       simp only [List.map_cons] at hv
       split at hv
       ·rename_i a b ha hb
        split at hv
        ·rename_i hl
         cases hv
         have hl : a.length = k := by simpa using hl
         have r1 := ih ha h1
         obtain ⟨r2, r3⟩ := ihm _ h2 hb
         refine ⟨?_, by rw [List.length_append, hl, r3, Nat.add_mul]; omega⟩
         rw [List.length_append, List.take_add]
         rw [← hl, List.take_take, Nat.min_self, hl] at r1
         refine VQL.append (by rw [hl]; exact r1) ?_
         rw [List.drop_drop, hl, show s * k + k = (s + 1) * k by rw [Nat.add_mul]; omega]
         exact r2
        ·cases hv
       ·cases hv
theorem zv7 {enc : TypeId × Value → Unit} {spare : Nat → Bool} {held : Bool} : ∀ (n : Nat) {fuel : Nat} {t : TypeId} {d : DataW Unit} {cs : List Value} {p : List MemPlace} {vs : List Value}, layC P n t d = some vs → DataW.trod enc P w 0 spare held fuel t cs = some (d, p) → VQL vs (cs.take vs.length) := by
 intro n
 induction n with
 | zero => intro fuel t d cs p vs h; cases h
 | succ n ih =>
   intro fuel t d cs p vs hv ht
   cases fuel with
   | zero => unfold DataW.trod at ht; cases ht
   | succ fuel =>
     unfold layC at hv
     unfold DataW.trod at ht
     split at hv
     ·rename_i b hu
      rw [hu] at ht
      cases hv
      split at ht <;> first | (cases ht; done) | skip
      all_goals (first | (rename_i e; cases e; done) | skip)
      all_goals (first | (cases ht; exact .cons (.lit _) .nil) | (split at ht <;> cases ht) | skip)
     ·rename_i k k' z hu
      rw [hu] at ht
      cases hv
      split at ht <;> first | (cases ht; done) | skip
      all_goals (first | (rename_i e; cases e; done) | skip)
      all_goals
       rename_i e
       cases e
       split at ht
       ·rename_i e2
        obtain ⟨rfl, _⟩ := e2
        cases ht
        exact .cons (.lit _) .nil
       ·cases ht
     ·rename_i s hu
      rw [hu] at ht
      cases hv
      split at ht <;> first | (cases ht; done) | skip
      all_goals (first | (rename_i e; cases e; done) | skip)
      all_goals (first | (split at ht <;> first | (cases ht; done) | (cases ht; exact .cons (.lit _) .nil)) | skip)
     ·rename_i fs ds hu
      rw [hu] at ht
      simp only [] at ht
      split at ht
      ·rename_i hl
       cases hx : (fs.toList.mapM fun f => DataW.trod enc P w 0 spare held fuel f.type ((cs.drop f.offset).take (P.cellsOf f.type))) with
       | none => rw [hx] at ht; cases ht
       | some xs =>
         rw [hx] at ht
         cases ht
         have := zl8 (cs := cs) (fun h1 h2 => ih h1 h2) fs.toList hx hv
         rw [List.drop_zero] at this
         exact this
      ·cases ht
     ·rename_i m e ds hu
      rw [hu] at ht
      simp only [] at ht
      split at ht
      ·rename_i hl
       rw [List.range_eq_range'] at ht
       cases hx : ((List.range' 0 m).mapM fun i => DataW.trod enc P w 0 spare held fuel e ((cs.drop (i * P.cellsOf e)).take (P.cellsOf e))) with
       | none => rw [hx] at ht; cases ht
       | some xs =>
         rw [hx] at ht
         cases ht
         obtain ⟨r1, r2⟩ := zo5 (cs := cs) (fun h1 h2 => ih h1 h2) m 0 hx hv
         rw [Nat.zero_mul, List.drop_zero] at r1
         exact r1
      ·cases ht
     ·cases hv
theorem zsg {l : List (String × DataW Unit)} : ∀ {ps : List MemPlace}, DataW.LaidVars P w l ps → ∀ {n : String} {d : DataW Unit}, (n, d) ∈ l → ∃ g t cs fuel p, P.globalNamed n = some g ∧ (P.globals[g]?).map (·.type) = some t ∧ w.var? P n = some cs ∧ DataW.trod (fun _ => ()) P w 0 (fun _ => true) false fuel t cs.toList = some (d, p) := by
 induction l with
 | nil => intro ps _ n d h; cases h
 | cons x l ih =>
   intro ps h n d hm
   obtain ⟨g, t, cs, fuel, p, q, h1, h2, h3, h4, h5, _⟩ := h
   cases hm with
   | head => exact ⟨g, t, cs, fuel, p, h1, h2, h3, h4⟩
   | tail _ hm => exact ih h5 hm
theorem zr0 {n : String} {g : Nat} {cs : Array Value} (hg : P.globalNamed n = some g) (hv : w.var? P n = some cs) : ∃ el fr, w.heap[g]? = some (.cells cs el fr) := by
 unfold World.var? at hv
 rw [hg] at hv
 simp only [Option.bind_some] at hv
 split at hv
 ·rename_i e; cases hv; exact ⟨_, _, e⟩
 ·cases hv
theorem zlu {l : List (String × DataW Unit)} (hm : laidMet P l w) {n : String} {d : DataW Unit} (hn : (n, d) ∈ l) {g : Nat} (hg : P.globalNamed n = some g) {t : TypeId} (ht : (P.globals[g]?).map (·.type) = some t) {k : Nat} {vs : List Value} (hl : layC P k t d = some vs) :
 ∃ (c : Array Value) (el : TypeId) (fr : Nat × Nat), w.heap[g]? = some (.cells c el fr) ∧ ∀ (i : Nat) (v : Value), vs[i]? = some v → ∃ x : Value, c[i]? = some x ∧ VQ v x := by
 obtain ⟨ps, hv, _⟩ := hm
 obtain ⟨g', t', cs, fuel, p, h1, h2, h3, h4⟩ := zsg hv hn
 rw [hg] at h1; cases h1
 rw [ht] at h2; cases h2
 obtain ⟨el, fr, hc⟩ := zr0 hg h3
 refine ⟨cs, el, fr, hc, fun i v hi => ?_⟩
 obtain ⟨x, hx, hvx⟩ := (zv7 k hl h4).get i v hi
 rw [List.getElem?_take] at hx
 split at hx
 ·exact ⟨x, by simpa using hx, hvx⟩
 ·cases hx
end
theorem zbg : (Rows.machineOverlapsRow.laid.filter fun x => x.2.handleName?.isNone) = Rows.machineOverlapsRow.laid := by kernel_rfl
set_option maxRecDepth 100000 in
theorem zq0 (W : World) (hL : laidMetH Tryz.prog Rows.machineOverlapsRow.laid W) : zi W := by
 have hm : laidMet Tryz.prog Rows.machineOverlapsRow.laid W := by
  have h1 := (laidMetH_iff.1 hL).1
  rw [zbg] at h1
  exact h1
 have h5 := zlu hm (List.mem_of_getElem? (show Rows.machineOverlapsRow.laid[0]? = some _ from rfl)) (g := 0) (by kernel_rfl) (t := ((Tryz.prog.globals[0]?).map (·.type)).getD 0) (by kernel_rfl) (k := 8) (vs := [(.string ⟨#[]⟩), (.int .i64 0), (.string ⟨#[]⟩), (.int .i64 0), (.string ⟨#[]⟩), (.int .i64 0), (.string ⟨#[110, 111, 116]⟩), (.int .i64 1), (.string ⟨#[110, 101, 103]⟩), (.int .i64 1), (.string ⟨#[97, 100, 100]⟩), (.int .i64 2), (.string ⟨#[115, 117, 98]⟩), (.int .i64 2), (.string ⟨#[109, 117, 108]⟩), (.int .i64 2), (.string ⟨#[97, 110, 100]⟩), (.int .i64 2), (.string ⟨#[111, 114]⟩), (.int .i64 2), (.string ⟨#[120, 111, 114]⟩), (.int .i64 2), (.string ⟨#[115, 104, 108]⟩), (.int .i64 2), (.string ⟨#[115, 104, 114]⟩), (.int .i64 2), (.string ⟨#[115, 97, 114]⟩), (.int .i64 2), (.string ⟨#[117, 100, 105, 118]⟩), (.int .i64 2), (.string ⟨#[117, 114, 101, 109]⟩), (.int .i64 2), (.string ⟨#[101, 113]⟩), (.int .i64 2), (.string ⟨#[117, 108, 116]⟩), (.int .i64 2), (.string ⟨#[115, 108, 116]⟩), (.int .i64 2), (.string ⟨#[105, 116, 101]⟩), (.int .i64 3), (.string ⟨#[99, 111, 110, 99, 97, 116]⟩), (.int .i64 2), (.string ⟨#[101, 120, 116, 114, 97, 99, 116]⟩), (.int .i64 1), (.string ⟨#[122, 101, 120, 116]⟩), (.int .i64 1), (.string ⟨#[115, 101, 120, 116]⟩), (.int .i64 1), (.string ⟨#[108, 111, 97, 100]⟩), (.int .i64 1)]) (by kernel_rfl)
 obtain ⟨c, el, fr, hc, hv⟩ := h5
 intro k hk
 have key : ∀ (v : Value), c[k * 2 + 1]? = some v → W.cell? ⟨0, k * 2 + 1, none⟩ = some v := fun v h => by simp [World.cell?, hc, h]
 apply key
 rcases (by omega : k = 0 ∨ k = 1 ∨ k = 2 ∨ k = 3 ∨ k = 4 ∨ k = 5 ∨ k = 6 ∨ k = 7 ∨ k = 8 ∨ k = 9 ∨ k = 10 ∨ k = 11 ∨ k = 12 ∨ k = 13 ∨ k = 14 ∨ k = 15 ∨ k = 16 ∨ k = 17 ∨ k = 18 ∨ k = 19 ∨ k = 20 ∨ k = 21 ∨ k = 22 ∨ k = 23 ∨ k = 24) with rfl | rfl | rfl | rfl | rfl | rfl | rfl | rfl | rfl | rfl | rfl | rfl | rfl | rfl | rfl | rfl | rfl | rfl | rfl | rfl | rfl | rfl | rfl | rfl | rfl
 ·obtain ⟨x, hx, hr⟩ := hv 1 _ rfl; cases hr; exact hx
 ·obtain ⟨x, hx, hr⟩ := hv 3 _ rfl; cases hr; exact hx
 ·obtain ⟨x, hx, hr⟩ := hv 5 _ rfl; cases hr; exact hx
 ·obtain ⟨x, hx, hr⟩ := hv 7 _ rfl; cases hr; exact hx
 ·obtain ⟨x, hx, hr⟩ := hv 9 _ rfl; cases hr; exact hx
 ·obtain ⟨x, hx, hr⟩ := hv 11 _ rfl; cases hr; exact hx
 ·obtain ⟨x, hx, hr⟩ := hv 13 _ rfl; cases hr; exact hx
 ·obtain ⟨x, hx, hr⟩ := hv 15 _ rfl; cases hr; exact hx
 ·obtain ⟨x, hx, hr⟩ := hv 17 _ rfl; cases hr; exact hx
 ·obtain ⟨x, hx, hr⟩ := hv 19 _ rfl; cases hr; exact hx
 ·obtain ⟨x, hx, hr⟩ := hv 21 _ rfl; cases hr; exact hx
 ·obtain ⟨x, hx, hr⟩ := hv 23 _ rfl; cases hr; exact hx
 ·obtain ⟨x, hx, hr⟩ := hv 25 _ rfl; cases hr; exact hx
 ·obtain ⟨x, hx, hr⟩ := hv 27 _ rfl; cases hr; exact hx
 ·obtain ⟨x, hx, hr⟩ := hv 29 _ rfl; cases hr; exact hx
 ·obtain ⟨x, hx, hr⟩ := hv 31 _ rfl; cases hr; exact hx
 ·obtain ⟨x, hx, hr⟩ := hv 33 _ rfl; cases hr; exact hx
 ·obtain ⟨x, hx, hr⟩ := hv 35 _ rfl; cases hr; exact hx
 ·obtain ⟨x, hx, hr⟩ := hv 37 _ rfl; cases hr; exact hx
 ·obtain ⟨x, hx, hr⟩ := hv 39 _ rfl; cases hr; exact hx
 ·obtain ⟨x, hx, hr⟩ := hv 41 _ rfl; cases hr; exact hx
 ·obtain ⟨x, hx, hr⟩ := hv 43 _ rfl; cases hr; exact hx
 ·obtain ⟨x, hx, hr⟩ := hv 45 _ rfl; cases hr; exact hx
 ·obtain ⟨x, hx, hr⟩ := hv 47 _ rfl; cases hr; exact hx
 ·obtain ⟨x, hx, hr⟩ := hv 49 _ rfl; cases hr; exact hx
end Go.Proofs.YtnjpdlfilfekoaaGreatDoor
namespace Go.Proofs.YtnjpdlfilfekoaaGreatDoor
open Go.RowKit Go.Instr
set_option linter.unusedVariables false
set_option linter.unusedSimpArgs false
set_option maxRecDepth 100000
theorem zjr (m : Mach) (a b : Int) : z1d m [b, a] = z1d m [a, b] := by
 unfold z1d
 simp only [List.all_cons, List.all_nil, Bool.and_true]
 rw [Bool.and_comm]
theorem zq2 (R : List MReg) (i j : Nat) (x y : MReg) : z6s R j i y x = z6s R i j x y := by
 unfold z6s
 rw [show (z1i R j y == z1i R i x) = (z1i R i x == z1i R j y) from Bool.eq_iff_iff.2 ⟨fun h => by simp at h ⊢; omega, fun h => by simp at h ⊢; omega⟩]
 congr 1
 exact Bool.and_comm _ _
theorem zwd {m : Mach} {a b : Int} (h : z1d m [a, b] = 0) : chkR m = 0 ∧ ∃ (i j : Nat) (x y : MReg), a = (i : Int) ∧ b = (j : Int) ∧ m.regs[i]? = some x ∧ m.regs[j]? = some y := by
 unfold z1d at h
 by_cases hc : chkR m = 0
 ·rw [if_pos hc] at h
  refine ⟨hc, ?_⟩
  by_cases h2 : [a, b].all (idxM m) = true
  ·simp only [List.all_cons, List.all_nil, Bool.and_true, Bool.and_eq_true, idxM, decide_eq_true_eq] at h2
   obtain ⟨⟨p1, p2⟩, p3, p4⟩ := h2
   exact ⟨a.toNat, b.toNat, _, _, by omega, by omega, List.getElem?_eq_getElem (by omega), List.getElem?_eq_getElem (by omega)⟩
  ·rw [if_neg h2] at h; cases h
 ·rw [if_neg hc] at h; exact absurd h hc
theorem zb9 {m : Mach} (hc : chkR m = 0) {i j : Nat} {x y : MReg} (hx : m.regs[i]? = some x) (hy : m.regs[j]? = some y) : z1d m [(i : Int), (j : Int)] = 0 := by
 have h1 := (List.getElem?_eq_some_iff.1 hx).1
 have h2 := (List.getElem?_eq_some_iff.1 hy).1
 unfold z1d
 rw [if_pos hc, if_pos]
 simp only [List.all_cons, List.all_nil, Bool.and_true, Bool.and_eq_true, idxM, decide_eq_true_eq]
 omega
theorem zi0 {m : Mach} (hc : chkR m = 0) {i : Nat} {x : MReg} (hx : m.regs[i]? = some x) : z1d m [(i : Int)] = 0 := by
 have h1 := (List.getElem?_eq_some_iff.1 hx).1
 unfold z1d
 rw [if_pos hc, if_pos]
 simp only [List.all_cons, List.all_nil, Bool.and_true, idxM, decide_eq_true_eq]
 omega
theorem zk1 {m : Mach} (hc : chkR m = 0) {i j : Nat} {x y : MReg} (hx : m.regs[i]? = some x) (hy : m.regs[j]? = some y) : ovB m (i : Int) (j : Int) = z6s m.regs i j x y := by
 unfold ovB
 rw [if_pos (zb9 hc hx hy), Int.toNat_natCast, Int.toNat_natCast, hx, hy]
theorem zqj {m : Mach} (hc : chkR m = 0) {i : Nat} {x : MReg} (hx : m.regs[i]? = some x) : ∃ (r : Nat) (q : MReg), ofR i x = (r : Int) ∧ m.regs[r]? = some q ∧ ofR r q = (r : Int) ∧ q.low = 0 ∧ 0 ≤ x.low ∧ 1 ≤ x.width ∧ x.low + x.width ≤ q.width ∧ q.width ≤ 64 := by
 have hr := (z2n hc).2.2.1
 unfold z5h at hr
 simp only [Bool.and_eq_true, List.all_eq_true] at hr
 have hmx := List.mem_of_getElem? hx
 have hb := z25 hc x hmx
 cases hq : z3u x with
 | true =>
   have e : ofR i x = (i : Int) := by unfold ofR; rw [hq]; rfl
   have hl : x.low = 0 := by unfold z3u at hq; simp only [decide_eq_true_eq] at hq; exact hq.2
   exact ⟨i, x, e, hx, e, hl, by omega, hb.1, by omega, hb.2.1⟩
 | false =>
   have h3 := hr.2 x hmx
   unfold z98 at h3
   simp only [Bool.and_eq_true, Bool.or_eq_true, hq] at h3
   have h4 : z89 m.regs x = true := by simpa using h3.2
   unfold z89 at h4
   by_cases h5 : 0 ≤ x.par
   ·rw [if_pos h5] at h4
    cases hp : m.regs[x.par.toNat]? with
    | none => rw [hp] at h4; simp at h4
    | some q =>
      rw [hp] at h4
      simp only [Bool.and_eq_true, decide_eq_true_eq] at h4
      obtain ⟨h6, h7, h8, h9⟩ := h4
      have hbq := z25 hc q (List.mem_of_getElem? hp)
      rw [zg _ (by omega) (by omega)] at h9
      have hl : q.low = 0 := by unfold z3u at h6; simp only [decide_eq_true_eq] at h6; exact h6.2
      exact ⟨x.par.toNat, q, by unfold ofR; rw [hq]; simp; omega, hp, by unfold ofR; rw [h6]; rfl, hl, h8, hb.1, by omega, hbq.2.1⟩
   ·rw [if_neg h5] at h4; simp at h4
theorem z97 {m : Mach} (hc : chkR m = 0) {i : Nat} {x : MReg} (hx : m.regs[i]? = some x) : ∃ p : Nat, z1i m.regs i x = (p : Int) ∧ (z1s m)[p]? = some (ofR i x) := by
 have hb := z4w hc hx
 unfold z1i ixF at hb ⊢
 unfold z1s
 cases h : List.findIdx? (fun z : Int => decide (z = ofR i x)) ((z1n m.regs).map fun (z : Nat) => (z : Int)) with
 | none => rw [h] at hb; simp at hb
 | some p =>
   obtain ⟨h1, h2, _⟩ := List.findIdx?_eq_some_iff_getElem.1 h
   refine ⟨p, rfl, ?_⟩
   rw [List.getElem?_eq_getElem h1]
   simp only [decide_eq_true_eq] at h2
   rw [h2]
theorem zt5 {R : List MReg} {i j : Nat} {x y : MReg} (h : ofR i x = ofR j y) : z1i R i x = z1i R j y := by unfold z1i; rw [h]
theorem zq3 {m : Mach} (hc : chkR m = 0) {i : Nat} {x : MReg} (hx : m.regs[i]? = some x) {r : Nat} {q : MReg} (h : ofR i x = (r : Int)) (hq : ofR r q = (r : Int)) (hl : q.low = 0) (h0 : 0 ≤ x.low) (h1 : 1 ≤ x.width) (h2 : x.low + x.width ≤ q.width) : z6s m.regs i r x q = true := by
 unfold z6s
 rw [zt5 (R := m.regs) (h.trans hq.symm)]
 simp
 omega
theorem zq4 {m : Mach} {i : Nat} {x : MReg} (h1 : 1 ≤ x.width) : z6s m.regs i i x x = true := by
 unfold z6s
 simp
 omega
theorem zh1 {p : Int → Nat → Bool} {L : List Int} {V : List Nat} : eqF p L V = true ↔ L.length = V.length ∧ ∀ (k : Nat) z x, L[k]? = some z → V[k]? = some x → p z x = true := by
 unfold eqF
 rw [Bool.and_eq_true, decide_eq_true_eq, List.all_eq_true]
 refine ⟨fun ⟨h1, h2⟩ => ⟨h1, fun k z x hz hx => ?_⟩, fun ⟨h1, h2⟩ => ⟨h1, fun q hq => ?_⟩⟩
 ·exact h2 (z, x) (List.mem_of_getElem? (i := k) (by rw [List.getElem?_zip_eq_some]; exact ⟨hz, hx⟩))
 ·obtain ⟨k, hk⟩ := List.getElem?_of_mem hq
  rw [List.getElem?_zip_eq_some] at hk
  exact h2 k _ _ hk.1 hk.2
theorem zke {m : Mach} : eqF (okV m) (z1s m) (List.replicate (z1n m.regs).length 0) = true := by
 rw [zh1]
 refine ⟨by unfold z1s; simp, fun k z x hz hx => ?_⟩
 obtain rfl : 0 = x := by
  rw [List.getElem?_replicate] at hx
  split at hx
  ·simpa using hx
  ·cases hx
 obtain ⟨i, rfl, hi⟩ := zfr (List.mem_of_getElem? hz)
 unfold okV
 rw [Int.toNat_natCast, List.getElem?_eq_getElem hi, z45]
 exact Nat.two_pow_pos _
theorem zsw (l w t : Nat) : (mk w * 2 ^ l).testBit t = (decide (l ≤ t) && decide (t < l + w)) := by
 unfold mk
 rw [Nat.testBit_mul_two_pow, Nat.testBit_two_pow_sub_one]
 by_cases h : l ≤ t
 ·simp [h]; omega
 ·simp [h]
theorem zqe (l w l' w' : Nat) (hw : 1 ≤ w) (hw' : 1 ≤ w') : mk w * 2 ^ l / 2 ^ l' % 2 ^ w' = 0 ↔ ¬ (l < l' + w' ∧ l' < l + w) := by
 have hb : ∀ t, (mk w * 2 ^ l / 2 ^ l' % 2 ^ w').testBit t = (decide (t < w') && (decide (l ≤ t + l') && decide (t + l' < l + w))) := fun t => by
  rw [Nat.testBit_mod_two_pow, Nat.testBit_div_two_pow, zsw]
 constructor
 ·intro h ⟨h1, h2⟩
  have := hb (max l l' - l')
  rw [h] at this
  simp only [Nat.zero_testBit] at this
  have e1 : max l l' - l' < w' := by omega
  have e2 : l ≤ max l l' - l' + l' := by omega
  have e3 : max l l' - l' + l' < l + w := by omega
  simp [e1, e2, e3] at this
 ·intro h
  apply Nat.eq_of_testBit_eq
  intro t
  rw [hb, Nat.zero_testBit]
  by_cases e1 : t < w'
  ·by_cases e2 : l ≤ t + l'
   ·have e3 : ¬ t + l' < l + w := by omega
    simp [e3]
   ·simp [e2]
  ·simp [e1]
theorem zvs (l w x : Nat) : wrV 0 l w x = x * 2 ^ l := by unfold wrV; simp
theorem zwo (w : Nat) : okB w (mk w) = true := by
 rw [z45]; unfold mk; have := Nat.two_pow_pos w; omega
theorem zqz {m : Mach} (hc : chkR m = 0) {i : Nat} {x : MReg} (hx : m.regs[i]? = some x) {V : List Nat} (h : eqF (okV m) (z1s m) V = true) : z2q m V (i : Int) = 0 := by
 unfold z2q
 rw [if_pos (zi0 hc hx), if_pos h]
theorem zsv {m : Mach} (hc : chkR m = 0) {i j : Nat} {x y : MReg} (hx : m.regs[i]? = some x) (hy : m.regs[j]? = some y) :
 z9l m (List.replicate (z1n m.regs).length 0) (i : Int) (mk x.width.toNat) = 0 ∧
 z2q m (wrL m (List.replicate (z1n m.regs).length 0) (i : Int) (mk x.width.toNat)) (j : Int) = 0 ∧
 (z7q m (wrL m (List.replicate (z1n m.regs).length 0) (i : Int) (mk x.width.toNat)) (j : Int) = 0 ↔ z6s m.regs i j x y = false) := by
 have h1 : z9l m (List.replicate (z1n m.regs).length 0) (i : Int) (mk x.width.toNat) = 0 := by
  unfold z9l
  rw [if_pos (zqz hc hx zke), Int.toNat_natCast, hx]
  simp only
  rw [if_pos (zwo _)]
 obtain ⟨p, hp, hpg⟩ := z97 hc hx
 obtain ⟨p', hp', hpg'⟩ := z97 hc hy
 have hlen : (z1s m).length = (z1n m.regs).length := by unfold z1s; simp
 have hpl : p < (z1n m.regs).length := by rw [← hlen]; exact (List.getElem?_eq_some_iff.1 hpg).1
 have hpl' : p' < (z1n m.regs).length := by rw [← hlen]; exact (List.getElem?_eq_some_iff.1 hpg').1
 have h2 : wrL m (List.replicate (z1n m.regs).length 0) (i : Int) (mk x.width.toNat) = (List.replicate (z1n m.regs).length 0).set p (mk x.width.toNat * 2 ^ x.low.toNat) := by
  unfold wrL
  rw [if_pos h1, Int.toNat_natCast, hx]
  simp only
  rw [hp, Int.toNat_natCast, List.getElem?_replicate, if_pos hpl, Option.getD_some, zvs]
 rw [h2]
 obtain ⟨r, q, o1, o2, o3, o4, o5, o6, o7, o8⟩ := zqj hc hx
 have hby := z25 hc y (List.mem_of_getElem? hy)
 have hv : eqF (okV m) (z1s m) ((List.replicate (z1n m.regs).length 0).set p (mk x.width.toNat * 2 ^ x.low.toNat)) = true := by
  rw [zh1]
  refine ⟨by simp [hlen], fun k z u hz hu => ?_⟩
  rw [List.getElem?_set] at hu
  by_cases e : p = k
  ·subst e
   rw [if_pos rfl, if_pos (by simpa using hpl)] at hu
   obtain rfl : mk x.width.toNat * 2 ^ x.low.toNat = u := by simpa using hu
   obtain rfl : z = (r : Int) := by rw [hpg, o1] at hz; simpa using hz.symm
   unfold okV
   rw [Int.toNat_natCast, o2]
   simp only
   rw [z45]
   have a1 : mk x.width.toNat < 2 ^ x.width.toNat := by have := (z45 _ _).1 (zwo x.width.toNat); exact this
   have a2 := Nat.mul_lt_mul_of_pos_right a1 (Nat.two_pow_pos x.low.toNat)
   rw [← Nat.pow_add] at a2
   exact Nat.lt_of_lt_of_le a2 (Nat.pow_le_pow_right (by omega) (by omega))
  ·rw [if_neg e] at hu
   exact (zh1.1 (zke (m := m))).2 k z u hz hu
 refine ⟨h1, zqz hc hy hv, ?_⟩
 have h3 : z7q m ((List.replicate (z1n m.regs).length 0).set p (mk x.width.toNat * 2 ^ x.low.toNat)) (j : Int) = (if p = p' then mk x.width.toNat * 2 ^ x.low.toNat else 0) / 2 ^ y.low.toNat % 2 ^ y.width.toNat := by
  unfold z7q
  rw [if_pos (zqz hc hy hv), Int.toNat_natCast, hy]
  simp only
  rw [hp', Int.toNat_natCast, List.getElem?_set]
  by_cases e : p = p'
  ·rw [if_pos e, if_pos e, if_pos (by simpa using hpl), Option.getD_some]
  ·rw [if_neg e, if_neg e, List.getElem?_replicate, if_pos hpl', Option.getD_some]
 rw [h3]
 unfold z6s
 rw [hp, hp']
 by_cases e : p = p'
 ·subst e
  rw [if_pos rfl, zqe _ _ _ _ (by omega) (by omega)]
  simp only [beq_self_eq_true, Bool.true_and, Bool.and_eq_false_iff, decide_eq_false_iff_not]
  omega
 ·rw [if_neg e, Nat.zero_div, Nat.zero_mod]
  simp [e]
  intro h; omega
end Go.Proofs.YtnjpdlfilfekoaaGreatDoor
