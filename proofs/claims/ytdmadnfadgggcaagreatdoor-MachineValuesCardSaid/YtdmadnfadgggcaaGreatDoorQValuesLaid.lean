import Derived.Test.YtdmadnfadgggcaaGreatDoorRows
import Derived.Test.YtdmadnfadgggcaaGreatDoorGb
import Derived.KernelRfl
import Derived.Below
import Derived.LaidSub
set_option linter.unusedVariables false
set_option linter.unusedSimpArgs false
set_option warningAsError false
open Go.Proofs.Tryz (prog)
namespace Go.Proofs.YtdmadnfadgggcaaGreatDoor
open Go.RowKit
def layFields (P : Program) (lay : TypeId -> DataW Unit -> Option (List Value)) : List Field -> List (DataW Unit) -> Nat -> Option (List Value)
 | [], [], _ => some []
 | f :: fs, d :: ds, off => match f.offset == off, lay f.type d, layFields P lay fs ds (off + P.cellsOf f.type) with
   | true, some a, some b => match a.length == P.cellsOf f.type with
     | true => some (a ++ b)
     | false => none
   | _, _, _ => none
 | _, _, _ => none
def layElems (k : Nat) (lay : DataW Unit -> Option (List Value)) : List (DataW Unit) -> Option (List Value)
 | [] => some []
 | d :: ds => match lay d, layElems k lay ds with
   | some a, some b => match a.length == k with
     | true => some (a ++ b)
     | false => none
   | _, _ => none
def layC (P : Program) : Nat -> TypeId -> DataW Unit -> Option (List Value)
 | 0, _, _ => none
 | n + 1, t, d => match P.underlying t, d with
   | some .bool, .lit (.bool b) => some [.bool b]
   | some (.int k), .lit (.int _ z) => some [.int k z]
   | some .string, .lit (.string s) => some [.string ⟨s.toArray⟩]
   | some (.struct fs), .agg ds => layFields P (layC P n) fs.toList ds 0
   | some (.array m e), .agg ds => layElems (P.cellsOf e) (layC P n e) ds
   | _, _ => none
section
variable {P : Program} {w : World}
theorem fields_rel {enc : TypeId × Value -> Unit} {spare : Nat -> Bool} {held : Bool} {fuel n : Nat} {cs : List Value} (ih : ∀ {t : TypeId} {d : DataW Unit} {cs : List Value} {p : List MemPlace} {vs : List Value}, layC P n t d = some vs -> DataW.trod enc P w 0 spare held fuel t cs = some (d, p) -> vs = cs.take vs.length) :
 ∀ (fs : List Field) {xs : List (DataW Unit × List MemPlace)} {off : Nat} {vs : List Value}, (fs.mapM fun f => DataW.trod enc P w 0 spare held fuel f.type ((cs.drop f.offset).take (P.cellsOf f.type))) = some xs ->
  layFields P (layC P n) fs (xs.map (·.1)) off = some vs -> vs = (cs.drop off).take vs.length := by
 intro fs
 induction fs with
 | nil => intro xs off vs hx hv; cases hx; cases hv; simp
 | cons f fs ihf =>
   intro xs off vs hx hv;rw [List.mapM_cons] at hx
   cases h1 : DataW.trod enc P w 0 spare held fuel f.type ((cs.drop f.offset).take (P.cellsOf f.type)) with
   | none => rw [h1] at hx; cases hx
   | some x =>
     rw [h1] at hx
     cases h2 : (fs.mapM fun f => DataW.trod enc P w 0 spare held fuel f.type ((cs.drop f.offset).take (P.cellsOf f.type))) with
     | none => rw [h2] at hx; cases hx
     | some ys =>
       rw [h2] at hx;cases hx;obtain ⟨d, p⟩ := x;unfold layFields at hv;simp only [List.map_cons] at hv;split at hv
       ·rename_i a b ho ha hb;split at hv
        ·rename_i hl;cases hv;have ho : f.offset = off := (by simpa using ho);have hl : a.length = P.cellsOf f.type := (by simpa using hl);subst ho;have r1 := ih ha h1;have r2 := ihf h2 hb;rw [List.length_append, List.take_add];rw [<- hl, List.take_take, Nat.min_self] at r1;refine congr (congrArg HAppend.hAppend r1) ?_;rw [List.drop_drop];rw [<- hl] at r2;exact r2
        ·cases hv
       ·cases hv
theorem elems_rel {enc : TypeId × Value -> Unit} {spare : Nat -> Bool} {held : Bool} {fuel n k : Nat} {e : TypeId} {cs : List Value} (ih : ∀ {t : TypeId} {d : DataW Unit} {cs : List Value} {p : List MemPlace} {vs : List Value}, layC P n t d = some vs -> DataW.trod enc P w 0 spare held fuel t cs = some (d, p) -> vs = cs.take vs.length) :
 ∀ (m s : Nat) {xs : List (DataW Unit × List MemPlace)} {vs : List Value}, ((List.range' s m).mapM fun i => DataW.trod enc P w 0 spare held fuel e ((cs.drop (i * k)).take k)) = some xs ->
  layElems k (layC P n e) (xs.map (·.1)) = some vs -> vs = (cs.drop (s * k)).take vs.length /\ vs.length = m * k := by
 intro m
 induction m with
 | zero => intro s xs vs hx hv; cases hx; cases hv; exact ⟨by simp, by simp⟩
 | succ m ihm =>
   intro s xs vs hx hv;rw [List.range'_succ, List.mapM_cons] at hx
   cases h1 : DataW.trod enc P w 0 spare held fuel e ((cs.drop (s * k)).take k) with
   | none => rw [h1] at hx; cases hx
   | some x =>
     rw [h1] at hx
     cases h2 : ((List.range' (s + 1) m).mapM fun i => DataW.trod enc P w 0 spare held fuel e ((cs.drop (i * k)).take k)) with
     | none => rw [h2] at hx; cases hx
     | some ys =>
       rw [h2] at hx;cases hx;obtain ⟨d, p⟩ := x;unfold layElems at hv;simp only [List.map_cons] at hv;split at hv
       ·rename_i a b ha hb;split at hv
        ·rename_i hl;cases hv;have hl : a.length = k := (by simpa using hl);have r1 := ih ha h1;obtain ⟨r2, r3⟩ := ihm _ h2 hb;refine ⟨?_, by rw [List.length_append, hl, r3, Nat.add_mul]; omega⟩;rw [List.length_append, List.take_add];rw [<- hl, List.take_take, Nat.min_self, hl] at r1;refine congr (congrArg HAppend.hAppend (by rw [hl]; exact r1)) ?_;rw [List.drop_drop, hl, show s * k + k = (s + 1) * k by rw [Nat.add_mul]; omega];exact r2
        ·cases hv
       ·cases hv
theorem lay_rel {enc : TypeId × Value -> Unit} {spare : Nat -> Bool} {held : Bool} : ∀ (n : Nat) {fuel : Nat} {t : TypeId} {d : DataW Unit} {cs : List Value} {p : List MemPlace} {vs : List Value}, layC P n t d = some vs -> DataW.trod enc P w 0 spare held fuel t cs = some (d, p) -> vs = cs.take vs.length := by
 intro n
 induction n with
 | zero => intro fuel t d cs p vs h; cases h
 | succ n ih =>
   intro fuel t d cs p vs hv ht
   cases fuel with
   | zero => unfold DataW.trod at ht; cases ht
   | succ fuel =>
     unfold layC at hv;unfold DataW.trod at ht;split at hv
     ·rename_i b hu;rw [hu] at ht;cases hv;split at ht <;> first | (cases ht; done) | skip
      all_goals (first | (rename_i e; cases e; done) | skip)
      all_goals (first | (cases ht; rfl) | (split at ht <;> cases ht) | skip)
     ·rename_i k k' z hu;rw [hu] at ht;cases hv;split at ht <;> first | (cases ht; done) | skip
      all_goals (first | (rename_i e; cases e; done) | skip)
      all_goals
       rename_i e;cases e;split at ht
       ·rename_i e2;obtain ⟨rfl, _⟩ := e2;cases ht;rfl
       ·cases ht
     ·rename_i s hu;rw [hu] at ht;cases hv;split at ht <;> first | (cases ht; done) | skip
      all_goals (first | (rename_i e; cases e; done) | skip)
      all_goals (first | (split at ht <;> first | (cases ht; done) | (cases ht; rfl)) | skip)
     ·rename_i fs ds hu;rw [hu] at ht;simp only [] at ht;split at ht
      ·rename_i hl
       cases hx : (fs.toList.mapM fun f => DataW.trod enc P w 0 spare held fuel f.type ((cs.drop f.offset).take (P.cellsOf f.type))) with
       | none => rw [hx] at ht; cases ht
       | some xs => rw [hx] at ht;cases ht;have := fields_rel (cs := cs) (fun h1 h2 => ih h1 h2) fs.toList hx hv;rw [List.drop_zero] at this;exact this
      ·cases ht
     ·rename_i m e ds hu;rw [hu] at ht;simp only [] at ht;split at ht
      ·rename_i hl;rw [List.range_eq_range'] at ht
       cases hx : ((List.range' 0 m).mapM fun i => DataW.trod enc P w 0 spare held fuel e ((cs.drop (i * P.cellsOf e)).take (P.cellsOf e))) with
       | none => rw [hx] at ht; cases ht
       | some xs => rw [hx] at ht;cases ht;obtain ⟨r1, r2⟩ := elems_rel (cs := cs) (fun h1 h2 => ih h1 h2) m 0 hx hv;rw [Nat.zero_mul, List.drop_zero] at r1;exact r1
      ·cases ht
     ·cases hv
theorem laid_mem {l : List (String × DataW Unit)} : ∀ {ps : List MemPlace}, DataW.LaidVars P w l ps -> ∀ {n : String} {d : DataW Unit}, (n, d) ∈ l -> ∃ g t cs fuel p, P.globalNamed n = some g /\ (P.globals[g]?).map (·.type) = some t /\ w.var? P n = some cs /\ DataW.trod (fun _ => ()) P w 0 (fun _ => true) false fuel t cs.toList = some (d, p) := by
 induction l with
 | nil => intro ps _ n d h; cases h
 | cons x l ih =>
   intro ps h n d hm;obtain ⟨g, t, cs, fuel, p, q, h1, h2, h3, h4, h5, _⟩ := h
   cases hm with
   | head => exact ⟨g, t, cs, fuel, p, h1, h2, h3, h4⟩
   | tail _ hm => exact ih h5 hm
theorem var_cells {n : String} {g : Nat} {cs : Array Value} (hg : P.globalNamed n = some g) (hv : w.var? P n = some cs) : ∃ el fr, w.heap[g]? = some (.cells cs el fr) := by
 unfold World.var? at hv;rw [hg] at hv;simp only [Option.bind_some] at hv;split at hv
 ·rename_i e; cases hv; exact ⟨_, _, e⟩
 ·cases hv
theorem laid_table {l : List (String × DataW Unit)} (hm : laidMet P l w) {n : String} {d : DataW Unit} (hn : (n, d) ∈ l) {g : Nat} (hg : P.globalNamed n = some g) {t : TypeId} (ht : (P.globals[g]?).map (·.type) = some t) {k : Nat} {vs : List Value} (hl : layC P k t d = some vs) :
 ∃ (c : Array Value) (el : TypeId) (fr : Nat × Nat), w.heap[g]? = some (.cells c el fr) /\ ∀ (i : Nat) (v : Value), vs[i]? = some v -> c[i]? = some v := by
 obtain ⟨ps, hv, _⟩ := hm;obtain ⟨g', t', cs, fuel, p, h1, h2, h3, h4⟩ := laid_mem hv hn;rw [hg] at h1; cases h1;rw [ht] at h2; cases h2;obtain ⟨el, fr, hc⟩ := var_cells hg h3;refine ⟨cs, el, fr, hc, fun i v hi => ?_⟩;rw [lay_rel k hl h4, List.getElem?_take] at hi;split at hi
 ·simpa using hi
 ·cases hi
end
theorem laid_filtered : (Rows.machineValuesRow.laid.filter fun x => x.2.handleName?.isNone) = Rows.machineValuesRow.laid := by kernel_rfl
set_option maxRecDepth 100000 in
theorem z8f (W : World) (hL : laidMetH prog Rows.machineValuesRow.laid W) : zs W := by
 have hm : laidMet prog Rows.machineValuesRow.laid W := by have h1 := (laidMetH_iff.1 hL).1;rw [laid_filtered] at h1;exact h1
 have h5 := laid_table hm (List.mem_of_getElem? (show Rows.machineValuesRow.laid[0]? = some _ from rfl)) (g := 0) (by kernel_rfl) (t := ((prog.globals[0]?).map (·.type)).getD 0) (by kernel_rfl) (k := 8) (vs := [(.string ⟨#[]⟩), (.int .i64 0), (.string ⟨#[]⟩), (.int .i64 0), (.string ⟨#[]⟩), (.int .i64 0), (.string ⟨#[110, 111, 116]⟩), (.int .i64 1), (.string ⟨#[110, 101, 103]⟩), (.int .i64 1), (.string ⟨#[97, 100, 100]⟩), (.int .i64 2), (.string ⟨#[115, 117, 98]⟩), (.int .i64 2), (.string ⟨#[109, 117, 108]⟩), (.int .i64 2), (.string ⟨#[97, 110, 100]⟩), (.int .i64 2), (.string ⟨#[111, 114]⟩), (.int .i64 2), (.string ⟨#[120, 111, 114]⟩), (.int .i64 2), (.string ⟨#[115, 104, 108]⟩), (.int .i64 2), (.string ⟨#[115, 104, 114]⟩), (.int .i64 2), (.string ⟨#[115, 97, 114]⟩), (.int .i64 2), (.string ⟨#[117, 100, 105, 118]⟩), (.int .i64 2), (.string ⟨#[117, 114, 101, 109]⟩), (.int .i64 2), (.string ⟨#[101, 113]⟩), (.int .i64 2), (.string ⟨#[117, 108, 116]⟩), (.int .i64 2), (.string ⟨#[115, 108, 116]⟩), (.int .i64 2), (.string ⟨#[105, 116, 101]⟩), (.int .i64 3), (.string ⟨#[99, 111, 110, 99, 97, 116]⟩), (.int .i64 2), (.string ⟨#[101, 120, 116, 114, 97, 99, 116]⟩), (.int .i64 1), (.string ⟨#[122, 101, 120, 116]⟩), (.int .i64 1), (.string ⟨#[115, 101, 120, 116]⟩), (.int .i64 1), (.string ⟨#[108, 111, 97, 100]⟩), (.int .i64 1)]) (by kernel_rfl);obtain ⟨c, el, fr, hc, hv⟩ := h5;intro k hk;have key : ∀ (v : Value), c[k * 2 + 1]? = some v -> W.cell? ⟨0, k * 2 + 1, none⟩ = some v := fun v h => by simp [World.cell?, hc, h]
 apply key;iterate 25 (rcases k with _ | k; exact hv _ _ rfl)
 omega
end Go.Proofs.YtdmadnfadgggcaaGreatDoor
