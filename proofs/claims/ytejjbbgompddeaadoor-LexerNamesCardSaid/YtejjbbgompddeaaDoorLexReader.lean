/- The reader's making: the map of its forms; what a lookup in it gives. -/
import Derived.Test.YtejjbbgompddeaaDoorLexWord
import Derived.Test.YtejjbbgompddeaaDoorLexCut
import Derived.Maps.OwnOps
namespace Go.Proofs.YtejjbbgompddeaaDoor
open Go.RowKit Go.Instr Go.ChangeMaps
set_option linter.unusedVariables false
set_option linter.unusedSimpArgs false

def clsT : TypeId := 65
theorem undMap : Tryd.prog.underlying 44 = some (.map 65 48) := by kernel_rfl
theorem undCls : Tryd.prog.underlying 65 = some (.int .u8) := by kernel_rfl
theorem isKey_cls (x : Int) : MapKept.IsKey (.int .u8) (.int .u8 x) := by first | exact ⟨_, _, rfl, rfl⟩ | simp [MapKept.IsKey] | trivial
theorem ins_run {w : World} {b c : Nat} {es : Array MapEntry} {x : Int} {v : Value} (hb : w.heap[b]? = some (.map es c)) (hf : findNow (.int .u8) (.int .u8 x) es.toList 0 = some none) :
  ∃ w', (Instr.mapUpdate 44 (.map (some b)) (.int .u8 x) v).run Tryd.prog w = .ok () w' ∧ w'.heap[b]? = some (.map (es.push ⟨.int .u8 x, v, c⟩) (c + 1)) ∧ w.grownBy w' (some b) := by
  refine ⟨setBlock w b (.map (es.push ⟨.int .u8 x, v, c⟩) (c + 1)), ?_, heap_setBlock_same hb _, ⟨rfl, rfl, rfl, by simp [setBlock], fun i _ hi => heap_setBlock_other hb _ (fun e => hi (by rw [e]))⟩⟩
  simp [Instr.mapUpdate, run_underlying undMap, MapKept.run_getObj_map hb, MapKept.run_checkKey undCls (isKey_cls x), MapKept.run_findKey undCls hf, MapKept.run_setObj_map _ hb, Result.andThen, setBlock]
theorem look_run {w : World} {b c i : Nat} {es : Array MapEntry} {x : Int} {v : Value} (hb : w.heap[b]? = some (.map es c)) (hf : findNow (.int .u8) (.int .u8 x) es.toList 0 = some (some (i, v))) :
  (Instr.lookup 44 (.map (some b)) (.int .u8 x) false).run Tryd.prog w = .ok v w := by
  simp [Instr.lookup, run_underlying undMap, MapKept.run_getObj_map hb, MapKept.run_checkKey undCls (isKey_cls x), MapKept.run_findKey undCls hf, Result.andThen]
theorem zeroFn (w : World) : (zeroValue 48).run Tryd.prog w = .ok .nilFunc w := by kernel_rfl
theorem look_none {w : World} {b c : Nat} {es : Array MapEntry} {x : Int} (hb : w.heap[b]? = some (.map es c)) (hf : findNow (.int .u8) (.int .u8 x) es.toList 0 = some none) :
  (Instr.lookup 44 (.map (some b)) (.int .u8 x) false).run Tryd.prog w = .ok .nilFunc w := by
  simp [Instr.lookup, run_underlying undMap, MapKept.run_getObj_map hb, MapKept.run_checkKey undCls (isKey_cls x), MapKept.run_findKey undCls hf, zeroFn, Result.andThen]

/-- The function value of a form. -/
def formV (k r : Nat) : Value := .func (Fn.func k) #[.pointer (some ⟨r, 0, none⟩)] #[]
/-- The entries of the map of forms. -/
def formsE (r : Nat) : Array MapEntry := #[⟨.int .u8 3, formV 31 r, 0⟩, ⟨.int .u8 4, formV 32 r, 1⟩, ⟨.int .u8 6, formV 32 r, 2⟩,
  ⟨.int .u8 7, formV 33 r, 3⟩, ⟨.int .u8 8, formV 34 r, 4⟩, ⟨.int .u8 9, formV 35 r, 5⟩]
def FormsAt (w : World) (r m : Nat) : Prop := w.heap[m]? = some (.map (formsE r) 6)
theorem FormsAt.below {w w' : World} {r m : Nat} (h : FormsAt w r m) (hb : Below w.heap.size w w') : FormsAt w' r m := by
  unfold FormsAt at h ⊢; rw [hb.block m (lt_of_block h)]; exact h
theorem FormsAt.other {w w' : World} {r m q : Nat} (h : FormsAt w r m) (hg : w.grownBy w' (some q)) (hq : m ≠ q) : FormsAt w' r m := by
  unfold FormsAt at h ⊢; rw [hg.block m (lt_of_block h) (by simpa using hq)]; exact h

theorem push2_last (A : Array Obj) (x y : Obj) : ((A.push x).push y)[A.size + 1]? = some y := by
  rw [show A.size + 1 = (A.push x).size by simp]; exact Array.getElem?_push_size
theorem push2_first (A : Array Obj) (x y : Obj) : ((A.push x).push y)[A.size]? = some x := by simp [Array.getElem?_push]
theorem push2_size (w : World) (x y : Obj) : ((w.alloc x).alloc y).heap.size = w.heap.size + 2 := by show ((w.heap.push x).push y).size = _; simp
/-- What newReader leaves. -/
def Made (w : World) (w' : World) : Prop := Below w.heap.size w w' ∧ RdAt w' w.heap.size ⟨#[]⟩ 0 (some (w.heap.size + 1)) ∧ FormsAt w' w.heap.size (w.heap.size + 1)
set_option maxRecDepth 100000 in
theorem newReader_any (w : World) :
    Calls Tryd.prog 17 #[] w fun e w' => e = .returned (.pointer (some ⟨w.heap.size, 0, none⟩)) ∧ Made w w' := by
  have hmm := @run_makeMap Tryd.prog
  obtain ⟨W, hW⟩ : ∃ W, W = (w.alloc (.cells #[.string ⟨#[]⟩, .int .i64 0, .map none] 46)).alloc (.map #[] 0) := ⟨_, rfl⟩
  have hb0 : W.heap[w.heap.size + 1]? = some (.map #[] 0) := by rw [hW]; exact push2_last w.heap _ _
  have hr0 : RdAt W w.heap.size ⟨#[]⟩ 0 none := by unfold RdAt; rw [hW]; exact push2_first w.heap _ _
  have hB0 : Below w.heap.size w W := by rw [hW]; exact ((Below.refl _ _).alloc (Nat.le_refl _) _).alloc (by simp) _
  obtain ⟨w1, r1, b1, g1⟩ := ins_run (x := 3) (v := .func (Fn.func 31) #[.pointer (some ⟨w.heap.size, 0, none⟩)] #[]) hb0 (by simp [findNow])
  obtain ⟨w2, r2, b2, g2⟩ := ins_run (x := 4) (v := .func (Fn.func 32) #[.pointer (some ⟨w.heap.size, 0, none⟩)] #[]) b1 (by simp [findNow, sameNow])
  obtain ⟨w3, r3, b3, g3⟩ := ins_run (x := 6) (v := .func (Fn.func 32) #[.pointer (some ⟨w.heap.size, 0, none⟩)] #[]) b2 (by simp [findNow, sameNow])
  obtain ⟨w4, r4, b4, g4⟩ := ins_run (x := 7) (v := .func (Fn.func 33) #[.pointer (some ⟨w.heap.size, 0, none⟩)] #[]) b3 (by simp [findNow, sameNow])
  obtain ⟨w5, r5, b5, g5⟩ := ins_run (x := 8) (v := .func (Fn.func 34) #[.pointer (some ⟨w.heap.size, 0, none⟩)] #[]) b4 (by simp [findNow, sameNow])
  obtain ⟨w6, r6, b6, g6⟩ := ins_run (x := 9) (v := .func (Fn.func 35) #[.pointer (some ⟨w.heap.size, 0, none⟩)] #[]) b5 (by simp [findNow, sameNow])
  have g : W.grownBy w6 (some (w.heap.size + 1)) := grown_trans (grown_trans (grown_trans (grown_trans (grown_trans g1 g2) g3) g4) g5) g6
  have hr6 := hr0.other g (by omega)
  have f2 := hr6.f2
  have c2 := hr6.c2
  have HE := Lib.hid (show Made w (w6.setCell ⟨w.heap.size, 2, none⟩ (.map (some (w.heap.size + 1)))) from by
    have hlt := hr6.lt
    refine ⟨(hB0.trans (below_grown g (by omega) (by rw [hW, push2_size]; omega))).setCell (Nat.le_refl _) _, ?_, ?_⟩
    · unfold RdAt at hr6 ⊢
      have h' : w6.heap[w.heap.size] = .cells #[.string ⟨#[]⟩, .int .i64 (0 : Nat), .map none] 46 (0, 0) := by simpa [Array.getElem?_eq_getElem hlt] using hr6
      show (w6.heap.modify w.heap.size _)[w.heap.size]? = _
      rw [Array.getElem?_eq_getElem (by simpa using hlt), Array.getElem_modify_self, h']
      rfl
    · unfold FormsAt
      rw [Below.heap_setCell _ _ _ _ (by simp), b6]
      rfl)
  rw [hW] at r1
  clear b1 b2 b3 b4 b5 b6 g1 g2 g3 g4 g5 g6 hb0 hr0 hB0 g hr6 hW
  go_enter Tryd.func17, Tryd.ntmps17
  go_wp2
  go_ret
  exact ⟨rfl, HE.out⟩
end Go.Proofs.YtejjbbgompddeaaDoor
