/- What the initialisers lay, as package lexer's contracts want it (made by lexlaid.py). -/
import Derived.Test.YtejjbbgompddeaaDoorLexInt
import Derived.Test.YtejjbbgompddeaaDoorRows
import Derived.Test.YtejjbbgompddeaaDoorPlayCut
import Derived.Lib.LaidTab
namespace Go.Proofs.YtejjbbgompddeaaDoor
open Go.Play Go.RowKit
set_option linter.unusedVariables false

theorem lexFiltered : (Rows.lexerCoversRow.laid.filter fun x => x.2.handleName?.isNone) = Rows.lexerCoversRow.laid := by kernel_rfl
theorem lexCell {W : World} {g : Nat} {c : Array Value} {el : TypeId} {fr : Nat × Nat} {v : Value} (h : W.heap[g]? = some (.cells c el fr)) (hc : c[0]? = some v) : W.cell? ⟨g, 0, none⟩ = some v := by
  simp [World.cell?, h, hc]
theorem lexLt {W : World} {g : Nat} {o : Obj} (h : W.heap[g]? = some o) : g < W.heap.size := Nat.lt_of_not_le fun hle => by
  have hn : W.heap[g]? = none := by simp [hle]
  rw [hn] at h
  cases h
theorem tab_mem {P : Program} {W : World} {l : List (String × DataW Unit)} (hm : laidMet P l W) {name : String} {k : IntKind} {zs : List Int} (hn : (name, Lib.tabData k zs) ∈ l) {g : Nat} {t e : TypeId} {n : Nat}
    (hg : P.globalNamed name = some g) (hty : (P.globals[g]?).map (·.type) = some t) (ht : P.underlying t = some (.array n e)) (he : P.underlying e = some (.int k)) (hce : P.cellsOf e = 1) (hct : P.cellsOf t = n) : Lib.TabIs P W name k zs := by
  obtain ⟨ps, hv, _⟩ := hm
  obtain ⟨g', t', cs, fuel, p, h1, h2, h3, h4⟩ := laid_mem hv hn
  obtain rfl := Option.some.inj (hg.symm.trans h1)
  obtain rfl := Option.some.inj (hty.symm.trans h2)
  unfold Lib.TabIs
  rw [h3, ← Lib.cells_of_tab ht he hce hct h4]
theorem tab_lt {P : Program} {W : World} {name : String} {k : IntKind} {zs : List Int} {g : Nat} (h : Lib.TabIs P W name k zs) (hg : P.globalNamed name = some g) (h0 : 0 < zs.length) : g < W.heap.size :=
  block_lt_of_cell (h.cell hg 0 h0)
def clsTab : List Int := (List.range 126).map fun k => ((cls k : Nat) : Int)
def bruijn : List Int := [0, 1, 56, 2, 57, 49, 28, 3, 61, 58, 42, 50, 38, 29, 17, 4, 62, 47, 59, 36, 45, 43, 51, 22, 53, 39, 33, 30, 24, 18, 12, 5, 63, 55, 48, 27, 60, 41, 37, 16, 46, 35, 44, 21, 52, 32, 23, 11, 54, 26, 40, 15, 34, 20, 31, 10, 25, 14, 19, 9, 13, 8, 7, 6]

set_option maxRecDepth 100000 in
theorem laid_of (W : World) (hL : laidMetH Tryd.prog Rows.lexerCoversRow.laid W) : LaidAt W := by
  have hm : laidMet Tryd.prog Rows.lexerCoversRow.laid W := by
    have h1 := (laidMetH_iff.1 hL).1
    rw [lexFiltered] at h1
    exact h1
  have m1 : ("math/bits.deBruijn64tab", Lib.tabData .u8 bruijn) ∈ Rows.lexerCoversRow.laid := by
    have e : Rows.lexerCoversRow.laid[1]? = some ("math/bits.deBruijn64tab", Lib.tabData .u8 bruijn) := by kernel_rfl
    exact List.mem_of_getElem? e
  have m2 : ("internal/strconv.uint64pow10", Lib.tabData .u64 Lib.pow10Tab) ∈ Rows.lexerCoversRow.laid := by
    have e : Rows.lexerCoversRow.laid[2]? = some ("internal/strconv.uint64pow10", Lib.tabData .u64 Lib.pow10Tab) := by kernel_rfl
    exact List.mem_of_getElem? e
  have m5 : ("retarget/lexer.classes", Lib.tabData .u8 clsTab) ∈ Rows.lexerCoversRow.laid := by
    have e : Rows.lexerCoversRow.laid[5]? = some ("retarget/lexer.classes", Lib.tabData .u8 clsTab) := by kernel_rfl
    exact List.mem_of_getElem? e
  have t1 := tab_mem hm m1 (g := 6) (t := 118) (e := 5) (n := 64) (by kernel_rfl) (by kernel_rfl) (by kernel_rfl) (by kernel_rfl) (by kernel_rfl) (by kernel_rfl)
  have t2 := tab_mem hm m2 (g := 4) (t := 110) (e := 91) (n := 20) (by kernel_rfl) (by kernel_rfl) (by kernel_rfl) (by kernel_rfl) (by kernel_rfl) (by kernel_rfl)
  have t5 := tab_mem hm m5 (g := 0) (t := 74) (e := 65) (n := 126) (by kernel_rfl) (by kernel_rfl) (by kernel_rfl) (by kernel_rfl) (by kernel_rfl) (by kernel_rfl)
  obtain ⟨u3, y3, c3, e3, r3, h3, k3⟩ := laid_iface hm (List.mem_of_getElem? (show Rows.lexerCoversRow.laid[3]? = some _ from rfl)) (g := 3) (by kernel_rfl) (t := ((Tryd.prog.globals[3]?).map (·.type)).getD 0) (by kernel_rfl) (by kernel_rfl)
  obtain ⟨u4, y4, c4, e4, r4, h4, k4⟩ := laid_iface hm (List.mem_of_getElem? (show Rows.lexerCoversRow.laid[4]? = some _ from rfl)) (g := 2) (by kernel_rfl) (t := ((Tryd.prog.globals[2]?).map (·.type)).getD 0) (by kernel_rfl) (by kernel_rfl)
  refine ⟨⟨fun k hk => ?_, tab_lt t5 (by kernel_rfl) (by decide)⟩, ⟨⟨_, _, lexCell h4 k4⟩, ⟨_, _, lexCell h3 k3⟩, lexLt h4, lexLt h3⟩, ⟨?_, tab_lt t1 (by kernel_rfl) (by decide)⟩, t2⟩
  · have := t5.cell (g := 0) (by kernel_rfl) k (by simpa [clsTab] using hk)
    rw [this]
    simp [clsTab, List.getD, hk]
  · have := t1.cell (g := 6) (by kernel_rfl) 15 (by decide)
    rw [this]
    rfl
end Go.Proofs.YtejjbbgompddeaaDoor
