/- The calls of LexerNames: the examples, the limits, further tokens, out of the contracts. -/
import Derived.Test.YtejjbbgompddeaaDoorLexerNamesKit
import Derived.Test.YtejjbbgompddeaaDoorLexLaid
import Derived.Test.YtejjbbgompddeaaDoorLexerNamesPlay
import Derived.Test.YtejjbbgompddeaaDoorLexerCoversPlay
namespace Go.Proofs.YtejjbbgompddeaaDoor.lexerNames
open Go.Play Go.RowKit Go.Instr
set_option linter.unusedVariables false
set_option linter.unusedSimpArgs false

theorem print_lit (w X : World) (ys : List Raw) (cs : Array Value) (n : Nat) (S : ByteArray) (E : Nat) (hb : Below w.heap.size w X) (hcs : cs = (rawRow ys).toArray) (hn : ys.length = n) (hk : RawOk ys) (hs : ∀ y ∈ ys, y.t.size ≤ 100000) (hL : LaidAt w) (h : printR ys = (S, E)) :
    Calls Tryd.prog 10 #[.slice (some ⟨X.heap.size, 0, none⟩) n n] (X.alloc (.cells cs 29)) fun e w' => e = .returned (.tuple #[.string S, .int .i64 (E : Nat)]) ∧ Below w.heap.size w w' := by
  subst hn
  have hb2 := hb.alloc hb.size (.cells cs 29)
  refine (print_any _ _ ys _ (lit_raw X ys cs _ hcs) hk hs (hL.below hb2)).mono ?_
  rw [h]
  rintro e w' ⟨h1, h2⟩
  exact ⟨h1, hb2.trans (h2.mono hb2.size)⟩
set_option maxRecDepth 100000 in
theorem print_over (A : Option Addr) (n c : Nat) (w : World) (hn : 20000 < n) :
    Calls Tryd.prog 10 #[.slice A n c] w fun e w' => e = .returned (.tuple #[.string ⟨#[]⟩, .int .i64 4]) ∧ w = w' := by
  have g1 : (20000 : Int) < (n : Int) := by omega
  clear hn
  go_enter Tryd.func10, Tryd.ntmps10
  go_wp2
  go_ret2
  exact ⟨rfl, rfl⟩
def lnY : List Raw := [⟨1, ⟨#[97]⟩, 0, 0⟩, ⟨5, ⟨#[]⟩, 0, 0⟩, ⟨5, ⟨#[]⟩, 0, 0⟩, ⟨1, ⟨#[98]⟩, 0, 0⟩]
theorem lnY_ln : lnF [] lnY = [[⟨1, ⟨#[97]⟩, 0, 0⟩], [], [⟨1, ⟨#[98]⟩, 0, 0⟩]] := by
  unfold lnY
  simp only [lnF]
  rw [if_neg (by decide), if_pos (by decide), if_pos (by decide), if_neg (by decide)]
  rfl
theorem lines_lit (w X : World) (cs : Array Value) (hb : Below w.heap.size w X) (hcs : cs = (rawRow lnY).toArray) :
    Calls Tryd.prog 13 #[.slice (some ⟨X.heap.size, 0, none⟩) 4 4] (X.alloc (.cells cs 29)) fun e w' => ∃ g c A0 c0 A1 c1 A2 c2, e = .returned (.slice (some ⟨g, 0, none⟩) 3 c) ∧ w'.cell? ⟨g, 0, none⟩ = some (.slice A0 1 c0) ∧ w'.cell? ⟨g, 1, none⟩ = some (.slice A1 0 c1) ∧ w'.cell? ⟨g, 2, none⟩ = some (.slice A2 1 c2) ∧ Below w.heap.size w w' := by
  have hb2 := hb.alloc hb.size (.cells cs 29)
  refine (lines_any (some ⟨X.heap.size, 0, none⟩) 4 lnY _ (lit_raw X lnY cs _ hcs) ⟨by decide, fun y hy => by
    simp only [lnY, List.mem_cons, List.not_mem_nil, or_false] at hy
    rcases hy with rfl | rfl | rfl | rfl <;> decide⟩ (by decide) (by decide)).mono ?_
  rintro e w' ⟨v, vals, rfl, h2, h3, h4⟩
  have hg : ∀ (i : Nat) (l : List Raw), (lnF [] lnY)[i]? = some l → ∃ Ai ci, vals[i]? = some (.slice Ai l.length ci) := fun i l hl => by
    obtain ⟨u, hu, ho⟩ := h3.2 i l hl
    obtain ⟨Ai, ci, rfl⟩ := own_slice ho
    exact ⟨Ai, ci, hu⟩
  rw [lnY_ln] at h2 hg
  obtain ⟨A0, c0, v0⟩ := hg 0 _ rfl
  obtain ⟨A1, c1, v1⟩ := hg 1 _ rfl
  obtain ⟨A2, c2, v2⟩ := hg 2 _ rfl
  rcases h2.2 with ⟨_, hn⟩ | ⟨g, cap, cur, rfl, _, hh, r⟩
  · simp at hn
  · exact ⟨g, cap, A0, c0, A1, c1, A2, c2, rfl, (h2.cellAt 0 (by simp)).trans v0, (h2.cellAt 1 (by simp)).trans v1, (h2.cellAt 2 (by simp)).trans v2, hb2.trans (h4.mono hb2.size)⟩

/-- Contracts over a base world. -/
def Over (w : World) (f : FuncId) (args : Array Value) (v : Value) : Prop := ∀ W, Below w.heap.size w W → Calls Tryd.prog f args W fun e w' => e = .returned v ∧ Below w.heap.size w w'
theorem over_of {w : World} {f : FuncId} {args : Array Value} {v : Value} (h : ∀ W, Calls Tryd.prog f args W fun e w' => e = .returned v ∧ Below W.heap.size W w') : Over w f args v := fun W hb => (h W).mono fun e w' ⟨h1, h2⟩ => ⟨h1, hb.trans (h2.mono hb.size)⟩
--LITS
theorem reads_lit (w X : World) (s : ByteArray) (ys : List Raw) (cs : Array Value) (n : Nat) (hb : Below w.heap.size w X) (hcs : cs = (rawRow ys).toArray) (hn : ys.length = n) (hk : RawOk ys) (hs : s.size ≤ 999999) (hL : LaidAt w) (hlen : ys.length ≤ 20000) (h : readsB s.data.toList (ys.map rawTk) = true) :
    Calls Tryd.prog 14 #[.string s, .slice (some ⟨X.heap.size, 0, none⟩) n n] (X.alloc (.cells cs 29)) fun e w' => e = .returned (.bool true) ∧ Below w.heap.size w w' := by
  subst hn
  have hb2 := hb.alloc hb.size (.cells cs 29)
  refine (reads_any s _ _ ys _ (lit_raw X ys cs _ hcs) hk (hL.below hb2) hs h hlen).mono ?_
  rintro e w' ⟨h1, h2⟩
  exact ⟨h1, hb2.trans (h2.mono hb2.size)⟩
theorem rd0 (w : World) (hL : LaidAt w) : ∀ X, Below w.heap.size w X → Calls Tryd.prog 14 #[.string ⟨#[48]⟩, .slice (some ⟨X.heap.size, 0, none⟩) 1 1] (X.alloc (.cells #[.int .u8 2, .string ⟨#[48]⟩, .int .i64 0, .int .i64 0] 29)) fun e w' => e = .returned (.bool true) ∧ Below w.heap.size w w' := fun X hb =>
  reads_lit w X ⟨#[48]⟩ [⟨2, ⟨#[48]⟩, 0, 0⟩] _ 1 hb rfl rfl (by unfold RawOk; decide) (by decide) hL (by decide) (by first | kernel_rfl | decide +kernel)
theorem rd1 (w : World) (hL : LaidAt w) : ∀ X, Below w.heap.size w X → Calls Tryd.prog 14 #[.string ⟨#[48, 120, 48]⟩, .slice (some ⟨X.heap.size, 0, none⟩) 1 1] (X.alloc (.cells #[.int .u8 2, .string ⟨#[48, 120, 48]⟩, .int .i64 0, .int .i64 0] 29)) fun e w' => e = .returned (.bool true) ∧ Below w.heap.size w w' := fun X hb =>
  reads_lit w X ⟨#[48, 120, 48]⟩ [⟨2, ⟨#[48, 120, 48]⟩, 0, 0⟩] _ 1 hb rfl rfl (by unfold RawOk; decide) (by decide) hL (by decide) (by first | kernel_rfl | decide +kernel)
theorem rd2 (w : World) (hL : LaidAt w) : ∀ X, Below w.heap.size w X → Calls Tryd.prog 14 #[.string ⟨#[57, 57, 57, 57, 57, 57, 57, 57, 57, 57, 57, 57, 57, 57, 57, 57, 57, 57]⟩, .slice (some ⟨X.heap.size, 0, none⟩) 1 1] (X.alloc (.cells #[.int .u8 2, .string ⟨#[57, 57, 57, 57, 57, 57, 57, 57, 57, 57, 57, 57, 57, 57, 57, 57, 57, 57]⟩, .int .i64 999999999999999999, .int .i64 0] 29)) fun e w' => e = .returned (.bool true) ∧ Below w.heap.size w w' := fun X hb =>
  reads_lit w X ⟨#[57, 57, 57, 57, 57, 57, 57, 57, 57, 57, 57, 57, 57, 57, 57, 57, 57, 57]⟩ [⟨2, ⟨#[57, 57, 57, 57, 57, 57, 57, 57, 57, 57, 57, 57, 57, 57, 57, 57, 57, 57]⟩, 999999999999999999, 0⟩] _ 1 hb rfl rfl (by unfold RawOk; decide) (by decide) hL (by decide) (by first | kernel_rfl | decide +kernel)
theorem rd3 (w : World) (hL : LaidAt w) : ∀ X, Below w.heap.size w X → Calls Tryd.prog 14 #[.string ⟨#[48, 120, 102, 102, 102, 102, 102, 102, 102, 102, 102, 102, 102, 102, 102, 102, 102]⟩, .slice (some ⟨X.heap.size, 0, none⟩) 1 1] (X.alloc (.cells #[.int .u8 2, .string ⟨#[48, 120, 102, 102, 102, 102, 102, 102, 102, 102, 102, 102, 102, 102, 102, 102, 102]⟩, .int .i64 1152921504606846975, .int .i64 0] 29)) fun e w' => e = .returned (.bool true) ∧ Below w.heap.size w w' := fun X hb =>
  reads_lit w X ⟨#[48, 120, 102, 102, 102, 102, 102, 102, 102, 102, 102, 102, 102, 102, 102, 102, 102]⟩ [⟨2, ⟨#[48, 120, 102, 102, 102, 102, 102, 102, 102, 102, 102, 102, 102, 102, 102, 102, 102]⟩, 1152921504606846975, 0⟩] _ 1 hb rfl rfl (by unfold RawOk; decide) (by decide) hL (by decide) (by first | kernel_rfl | decide +kernel)
theorem rd4 (w : World) (hL : LaidAt w) : ∀ X, Below w.heap.size w X → Calls Tryd.prog 14 #[.string ⟨#[97, 35, 98, 10, 35]⟩, .slice (some ⟨X.heap.size, 0, none⟩) 2 2] (X.alloc (.cells #[.int .u8 1, .string ⟨#[97]⟩, .int .i64 0, .int .i64 0, .int .u8 5, .string ⟨#[10]⟩, .int .i64 0, .int .i64 0] 29)) fun e w' => e = .returned (.bool true) ∧ Below w.heap.size w w' := fun X hb =>
  reads_lit w X ⟨#[97, 35, 98, 10, 35]⟩ [⟨1, ⟨#[97]⟩, 0, 0⟩, ⟨5, ⟨#[10]⟩, 0, 0⟩] _ 2 hb rfl rfl (by unfold RawOk; decide) (by decide) hL (by decide) (by first | kernel_rfl | decide +kernel)
theorem rd5 (w : World) (hL : LaidAt w) : ∀ X, Below w.heap.size w X → Calls Tryd.prog 14 #[.string ⟨#[97, 97, 97, 97, 97, 97, 97, 97, 97, 97, 97, 97, 97, 97, 97, 97, 97, 97, 97, 97, 97, 97, 97, 97]⟩, .slice (some ⟨X.heap.size, 0, none⟩) 1 1] (X.alloc (.cells #[.int .u8 1, .string ⟨#[97, 97, 97, 97, 97, 97, 97, 97, 97, 97, 97, 97, 97, 97, 97, 97, 97, 97, 97, 97, 97, 97, 97, 97]⟩, .int .i64 0, .int .i64 0] 29)) fun e w' => e = .returned (.bool true) ∧ Below w.heap.size w w' := fun X hb =>
  reads_lit w X ⟨#[97, 97, 97, 97, 97, 97, 97, 97, 97, 97, 97, 97, 97, 97, 97, 97, 97, 97, 97, 97, 97, 97, 97, 97]⟩ [⟨1, ⟨#[97, 97, 97, 97, 97, 97, 97, 97, 97, 97, 97, 97, 97, 97, 97, 97, 97, 97, 97, 97, 97, 97, 97, 97]⟩, 0, 0⟩] _ 1 hb rfl rfl (by unfold RawOk; decide) (by decide) hL (by decide) (by first | kernel_rfl | decide +kernel)
theorem rd6 (w : World) (hL : LaidAt w) : ∀ X, Below w.heap.size w X → Calls Tryd.prog 14 #[.string ⟨#[97, 46, 98, 64, 47]⟩, .slice (some ⟨X.heap.size, 0, none⟩) 5 5] (X.alloc (.cells #[.int .u8 1, .string ⟨#[97]⟩, .int .i64 0, .int .i64 0, .int .u8 4, .string ⟨#[46]⟩, .int .i64 0, .int .i64 0, .int .u8 1, .string ⟨#[98]⟩, .int .i64 0, .int .i64 0, .int .u8 4, .string ⟨#[64]⟩, .int .i64 0, .int .i64 0, .int .u8 4, .string ⟨#[47]⟩, .int .i64 0, .int .i64 0] 29)) fun e w' => e = .returned (.bool true) ∧ Below w.heap.size w w' := fun X hb =>
  reads_lit w X ⟨#[97, 46, 98, 64, 47]⟩ [⟨1, ⟨#[97]⟩, 0, 0⟩, ⟨4, ⟨#[46]⟩, 0, 0⟩, ⟨1, ⟨#[98]⟩, 0, 0⟩, ⟨4, ⟨#[64]⟩, 0, 0⟩, ⟨4, ⟨#[47]⟩, 0, 0⟩] _ 5 hb rfl rfl (by unfold RawOk; decide) (by decide) hL (by decide) (by first | kernel_rfl | decide +kernel)
theorem fl0 (w : World) (hL : LaidAt w) : ∀ X, Below w.heap.size w X → Calls Tryd.prog 16 #[.string ⟨#[49, 48, 48, 48, 48, 48, 48, 48, 48, 48, 48, 48, 48, 48, 48, 48, 48, 48, 48]⟩, .int .i64 0] X fun e w' => e = .returned (.bool true) ∧ Below w.heap.size w w' := fun X hb =>
  fails_1 ⟨#[49, 48, 48, 48, 48, 48, 48, 48, 48, 48, 48, 48, 48, 48, 48, 48, 48, 48, 48]⟩ 0 0 w X hb hL (by decide) (by decide +kernel) (by rfl)
theorem fl1 (w : World) (hL : LaidAt w) : ∀ X, Below w.heap.size w X → Calls Tryd.prog 16 #[.string ⟨#[48, 120, 49, 48, 48, 48, 48, 48, 48, 48, 48, 48, 48, 48, 48, 48, 48, 48]⟩, .int .i64 0] X fun e w' => e = .returned (.bool true) ∧ Below w.heap.size w w' := fun X hb =>
  fails_1 ⟨#[48, 120, 49, 48, 48, 48, 48, 48, 48, 48, 48, 48, 48, 48, 48, 48, 48, 48]⟩ 0 0 w X hb hL (by decide) (by decide +kernel) (by rfl)
theorem fl2 (w : World) (hL : LaidAt w) : ∀ X, Below w.heap.size w X → Calls Tryd.prog 16 #[.string ⟨#[48, 120, 70]⟩, .int .i64 0] X fun e w' => e = .returned (.bool true) ∧ Below w.heap.size w w' := fun X hb =>
  fails_1 ⟨#[48, 120, 70]⟩ 0 0 w X hb hL (by decide) (by decide +kernel) (by rfl)
theorem fl3 (w : World) (hL : LaidAt w) : ∀ X, Below w.heap.size w X → Calls Tryd.prog 16 #[.string ⟨#[48, 120]⟩, .int .i64 0] X fun e w' => e = .returned (.bool true) ∧ Below w.heap.size w w' := fun X hb =>
  fails_1 ⟨#[48, 120]⟩ 0 0 w X hb hL (by decide) (by decide +kernel) (by rfl)
theorem fl4 (w : World) (hL : LaidAt w) : ∀ X, Below w.heap.size w X → Calls Tryd.prog 16 #[.string ⟨#[45]⟩, .int .i64 0] X fun e w' => e = .returned (.bool true) ∧ Below w.heap.size w w' := fun X hb =>
  fails_1 ⟨#[45]⟩ 0 0 w X hb hL (by decide) (by decide +kernel) (by rfl)
theorem fl5 (w : World) (hL : LaidAt w) : ∀ X, Below w.heap.size w X → Calls Tryd.prog 16 #[.string ⟨#[53, 32, 45, 32, 54]⟩, .int .i64 2] X fun e w' => e = .returned (.bool true) ∧ Below w.heap.size w w' := fun X hb =>
  fails_1 ⟨#[53, 32, 45, 32, 54]⟩ 2 2 w X hb hL (by decide) (by decide +kernel) (by rfl)
theorem fl6 (w : World) (hL : LaidAt w) : ∀ X, Below w.heap.size w X → Calls Tryd.prog 16 #[.string ⟨#[45, 48, 120, 49]⟩, .int .i64 0] X fun e w' => e = .returned (.bool true) ∧ Below w.heap.size w w' := fun X hb =>
  fails_1 ⟨#[45, 48, 120, 49]⟩ 0 0 w X hb hL (by decide) (by decide +kernel) (by rfl)
theorem fl7 (w : World) (hL : LaidAt w) : ∀ X, Below w.heap.size w X → Calls Tryd.prog 16 #[.string ⟨#[49, 95]⟩, .int .i64 0] X fun e w' => e = .returned (.bool true) ∧ Below w.heap.size w w' := fun X hb =>
  fails_1 ⟨#[49, 95]⟩ 0 0 w X hb hL (by decide) (by decide +kernel) (by rfl)
theorem fl8 (w : World) (hL : LaidAt w) : ∀ X, Below w.heap.size w X → Calls Tryd.prog 16 #[.string ⟨#[97, 97, 97, 97, 97, 97, 97, 97, 97, 97, 97, 97, 97, 97, 97, 97, 97, 97, 97, 97, 97, 97, 97, 97, 97]⟩, .int .i64 0] X fun e w' => e = .returned (.bool true) ∧ Below w.heap.size w w' := fun X hb =>
  fails_1 ⟨#[97, 97, 97, 97, 97, 97, 97, 97, 97, 97, 97, 97, 97, 97, 97, 97, 97, 97, 97, 97, 97, 97, 97, 97, 97]⟩ 0 0 w X hb hL (by decide) (by decide +kernel) (by rfl)
theorem fl9 (w : World) (hL : LaidAt w) : ∀ X, Below w.heap.size w X → Calls Tryd.prog 16 #[.string ⟨#[95, 97]⟩, .int .i64 0] X fun e w' => e = .returned (.bool true) ∧ Below w.heap.size w w' := fun X hb =>
  fails_1 ⟨#[95, 97]⟩ 0 0 w X hb hL (by decide) (by decide +kernel) (by rfl)
theorem fl10 (w : World) (hL : LaidAt w) : ∀ X, Below w.heap.size w X → Calls Tryd.prog 16 #[.string ⟨#[97, 9, 98]⟩, .int .i64 1] X fun e w' => e = .returned (.bool true) ∧ Below w.heap.size w w' := fun X hb =>
  fails_1 ⟨#[97, 9, 98]⟩ 1 1 w X hb hL (by decide) (by decide +kernel) (by rfl)
theorem fl11 (w : World) (hL : LaidAt w) : ∀ X, Below w.heap.size w X → Calls Tryd.prog 16 #[.string ⟨#[32, 34, 120]⟩, .int .i64 1] X fun e w' => e = .returned (.bool true) ∧ Below w.heap.size w w' := fun X hb =>
  fails_1 ⟨#[32, 34, 120]⟩ 1 1 w X hb hL (by decide) (by decide +kernel) (by rfl)
theorem fl12 (w : World) (hL : LaidAt w) : ∀ X, Below w.heap.size w X → Calls Tryd.prog 16 #[.string ⟨#[34, 120, 10, 121, 34]⟩, .int .i64 0] X fun e w' => e = .returned (.bool true) ∧ Below w.heap.size w w' := fun X hb =>
  fails_1 ⟨#[34, 120, 10, 121, 34]⟩ 0 0 w X hb hL (by decide) (by decide +kernel) (by rfl)
theorem fl13 (w : World) (hL : LaidAt w) : ∀ X, Below w.heap.size w X → Calls Tryd.prog 16 #[.string ⟨#[128]⟩, .int .i64 0] X fun e w' => e = .returned (.bool true) ∧ Below w.heap.size w w' := fun X hb =>
  fails_1 ⟨#[128]⟩ 0 0 w X hb hL (by decide) (by decide +kernel) (by rfl)
--LITSEND
theorem tok_over (w : World) (S : ByteArray) (M : List (Tk × Nat)) (m P E : Nat) (hL : LaidAt w) (hs : S.size ≤ 999999) (h : lexR S.data.toList = (M, P, E)) (hm : M.length = m) : ∀ W, Below w.heap.size w W →
    Calls Tryd.prog 6 #[.string S] W fun e w' => ∃ A c, e = .returned (.tuple #[.slice A m c, .int .i64 (P : Nat), .int .i64 (E : Nat)]) ∧ Below w.heap.size w w' := fun W hb => by
  refine (tokM S M P E W hs (hL.below hb) h).mono ?_
  rw [hm]
  rintro e w' ⟨A, c, h1, _, h3⟩
  exact ⟨A, c, h1, hb.trans (h3.mono hb.size)⟩
theorem rep_size (n : Nat) (c : UInt8) : (⟨(List.replicate n c).toArray⟩ : ByteArray).size = n := by
  show Array.size _ = n
  simp
theorem made_tok (i0 : TypeInfo) (hi0 : Tryd.prog.info? 29 = some i0) (hz0 : i0.zero = some (.agg #[.int .u8 0, .string ⟨#[]⟩, .int .i64 0, .int .i64 0])) (hz1 : i0.size = 4) (hz2 : i0.bytes = 40) : ∃ OBJ, ∀ W, (Instr.makeSlice 23 (.int .i64 20001) (.int .i64 20001)).run Tryd.prog W = .ok (.slice (some ⟨W.heap.size, 0, none⟩) 20001 20001) (W.alloc OBJ) :=
  ⟨_, fun W => run_make (P := Tryd.prog) W 23 29 i0 _ Tryd.underlying23 hi0 hz0 .i64 .i64 20001 20001 (by decide) (by decide) (by rw [hz2]; decide) (by decide)⟩
theorem made_byte (i0 : TypeInfo) (hi0 : Tryd.prog.info? 5 = some i0) (hz0 : i0.zero = some (.int .u8 0)) (hz1 : i0.size = 1) (hz2 : i0.bytes = 1) : ∃ OBJ, (∀ W, (Instr.makeSlice 32 (.int .i64 65536) (.int .i64 65536)).run Tryd.prog W = .ok (.slice (some ⟨W.heap.size, 0, none⟩) 65536 65536) (W.alloc OBJ)) ∧ ∀ W : World, FillAt (W.alloc OBJ) W.heap.size 65536 0 32 :=
  ⟨_, fun W => by
    have h := run_make (P := Tryd.prog) W 32 5 i0 (.int .u8 0) Tryd.underlying32 hi0 hz0 .i64 .i64 65536 65536 (by decide) (by decide) (by rw [hz2]; decide) (by decide)
    rw [hz1] at h
    exact h, fun W => fill_made W 65536 32⟩

end Go.Proofs.YtejjbbgompddeaaDoor.lexerNames
