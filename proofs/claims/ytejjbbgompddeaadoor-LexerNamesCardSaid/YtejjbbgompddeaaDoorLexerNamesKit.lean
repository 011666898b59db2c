/- The helpers of LexerNames: name, mark, number, reads, fails; Tokens, Print and Lines at its arguments. -/
import Derived.Test.YtejjbbgompddeaaDoorLexMany
import Derived.Test.YtejjbbgompddeaaDoorLexLines
namespace Go.Proofs.YtejjbbgompddeaaDoor
open Go.RowKit Go.Instr
set_option linter.unusedVariables false
set_option linter.unusedSimpArgs false

set_option maxRecDepth 100000 in
theorem mkName (s : ByteArray) (w : World) : Calls Tryd.prog 11 #[.string s] w fun e w' => e = .returned (.agg #[.int .u8 1, .string s, .int .i64 0, .int .i64 0]) ∧ Below w.heap.size w w' := by
  go_enter Tryd.func11, Tryd.ntmps11
  go_wp2
  exact bodyPost_ret (v := .agg #[.int .u8 1, .string s, .int .i64 0, .int .i64 0]) (by simp [results, Tryd.results11, go_sem]) rfl ⟨rfl, (Below.refl _ _).alloc (Nat.le_refl _) _⟩
set_option maxRecDepth 100000 in
theorem mkMark (s : ByteArray) (w : World) : Calls Tryd.prog 12 #[.string s] w fun e w' => e = .returned (.agg #[.int .u8 4, .string s, .int .i64 0, .int .i64 0]) ∧ Below w.heap.size w w' := by
  go_enter Tryd.func12, Tryd.ntmps12
  go_wp2
  exact bodyPost_ret (v := .agg #[.int .u8 4, .string s, .int .i64 0, .int .i64 0]) (by simp [results, Tryd.results12, go_sem]) rfl ⟨rfl, (Below.refl _ _).alloc (Nat.le_refl _) _⟩
set_option maxRecDepth 100000 in
theorem mkNumber (s : ByteArray) (n : Int) (w : World) : Calls Tryd.prog 15 #[.string s, .int .i64 n] w fun e w' => e = .returned (.agg #[.int .u8 2, .string s, .int .i64 n, .int .i64 0]) ∧ Below w.heap.size w w' := by
  go_enter Tryd.func15, Tryd.ntmps15
  go_wp2
  exact bodyPost_ret (v := .agg #[.int .u8 2, .string s, .int .i64 n, .int .i64 0]) (by simp [results, Tryd.results15, go_sem]) rfl ⟨rfl, (Below.refl _ _).alloc (Nat.le_refl _) _⟩

theorem tokM (t : ByteArray) (M : List (Tk × Nat)) (P E : Nat) (w : World) (ht : t.size ≤ 999999) (hL : LaidAt w) (h : lexR t.data.toList = (M, P, E)) :
    Calls Tryd.prog 6 #[.string t] w fun e w' => ∃ A c, e = .returned (.tuple #[.slice A M.length c, .int .i64 (P : Nat), .int .i64 (E : Nat)]) ∧ ToksAt w' A M ∧ Below w.heap.size w w' := by
  refine (tokens_any t w ht hL).mono ?_
  unfold TokensGives
  rw [h]
  rintro e w' ⟨v, rfl, h2, h3⟩
  obtain ⟨A, c, rfl, h4⟩ := toksAt_of h2
  exact ⟨A, c, rfl, h4, h3⟩
theorem sameN (A A' : Option Addr) (c c' : Nat) (M : List (Tk × Nat)) (L : List Raw) (w : World) (hA : ToksAt w A M) (hA' : RawAt w A' L) (hs : SameQ (M.map rawT) L) (hlen : M.length ≤ 20000) :
    Calls Tryd.prog 30 #[.slice A M.length c, .slice A' L.length c', .bool false] w fun e w' => e = .returned (.bool true) ∧ Below w.heap.size w w' := by
  have h := sameRaw A A' c c' (M.map rawT) L w (rawAt_toks hA) hA' hs (by rw [List.length_map]; omega)
  rw [List.length_map] at h
  exact h

set_option maxRecDepth 100000 in
theorem reads_any (s : ByteArray) (A : Option Addr) (c : Nat) (ys : List Raw) (w : World) (hR : RawAt w A ys) (hk : RawOk ys) (hL : LaidAt w) (hs : s.size ≤ 999999) (h : readsB s.data.toList (ys.map rawTk) = true) (hlen : ys.length ≤ 20000) :
    Calls Tryd.prog 14 #[.string s, .slice A ys.length c] w fun e w' => e = .returned (.bool true) ∧ Below w.heap.size w w' := by
  obtain ⟨M, h1, h2⟩ := readsB_yes h
  have hMl : M.length = ys.length := by have := congrArg List.length h2; simpa using this
  have hSQ : SameQ (M.map rawT) ys := by
    have e := congrArg (List.map fun x => x) h2
    refine sameQ_of (by rw [map_tk, h2]) (fun y hy => ?_) hk
    obtain ⟨z, hz, rfl⟩ := List.mem_map.1 hy
    have hz1 : z.1 ∈ ys.map rawTk := by rw [← h2]; exact List.mem_map.2 ⟨z, hz, rfl⟩
    obtain ⟨y', hy', e'⟩ := List.mem_map.1 hz1
    have := hk y' hy'
    unfold rawT
    simp only
    rw [← e']
    unfold rawTk
    simp only
    omega
  have HT := Lib.hid (tokM s M 0 0 w hs hL h1)
  have HR := Lib.hid hR
  have HSQ := Lib.hid hSQ
  have HML := Lib.hid (show M.length ≤ 20000 by omega)
  clear h h1 h2 hMl hSQ hL hR
  go_enter Tryd.func14, Tryd.ntmps14
  go_wp2_with (first
    | (go_at_call 6; (with_reducible refine HT.out.mono ?_); rintro e w1 ⟨At, ct, rfl, hta, hb1⟩; have HTA := Lib.hid hta; have HB1 := Lib.hid hb1; clear hta hb1)
    | (go_at_call 30; (with_reducible refine (sameN At A ct c M ys _ HTA.out (HR.out.below HB1.out) HSQ.out HML.out).mono ?_); rintro e w2 ⟨rfl, hb2⟩))
  go_ret
  exact ⟨rfl, HB1.out.trans (hb2.mono HB1.out.size)⟩
set_option maxRecDepth 100000 in
theorem fails_any (s : ByteArray) (q : Nat) (w : World) (hL : LaidAt w) (hs : s.size ≤ 999999) (h : failsB s.data.toList q = true) :
    Calls Tryd.prog 16 #[.string s, .int .i64 (q : Int)] w fun e w' => e = .returned (.bool true) ∧ Below w.heap.size w w' := by
  have HT := Lib.hid (tokM s [] q 12 w hs hL (failsB_yes h))
  have b1 : ((q : Int) == (q : Int)) = true := by simp
  clear h hL
  go_enter Tryd.func16, Tryd.ntmps16
  go_wp2_with (go_at_call 6; (with_reducible refine HT.out.mono ?_); rintro e w1 ⟨At, ct, rfl, hta, hb1⟩)
  go_ret
  exact ⟨rfl, hb1⟩

theorem lit_cells (X : World) (cs : Array Value) (ty : TypeId) (j : Nat) (v : Value) (h : cs[j]? = some v) : (X.alloc (.cells cs ty)).cell? ⟨X.heap.size, 0 + j, none⟩ = some v := by
  have h1 := heap_alloc_new X (.cells cs ty)
  rw [Nat.zero_add]
  simp only [World.cell?]
  rw [h1]
  exact h
/-- A literal of tokens in memory. -/
theorem lit_raw (X : World) (ys : List Raw) (cs : Array Value) (ty : TypeId) (h : cs = (rawRow ys).toArray) : RawAt (X.alloc (.cells cs ty)) (some ⟨X.heap.size, 0, none⟩) ys := by
  subst h
  intro i y hy
  have hg : ∀ (L : List Raw) (i : Nat) (y : Raw), L[i]? = some y → (rawRow L)[i * 4]? = some (.int .u8 y.k) ∧ (rawRow L)[i * 4 + 1]? = some (.string y.t) ∧ (rawRow L)[i * 4 + 2]? = some (.int .i64 y.n) ∧ (rawRow L)[i * 4 + 3]? = some (.int .i64 y.p) := by
    intro L
    induction L with
    | nil => intro i y h; simp at h
    | cons z L ih =>
      intro i y h
      have e : rawRow (z :: L) = rawC z ++ rawRow L := rfl
      have hl : (rawC z).length = 4 := rfl
      cases i with
      | zero => simp at h; subst h; exact ⟨rfl, rfl, rfl, rfl⟩
      | succ i =>
        obtain ⟨h0, h1, h2, h3⟩ := ih i y (by simpa using h)
        rw [e]
        refine ⟨?_, ?_, ?_, ?_⟩
        · rw [List.getElem?_append_right (by omega), hl, show (i + 1) * 4 - 4 = i * 4 by omega]; exact h0
        · rw [List.getElem?_append_right (by omega), hl, show (i + 1) * 4 + 1 - 4 = i * 4 + 1 by omega]; exact h1
        · rw [List.getElem?_append_right (by omega), hl, show (i + 1) * 4 + 2 - 4 = i * 4 + 2 by omega]; exact h2
        · rw [List.getElem?_append_right (by omega), hl, show (i + 1) * 4 + 3 - 4 = i * 4 + 3 by omega]; exact h3
  obtain ⟨h0, h1, h2, h3⟩ := hg ys i y hy
  exact ⟨_, 0, rfl, by simp, lit_cells X _ ty (i * 4) _ (by simpa using h0), by rw [Nat.add_assoc]; exact lit_cells X _ ty (i * 4 + 1) _ (by simpa using h1), by rw [Nat.add_assoc]; exact lit_cells X _ ty (i * 4 + 2) _ (by simpa using h2), by rw [Nat.add_assoc]; exact lit_cells X _ ty (i * 4 + 3) _ (by simpa using h3)⟩
theorem below_new {w X : World} (h : Below w.heap.size w X) (o : Obj) : Below w.heap.size w (X.alloc o) := h.alloc h.size o
theorem reads_1 (s T : ByteArray) (k n p : Int) (X : World) (hL : LaidAt X) (hs : s.size ≤ 999999) (hk : 0 ≤ k ∧ k ≤ 255) (h : readsB s.data.toList [⟨k.toNat, T.data.toList, n⟩] = true) :
    Calls Tryd.prog 14 #[.string s, .slice (some ⟨X.heap.size, 0, none⟩) 1 1] (X.alloc (.cells #[.int .u8 k, .string T, .int .i64 n, .int .i64 p] 29)) fun e w' => e = .returned (.bool true) ∧ Below X.heap.size X w' := by
  have hb := (Below.refl X.heap.size X).alloc (Nat.le_refl _) (.cells #[.int .u8 k, .string T, .int .i64 n, .int .i64 p] 29)
  refine (reads_any s _ 1 [⟨k, T, n, p⟩] _ (lit_raw X [⟨k, T, n, p⟩] _ _ rfl) (fun y hy => by rw [List.mem_singleton.1 hy]; exact hk) (hL.below hb) hs h (by simp)).mono ?_
  rintro e w' ⟨h1, h2⟩
  exact ⟨h1, hb.trans (h2.mono hb.size)⟩
theorem reads_2 (s T T' : ByteArray) (k n p k' n' p' : Int) (X : World) (hL : LaidAt X) (hs : s.size ≤ 999999) (hk : (0 ≤ k ∧ k ≤ 255) ∧ 0 ≤ k' ∧ k' ≤ 255) (h : readsB s.data.toList [⟨k.toNat, T.data.toList, n⟩, ⟨k'.toNat, T'.data.toList, n'⟩] = true) :
    Calls Tryd.prog 14 #[.string s, .slice (some ⟨X.heap.size, 0, none⟩) 2 2] (X.alloc (.cells #[.int .u8 k, .string T, .int .i64 n, .int .i64 p, .int .u8 k', .string T', .int .i64 n', .int .i64 p'] 29)) fun e w' => e = .returned (.bool true) ∧ Below X.heap.size X w' := by
  have hb := (Below.refl X.heap.size X).alloc (Nat.le_refl _) (.cells #[.int .u8 k, .string T, .int .i64 n, .int .i64 p, .int .u8 k', .string T', .int .i64 n', .int .i64 p'] 29)
  refine (reads_any s _ 2 [⟨k, T, n, p⟩, ⟨k', T', n', p'⟩] _ (lit_raw X [⟨k, T, n, p⟩, ⟨k', T', n', p'⟩] _ _ rfl) (fun y hy => by
    rcases List.mem_cons.1 hy with rfl | hy
    · exact hk.1
    · rw [List.mem_singleton.1 hy]; exact hk.2) (hL.below hb) hs h (by simp)).mono ?_
  rintro e w' ⟨h1, h2⟩
  exact ⟨h1, hb.trans (h2.mono hb.size)⟩
theorem fails_1 (s : ByteArray) (q : Nat) (z : Int) (w X : World) (hb : Below w.heap.size w X) (hL : LaidAt w) (hs : s.size ≤ 999999) (h : failsB s.data.toList q = true) (hz : z = (q : Int)) :
    Calls Tryd.prog 16 #[.string s, .int .i64 z] X fun e w' => e = .returned (.bool true) ∧ Below w.heap.size w w' := by
  rw [hz]
  refine (fails_any s q X (hL.below hb) hs h).mono ?_
  rintro e w' ⟨h1, h2⟩
  exact ⟨h1, hb.trans (h2.mono hb.size)⟩
end Go.Proofs.YtejjbbgompddeaaDoor
