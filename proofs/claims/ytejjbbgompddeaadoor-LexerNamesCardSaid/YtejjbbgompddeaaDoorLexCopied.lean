/- copied of package lexer. -/
import Derived.Test.YtejjbbgompddeaaDoorLexRaw
namespace Go.Proofs.YtejjbbgompddeaaDoor
open Go.RowKit Go.Instr
set_option linter.unusedVariables false
set_option linter.unusedSimpArgs false

theorem raw_cells (W : World) (y : Raw) (b : Nat) (T : TypeId) (hb : W.heap.size = b) : ∀ (j : Nat) (u : Value), (rawC y)[j]? = some u → (W.alloc (.cells #[.int .u8 y.k, .string y.t, .int .i64 y.n, .int .i64 y.p] T)).cell? ((⟨b, 0, none⟩ : Addr).add j) = some u := by
  subst hb
  exact cells_four W _ _ _ _ T
theorem raw_back {w w1 : World} (y : Raw) (hb : Below (w.alloc (.cells #[.int .u8 y.k, .string y.t, .int .i64 y.n, .int .i64 y.p] 29)).heap.size (w.alloc (.cells #[.int .u8 y.k, .string y.t, .int .i64 y.n, .int .i64 y.p] 29)) w1) :
    w1.cell? ⟨w.heap.size, 0, none⟩ = some (.int .u8 y.k) ∧ w1.cell? ⟨w.heap.size, 1, none⟩ = some (.string y.t) ∧ w1.cell? ⟨w.heap.size, 2, none⟩ = some (.int .i64 y.n) ∧ w1.cell? ⟨w.heap.size, 3, none⟩ = some (.int .i64 y.p) ∧ (∀ o, w1.frozen? ⟨w.heap.size, o, none⟩ = false) := by
  have hlt : w.heap.size < (w.alloc (.cells #[.int .u8 y.k, .string y.t, .int .i64 y.n, .int .i64 y.p] 29)).heap.size := by simp
  have h := (MapKept.heap_alloc w (.cells #[.int .u8 y.k, .string y.t, .int .i64 y.n, .int .i64 y.p] 29)).1
  have h2 := (hb.block w.heap.size hlt).trans h
  refine ⟨by simp [World.cell?, h2], by simp [World.cell?, h2], by simp [World.cell?, h2], by simp [World.cell?, h2], fun o => by simp [World.frozen?, h2]⟩
theorem raw_keep {w w' : World} {B n : Nat} {v : Value} {xs : List Value} (h : w.ownsRow B 29 4 v n xs) (hb : Below w.heap.size w w') : w'.ownsRow B 29 4 v n xs :=
  h.kept (grown_below (row := none) hb) (by by_cases e : v.ownBlock = none; exact .inl e; exact .inr e)
/-- All texts are small. -/
def RawFit (L : List Raw) : Prop := L.length ≤ 20100 ∧ ∀ y ∈ L, y.t.size ≤ 100000

set_option maxHeartbeats 1000000 in
set_option maxRecDepth 100000 in
theorem copied_any (A : Option Addr) (c : Nat) (L : List Raw) (w : World) (hA : RawAt w A L) (hf : RawFit L) :
    Calls Tryd.prog 29 #[.slice A L.length c] w fun e w' => ∃ v, e = .returned v ∧ w'.ownsRow w.heap.size 29 4 v L.length (rawRow L) ∧ Below w.heap.size w w' := by
  have HA := Lib.hid hA
  have HF := Lib.hid hf
  clear hA
  obtain ⟨n, hn⟩ : ∃ n, L.length = n := ⟨_, rfl⟩
  have HN := Lib.hid hn
  have hl : (n : Int) ≤ 20100 := by have := hf.1; omega
  rw [hn]
  clear hn hf
  obtain ⟨i0, hi0, hz0, hz1, hz2⟩ := info_parts tok_info
  go_enter Tryd.func29, Tryd.ntmps29
  go_wp2
  go_loopw [3, 8] (fun v p wr => ∃ i : Nat, p = .int .i64 i ∧ i ≤ n ∧ Hid (Below w.heap.size w wr ∧ wr.ownsRow w.heap.size 29 4 v i (rawRow (L.take i)))) (fun _ p _ => n - (intOf p).toNat)
  case atStart => exact ⟨0, rfl, by omega, Lib.hid ⟨Below.refl _ _, ⟨rfl, .inl ⟨rfl, rfl⟩⟩⟩⟩
  case round =>
    obtain ⟨i, rfl, hi, HI⟩ := hrel
    by_cases hlt : i < n
    · obtain ⟨y, hy⟩ : ∃ y, L[i]? = some y := ⟨_, List.getElem?_eq_getElem (by rw [HN.out]; exact hlt)⟩
      obtain ⟨g, o, rfl, hg, t0, t1, t2, t3⟩ := (HA.out.below HI.out.1) i y hy
      have HC := Lib.hid (fun W => clone_any y.t W (by have := HF.out.2 y (List.mem_of_getElem? hy); omega))
      have HLT := Lib.hid hlt
      have HY : Hid (rawRow (L.take (i + 1)) = rawRow (L.take i) ++ rawC y) := Lib.hid (by rw [List.take_add_one, hy]; exact rawRow_snoc _ _)
      clear hy
      go_wp2_with (first
        | (go_at_call 18; (with_reducible refine (HC.out _).mono ?_); rintro e w2 ⟨rfl, hb2⟩; have HB2 := Lib.hid hb2; obtain ⟨r0, r1, r2, r3, rf⟩ := raw_back y hb2; clear hb2)
        | (at_builtin; refine Hid.out ?_))
      refine Lib.hid ?_
      have hsz := HI.out.1.size
      have hbX : Below wr.heap.size wr ((w2.setCell ⟨wr.heap.size, 1, none⟩ (.string y.t)).alloc (.cells #[.int .u8 y.k, .string y.t, .int .i64 y.n, .int .i64 y.p] 29)) := by
        have h1 : Below wr.heap.size wr w2 := ((Below.refl _ _).alloc (Nat.le_refl _) _).trans (HB2.out.mono (by simp))
        exact (h1.setCell (Nat.le_refl _) _).alloc (by simpa using h1.size) _
      refine wpList_append_own _ rfl _ _ 23 rfl w.heap.size 29 i0 (.agg #[.int .u8 0, .string ⟨#[]⟩, .int .i64 0, .int .i64 0]) 4 40 Tryd.underlying23 hi0 hz0 hz1 hz2 rfl (by decide) _ i _ rfl (raw_keep HI.out.2 hbX) ⟨_, 0, none⟩ 1 1 (rawC y) rfl rfl (raw_cells _ y _ _ (by simp)) (by intro u hu; simp [rawC] at hu; rcases hu with rfl | rfl | rfl | rfl <;> rfl) (by have := HLT.out; unfold maxLen; omega) (by have := HLT.out; omega) (by have := hbX.size; omega) ?_
      intro v5 w5 hown5 hg5 _
      have HB5 : Hid (Below w.heap.size w w5) := Lib.hid ((HI.out.1.trans (hbX.mono hsz)).grown hg5 (by have := hbX.size; omega) (fun k hk => own_ge HI.out.2 k hk))
      have HO5 : Hid (w5.ownsRow w.heap.size 29 4 v5 (i + 1) (rawRow (L.take (i + 1)))) := Lib.hid (by rw [HY.out]; exact hown5)
      clear hown5 hg5 hbX hsz
      go_wp2
      go_roundw
      case rel => exact ⟨i + 1, by first | rfl | go_num | (congr 1), by have := HLT.out; omega, Lib.hid ⟨HB5.out, HO5.out⟩⟩
      case measure => simp only [intOf]; have := HLT.out; omega
    · obtain rfl : i = n := by omega
      have h2 := HI.out.2
      rw [List.take_of_length_le (by rw [HN.out]; exact Nat.le_refl _)] at h2
      have HR := Lib.hid h2
      clear h2
      go_wp2
      go_ret
      exact ⟨_, rfl, HR.out, HI.out.1⟩
end Go.Proofs.YtejjbbgompddeaaDoor
