/- Contract of the reference's SameClauses: two slices that read alike are the same. -/
import Derived.Test.YtjklebfggnllcaaBlastLists
namespace Go.Proofs.Ytjklebfggnllcaa
open Go.RowKit Go.Sort
set_option linter.unusedVariables false
set_option linter.unusedSimpArgs false

/-- What the walk reads of both lists at an index. -/
theorem lists_both {w : World} {p p' : Option Addr} {L : List (List Int)} {k n : Nat} (hn : L.length = n) (hk : k < n) (hs : ∀ l ∈ L, l.length ≤ 100)
    (h : ∀ i l, L[i]? = some l → ∃ g b c', p = some ⟨g, 0, none⟩ ∧ w.cell? ⟨g, i, none⟩ = some (.slice (some ⟨b, 0, none⟩) l.length c') ∧ ∀ j x, l[j]? = some x → w.cell? ⟨b, j, none⟩ = some (.int .i64 x))
    (h' : ∀ i l, L[i]? = some l → ∃ g b c', p' = some ⟨g, 0, none⟩ ∧ w.cell? ⟨g, i, none⟩ = some (.slice (some ⟨b, 0, none⟩) l.length c') ∧ ∀ j x, l[j]? = some x → w.cell? ⟨b, j, none⟩ = some (.int .i64 x)) :
    ∃ g g' b b' c c' m, ∃ f : Nat → Int, p = some ⟨g, 0, none⟩ ∧ p' = some ⟨g', 0, none⟩ ∧ m ≤ 100 ∧ (∀ wr, Below w.heap.size w wr → wr.cell? ⟨g, k, none⟩ = some (.slice (some ⟨b, 0, none⟩) m c) ∧ wr.cell? ⟨g', k, none⟩ = some (.slice (some ⟨b', 0, none⟩) m c')) ∧
      ∀ wr, Below w.heap.size w wr → ∀ j, j < m → wr.cell? ⟨b, j, none⟩ = some (.int .i64 (f j)) ∧ wr.cell? ⟨b', j, none⟩ = some (.int .i64 (f j)) := by
  obtain ⟨l, hl⟩ : ∃ l, L[k]? = some l := ⟨L[k]'(by omega), by simp⟩
  obtain ⟨g, b, c, e1, h2, h3⟩ := h k l hl
  obtain ⟨g', b', c', e1', h2', h3'⟩ := h' k l hl
  refine ⟨g, g', b, b', c, c', l.length, fun j => l[j]?.getD 0, e1, e1', hs l (List.mem_of_getElem? hl), fun wr hb => ⟨by rw [hb.cell (cell_lt h2)]; exact h2, by rw [hb.cell (cell_lt h2')]; exact h2'⟩, fun wr hb j hj => ?_⟩
  have hx : l[j]? = some (l[j]?.getD 0) := by simp [hj]
  have q := h3 j _ hx
  have q' := h3' j _ hx
  exact ⟨by rw [hb.cell (cell_lt q)]; exact q, by rw [hb.cell (cell_lt q')]; exact q'⟩

set_option maxRecDepth 100000 in
set_option maxHeartbeats 1000000 in
theorem sameLists_any (w : World) (base base' : Nat) (v v' : Value) (us us' : List Value) (L : List (List Int)) (h : ListsAt w base v us L) (h' : ListsAt w base' v' us' L) (hL : L.length ≤ 1000000) (hs : ∀ l ∈ L, l.length ≤ 100) :
    Calls Try.prog 18 #[v, v'] w fun e w' => e = .returned (.bool true) ∧ Below w.heap.size w w' := by
  obtain ⟨p, c, rfl, hr⟩ := h.read
  obtain ⟨p', c', rfl, hr'⟩ := h'.read
  obtain ⟨n, hn⟩ : ∃ n, L.length = n := ⟨_, rfl⟩
  have HP := Lib.hid (fun k hk => lists_both (k := k) hn hk hs hr hr')
  rw [hn] at hL ⊢
  clear h h' hr hr' hs hn
  go_enter Try.func18, Try.ntmps18
  go_wp2
  go_loopw [5] (fun vi wr => ∃ k : Nat, vi = .int .i64 k ∧ k ≤ n ∧ Below w.heap.size w wr) (fun vi _ => n - (intOf vi).toNat)
  case atStart => exact ⟨0, rfl, by omega, Below.refl _ _⟩
  case round =>
    obtain ⟨k, rfl, hk, hb⟩ := hrel
    have HB := Lib.hid hb
    clear hb
    by_cases hlt : k < n
    · obtain ⟨g, g', b, b', cc, cc', m, f, rfl, rfl, hm, hX, hY⟩ := HP.out k hlt
      have HX := Lib.hid hX
      have HY := Lib.hid hY
      obtain ⟨x0, x1⟩ := hX wr HB.out
      have K0 := fun d os => cell_regrown x0 d os
      have K1 := fun d os => cell_regrown x1 d os
      clear hX hY
      have hj0 : (0 : Int) ≤ (k : Int) := Int.natCast_nonneg _
      have hj1 : (k : Int) < (n : Int) := by omega
      go_wp2_with fail
      clear x0 x1
      refine wp_region_quiet_below (by kernel_rfl) (by kernel_rfl) ?_
      repeat (first | go_big_quiet_step (fail) | quiet_step (fail))
      refine wpQuiet_nil ?_
      intro _ hw'
      obtain ⟨⟨dq, osq⟩, hw''⟩ := hw'
      subst hw''
      have HB1 := Lib.hid (HB.out.trans ((below_regrown wr dq osq).mono HB.out.size))
      generalize grow (redrawn wr dq) osq = w1 at *
      clear K0 K1
      go_wp2
      go_loopw [6] (fun vi wr' => ∃ i : Nat, vi = .int .i64 i ∧ i ≤ m ∧ Below w.heap.size w wr') (fun vi _ => m - (intOf vi).toNat)
      case atStart => exact ⟨0, rfl, by omega, HB1.out⟩
      case round =>
        obtain ⟨i, rfl, hi, hb⟩ := hrel
        have HB2 := Lib.hid hb
        clear hb
        obtain ⟨x0, x1⟩ := HX.out _ HB2.out
        by_cases hit : i < m
        · obtain ⟨y0, y1⟩ := HY.out _ HB2.out i hit
          have K0 := fun d os => cell_regrown x0 d os
          have K1 := fun d os => cell_regrown x1 d os
          have K2 := fun d os => cell_regrown y0 d os
          have K3 := fun d os => cell_regrown y1 d os
          have hi0 : (0 : Int) ≤ (i : Int) := Int.natCast_nonneg _
          have hi1 : (i : Int) < (m : Int) := by omega
          go_wp2_with fail
          clear x0 x1 y0 y1
          refine wp_region_quiet_below (by kernel_rfl) (by kernel_rfl) ?_
          repeat (first | go_big_quiet_step (fail) | quiet_step (fail))
          refine wpQuiet_nil ?_
          intro _ hw'
          obtain ⟨⟨dq, osq⟩, hw''⟩ := hw'
          subst hw''
          go_wp2
          go_roundw
          case rel => exact ⟨i + 1, by first | rfl | go_num | (rw [wrap64_small _ (by omega) (by omega)]; rfl), by omega, HB2.out.trans ((below_regrown _ dq osq).mono HB2.out.size)⟩
          case measure => (try rw [wrap64_small _ (by omega) (by omega)]); simp only [intOf]; omega
        · obtain rfl : i = m := by omega
          go_wp2
          go_roundw
          case rel => exact ⟨k + 1, by first | rfl | go_num | (rw [wrap64_small _ (by omega) (by omega)]; rfl), by omega, HB2.out⟩
          case measure => (try rw [wrap64_small _ (by omega) (by omega)]); simp only [intOf]; omega
    · obtain rfl : k = n := by omega
      go_wp2
      go_ret
      exact ⟨rfl, HB.out⟩
end Go.Proofs.Ytjklebfggnllcaa
