/- Contracts of the reference's places, truth and shift. -/
import Derived.Test.YtdllophjfiebiaaRefLess
import Derived.Maps.AppendAt
namespace Go.Proofs.Ytdllophjfiebiaa
open Go.RowKit Go.Sort
set_option linter.unusedVariables false
set_option linter.unusedSimpArgs false

theorem truth_any (p : Bool) (w : World) :
    Calls Try.prog 34 #[.bool p] w fun e w' => e = .returned (.int .u64 (bitN p : Nat)) ∧ w = w' := by
  cases p <;>
  · go_enter Try.func34, Try.ntmps34
    go_wp2
    go_ret
    exact ⟨rfl, rfl⟩

theorem places_any (x : Nat) (w : World) :
    Calls Try.prog 32 #[.int .u64 x] w fun e w' => e = .returned (.int .i64 (min x 64 : Nat)) ∧ w = w' := by
  obtain ⟨m, hm⟩ : ∃ m, m = min x 64 := ⟨_, rfl⟩
  rw [← hm]
  have HM := Lib.hid hm
  clear hm
  go_enter Try.func32, Try.ntmps32
  go_wp2
  go_loop [3] (fun i => ∃ k : Nat, k ≤ m ∧ i = .int .i64 k) (fun i => m - (intOf i).toNat)
  case atStart => exact ⟨0, Nat.zero_le _, rfl⟩
  case round =>
    obtain ⟨k, hk, rfl⟩ := hrel
    have hm := HM.out
    by_cases hlt : k < m
    · have t1 : k < 64 := by omega
      have t2 : k < x := by omega
      clear hm
      go_wp2
      go_round
      case rel => exact ⟨k + 1, by omega, by go_num⟩
      case measure => simp [intOf]; omega
    · obtain rfl : k = m := by omega
      by_cases h64 : k < 64
      · have t2 : ¬ k < x := by omega
        have t3 : decide (k < x) = false := by simp; omega
        clear hm
        go_wp2
        go_ret
        exact ⟨rfl, rfl⟩
      · have t1 : ¬ k < 64 := h64
        have t3 : decide ((k : Int) < 64) = false := by simp; omega
        clear hm
        go_wp2
        go_ret
        exact ⟨rfl, rfl⟩

/-- What a shift by s places down leaves: zeros from below, the bit 'fill' from above. -/
def IsShift (n X Z fill : Nat) (s : Int) : Prop := ∀ i : Nat, i < n → bt Z i = if (i : Int) + s < 0 then 0 else if (n : Int) ≤ i + s then fill else bt X ((i : Int) + s).toNat

theorem shift_any (n X Z fill g cap : Nat) (s : Int) (w : World) (h0 : 1 ≤ n) (h1 : n ≤ 64) (hs0 : -64 ≤ s) (hs1 : s ≤ 64) (hc : Cells w g n X) (hz : IsShift n X Z fill s) :
    Calls Try.prog 31 #[.slice (some ⟨g, 0, none⟩) n cap, .int .i64 s, .int .i64 fill] w (Gives n Z w) := by
  obtain ⟨i0, hi, hz0, hz1, hz2⟩ := info_parts int_info
  go_enter Try.func31, Try.ntmps31
  go_wp2
  go_loopw [7, 8] (fun v i wr => ∃ k : Nat, k ≤ n ∧ i = .int .i64 k ∧ wr.ownsRow w.heap.size 3 1 v k (bitCells Z k) ∧ Below w.heap.size w wr)
    (fun _ i _ => n - (intOf i).toNat)
  case atStart => exact ⟨0, Nat.zero_le _, rfl, World.ownsRow_nil _ _ _ _, Below.refl _ _⟩
  case round =>
    obtain ⟨k, hk, rfl, hown, hb⟩ := hrel
    by_cases hlt : k < n
    · have hzk := hz k hlt
      have HB := Lib.hid hb
      have HO := Lib.hid hown
      have HCc := Lib.hid hc
      clear hb hown hz
      by_cases p1 : (k : Int) + s < 0
      · rw [if_pos p1] at hzk
        have HZ := Lib.hid hzk
        clear hzk hc
        go_wp2_with (at_builtin; refine wpList_append_own _ rfl _ _ 48 rfl w.heap.size 3 i0 (.int .i64 0) 1 8 Try.underlying48 hi hz0 hz1 hz2 rfl (by decide) _ _ _ rfl (World.ownsRow.alloc HO.out _) ⟨_, 0, none⟩ 1 1 [.int .i64 0] rfl rfl (cell_one_new _ _ _) (by intro u hu; simp at hu; subst hu; rfl) (by unfold maxLen; omega) (by omega) (by have := HB.out.size; simp; omega) ?_; intro v' w1 hown' hgrow _; have HR := Lib.hid (step_own HO.out HB.out (by rw [HZ.out]; rfl) hown' hgrow); clear hown' hgrow)
        go_roundw
        case rel => exact ⟨k + 1, by omega, by go_num, HR.out.1, HR.out.2⟩
        case measure => simp [intOf]; omega
      · rw [if_neg p1] at hzk
        by_cases p2 : (n : Int) ≤ k + s
        · rw [if_pos p2] at hzk
          have HZ := Lib.hid hzk
          clear hzk hc
          go_wp2_with (at_builtin; refine wpList_append_own _ rfl _ _ 48 rfl w.heap.size 3 i0 (.int .i64 0) 1 8 Try.underlying48 hi hz0 hz1 hz2 rfl (by decide) _ _ _ rfl (World.ownsRow.alloc HO.out _) ⟨_, 0, none⟩ 1 1 [.int .i64 fill] rfl rfl (cell_one_new _ _ _) (by intro u hu; simp at hu; subst hu; rfl) (by unfold maxLen; omega) (by omega) (by have := HB.out.size; simp; omega) ?_; intro v' w1 hown' hgrow _; have HR := Lib.hid (step_own HO.out HB.out (by rw [HZ.out]) hown' hgrow); clear hown' hgrow)
          go_roundw
          case rel => exact ⟨k + 1, by omega, by go_num, HR.out.1, HR.out.2⟩
          case measure => simp [intOf]; omega
        · rw [if_neg p2] at hzk
          have hcell := cell_later HB.out (hc ((k : Int) + s).toNat (by omega))
          rw [← hzk] at hcell
          have g0 : 0 ≤ (k : Int) + s := by omega
          have g1 : (k : Int) + s < n := by omega
          clear hzk hc
          generalize hbz : bt Z k = b at hcell
          have HZ := Lib.hid hbz
          clear hbz
          go_wp2_with (at_builtin; refine wpList_append_own _ rfl _ _ 48 rfl w.heap.size 3 i0 (.int .i64 0) 1 8 Try.underlying48 hi hz0 hz1 hz2 rfl (by decide) _ _ _ rfl (World.ownsRow.alloc HO.out _) ⟨_, 0, none⟩ 1 1 [.int .i64 b] rfl rfl (cell_one_new _ _ _) (by intro u hu; simp at hu; subst hu; rfl) (by unfold maxLen; omega) (by omega) (by have := HB.out.size; simp; omega) ?_; intro v' w1 hown' hgrow _; have HR := Lib.hid (step_own HO.out HB.out (by rw [HZ.out]) hown' hgrow); clear hown' hgrow)
          go_roundw
          case rel => exact ⟨k + 1, by omega, by go_num, HR.out.1, HR.out.2⟩
          case measure => simp [intOf]; omega
    · obtain rfl : k = n := by omega
      have HB := Lib.hid hb
      have HO := Lib.hid hown
      clear hb hown hz hc
      go_wp2
      go_ret
      exact Gives.mk' HO.out h0 HB.out
end Go.Proofs.Ytdllophjfiebiaa
