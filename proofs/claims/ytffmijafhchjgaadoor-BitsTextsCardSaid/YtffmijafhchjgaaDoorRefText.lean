/- Contract of the reference's Text. -/
import Derived.Test.YtffmijafhchjgaaDoorRefOk
import Derived.Test.YtffmijafhchjgaaDoorBitsParseAny
namespace Go.Proofs.YtffmijafhchjgaaDoor
open Go.RowKit Go.Sort
set_option linter.unusedVariables false

theorem hexB_zero (x : Nat) : hexB 0 x = ⟨#[]⟩ := rfl
theorem hexB_succ (k x : Nat) : hexB (k + 1) x = ⟨#[UInt8.ofNat (digAt x k)]⟩ ++ hexB k x := by
  refine ba_eq ?_
  show (hexL (k + 1) x).toArray.toList = _
  rw [hexL_succ]
  simp [hexB]
theorem digit_cut : ∀ d : Fin 16, hexDigits.extract d.val (d.val + 1) = ⟨#[UInt8.ofNat (hexD d.val)]⟩ := by decide +kernel
theorem front_one : ∀ n : Fin 10, hexDigits.extract (n.val % 10) (n.val % 10 + 1) = decB n.val := by decide +kernel
theorem front_two : ∀ n : Fin 65, n.val < 10 ∨ hexDigits.extract (n.val / 10) (n.val / 10 + 1) ++ hexDigits.extract (n.val % 10) (n.val % 10 + 1) = decB n.val := by decide +kernel

set_option maxRecDepth 100000 in
theorem refText_ok (n x : Nat) (w : World) (h0 : 1 ≤ n) (h1 : n ≤ 64) (hx : x < 2 ^ n) :
    Calls Tryd.prog 6 #[.int .i64 n, .int .u64 x] w fun e w' => e = .returned (.tuple #[.string (textB n x), .int .i64 0]) ∧ Below w.heap.size w w' := by
  have hx64 : x < 18446744073709551616 := Nat.lt_of_lt_of_le hx (pow_le n h1)
  have HO := Lib.hid (fun W => refOk_yes n x W h0 h1 hx64)
  rw [(okB_iff n x).2 hx] at HO
  have HW := Lib.hid (fun W => wide_yes (n : Int) W (by omega) (by omega))
  obtain ⟨m, hm⟩ : ∃ m, m = (n + 3) / 4 := ⟨_, rfl⟩
  have hq : ((n : Int) + 3) / 4 = (m : Int) := by omega
  have hm16 : m ≤ 16 := by omega
  have HM := Lib.hid hm
  have HX := Lib.hid hx64
  clear hx hx64 hm
  go_enter Tryd.func6, Tryd.ntmps6
  go_wp2_with (first
    | (go_at_call 19; (with_reducible refine (HW.out _).mono ?_); rintro e w' ⟨rfl, rfl⟩)
    | (go_at_call 20; (with_reducible refine (HO.out _).mono ?_); rintro e w' ⟨rfl, rfl⟩))
  go_loopw [1, 7, 8] (fun vx vo vi wr => ∃ (k y : Nat) (o : ByteArray), vx = .int .u64 y ∧ vo = .string o ∧ vi = .int .i64 k ∧ k ≤ m ∧ y = x / 16 ^ k ∧ o = hexB k x ∧ Below w.heap.size w wr) (fun _ _ vi _ => m - (intOf vi).toNat)
  case atStart => exact ⟨0, x, ⟨#[]⟩, rfl, rfl, rfl, by omega, by simp, rfl, Below.refl _ _⟩
  case round =>
    obtain ⟨k, y, o, rfl, rfl, rfl, hk, hy, ho, hb⟩ := hrel
    have HY := Lib.hid (And.intro hy ho)
    have HB := Lib.hid hb
    clear hy ho hb
    by_cases hlt : k < m
    · obtain ⟨d, hd⟩ : ∃ d, d = y % 16 := ⟨_, rfl⟩
      have hd16 : d < 16 := by omega
      have hdi : (y : Int) % 16 = (d : Int) := by omega
      obtain ⟨y2, hy2⟩ : ∃ y2, y2 = y / 16 := ⟨_, rfl⟩
      have hyd : (y : Int) / 16 = (y2 : Int) := by omega
      have HD := Lib.hid (And.intro hd hy2)
      clear hd hy2
      obtain ⟨g, hg⟩ : ∃ g, g = (⟨#[48, 49, 50, 51, 52, 53, 54, 55, 56, 57, 97, 98, 99, 100, 101, 102]⟩ : ByteArray).extract d (d + 1) := ⟨_, rfl⟩
      have hgs : g.size = 1 := by rw [hg]; exact (congrArg ByteArray.size (digit_cut ⟨d, hd16⟩)).trans rfl
      have hos : o.size = k := by rw [HY.out.2]; exact hexB_size k x
      have hgg := hg.symm
      have HG := Lib.hid hg
      clear hg
      go_wp2
      go_roundw
      case rel =>
        obtain ⟨hd, hy2⟩ := HD.out
        obtain ⟨hy, ho⟩ := HY.out
        have hyl : y < 18446744073709551616 := by rw [hy]; exact Nat.lt_of_le_of_lt (Nat.div_le_self _ _) HX.out
        refine ⟨k + 1, y2, g ++ o, by rw [IntKind.wrap_u64, Int.emod_eq_of_lt (by omega) (by omega)], rfl, by first | rfl | (rw [wrap64_small _ (by omega) (by omega)]; rfl), by omega, ?_, ?_, HB.out⟩
        · rw [hy2, hy, Nat.div_div_eq_div_mul, Nat.pow_succ]
        · rw [hexB_succ, ho, HG.out]
          congr 1
          refine (digit_cut ⟨d, hd16⟩).trans ?_
          show (⟨#[UInt8.ofNat (hexD d)]⟩ : ByteArray) = ⟨#[UInt8.ofNat (digAt x k)]⟩
          rw [digAt, ← hy, ← hd]
      case measure => simp only [intOf]; omega
    · obtain rfl : k = m := by omega
      have hos : o.size = k := by rw [HY.out.2]; exact hexB_size k x
      obtain ⟨g, hg⟩ : ∃ g, g = (⟨#[48, 49, 50, 51, 52, 53, 54, 55, 56, 57, 97, 98, 99, 100, 101, 102]⟩ : ByteArray).extract (n % 10) (n % 10 + 1) := ⟨_, rfl⟩
      have hgs : g.size = 1 := by rw [hg]; exact (congrArg ByteArray.size (digit_cut ⟨n % 10, by omega⟩)).trans rfl
      have hgg := hg.symm
      by_cases hn : n < 10
      · have hnf : decide ((10 : Int) ≤ (n : Int)) = false := by simp; omega
        have HG : Hid (g = decB n) := by rw [hg]; exact front_one ⟨n, hn⟩
        clear hg hn
        go_wp2
        go_ret2
        refine ⟨?_, HB.out⟩
        rw [textB, ← HG.out, ← HM.out, ← HY.out.2]
        rfl
      · have hnf : decide ((10 : Int) ≤ (n : Int)) = true := by simp; omega
        obtain ⟨g2, hg2⟩ : ∃ g, g = (⟨#[48, 49, 50, 51, 52, 53, 54, 55, 56, 57, 97, 98, 99, 100, 101, 102]⟩ : ByteArray).extract (n / 10) (n / 10 + 1) := ⟨_, rfl⟩
        have hgs2 : g2.size = 1 := by rw [hg2]; exact (congrArg ByteArray.size (digit_cut ⟨n / 10, by omega⟩)).trans rfl
        have hgg2 := hg2.symm
        have HG : Hid (g2 ++ g = decB n) := by
          rw [hg, hg2]
          rcases front_two ⟨n, by omega⟩ with h | h
          · exact absurd h hn
          · exact h
        clear hg hg2 hn
        go_wp2
        go_ret2
        refine ⟨?_, HB.out⟩
        rw [textB, ← HG.out, ← HM.out, ← HY.out.2]
        rfl

theorem refText_any (n x : Nat) (w : World) (h0 : 1 ≤ n) (h1 : n ≤ 64) (hx : x < 18446744073709551616) :
    Calls Tryd.prog 6 #[.int .i64 n, .int .u64 x] w fun e w' => e = .returned (.tuple #[.string (textR n x).1, .int .i64 (textR n x).2]) ∧ Below w.heap.size w w' := by
  cases ho : okB n x with
  | true =>
    rw [show textR n x = (textB n x, 0) by unfold textR; rw [if_neg (by omega), Int.toNat_natCast, if_pos ho]]
    exact refText_ok n x w h0 h1 ((okB_iff n x).1 ho)
  | false =>
    rw [show textR n x = (⟨#[]⟩, 8) by unfold textR; rw [if_neg (by omega), Int.toNat_natCast, if_neg (by rw [ho]; decide)]]
    have HO := Lib.hid (fun W => refOk_yes n x W h0 h1 hx)
    rw [ho] at HO
    have HW := Lib.hid (fun W => wide_yes (n : Int) W (by omega) (by omega))
    clear ho hx
    go_enter Tryd.func6, Tryd.ntmps6
    go_wp2_with (first
      | (go_at_call 19; (with_reducible refine (HW.out _).mono ?_); rintro e w' ⟨rfl, rfl⟩)
      | (go_at_call 20; (with_reducible refine (HO.out _).mono ?_); rintro e w' ⟨rfl, rfl⟩))
    go_ret2
    exact ⟨rfl, Below.refl _ _⟩
theorem refText_no (n : Int) (x : Nat) (w : World) (h : n < 1 ∨ 64 < n) :
    Calls Tryd.prog 6 #[.int .i64 n, .int .u64 x] w fun e w' => e = .returned (.tuple #[.string ⟨#[]⟩, .int .i64 14]) ∧ Below w.heap.size w w' := by
  have HW := Lib.hid (fun W => wide_no n W h)
  clear h
  go_enter Tryd.func6, Tryd.ntmps6
  go_wp2_with (go_at_call 19; (with_reducible refine (HW.out _).mono ?_); rintro e w' ⟨rfl, rfl⟩)
  go_ret2
  exact ⟨rfl, Below.refl _ _⟩
end Go.Proofs.YtffmijafhchjgaaDoor
