/- The walk of FormatTwo. -/
import Derived.Test.YtjbapjgagiaefaaFormatPutsWalk
namespace Go.Proofs.Ytjbapjgagiaefaa.formatTwo
open Go.RowKit Go.Instr Go.Sort Go.ChangeShapes Go.Proofs.Ytjbapjgagiaefaa.formatPuts
set_option linter.unusedVariables false
set_option linter.unusedSimpArgs false
set_option maxRecDepth 100000
set_option maxHeartbeats 4000000

theorem put_comm {L M : List MPiece} (h : maskN 0 L &&& maskN 0 M = 0) (word x y : Nat) : putN (putN word x L) y M = putN (putN word y M) x L := by
  apply Nat.eq_of_testBit_eq
  intro j
  have hj := and_zero.1 h j
  rw [maskN_bit, maskN_bit, Nat.zero_testBit, Bool.false_or, Bool.false_or] at hj
  rw [putN_bit, putN_bit, putN_bit, putN_bit]
  cases h1 : hasL L j <;> cases h2 : hasL M j <;> simp_all
/-- What the guards ask: an error or a common bit. -/
theorem core (size : Int) (word : Nat) (A : Option Addr) (c : Nat) (L : List MPiece) (A' : Option Addr) (c' : Nat) (M : List MPiece) (x y : Nat) (w : World) (hA : PcsAt w A L) (hok : PcsOk L) (hc : L.length ≤ c) (hcm : c ≤ maxLen) (hA' : PcsAt w A' M) (hok' : PcsOk M) (hc' : M.length ≤ c') (hcm' : c' ≤ maxLen) (hword : word < 18446744073709551616) (hx : x < 18446744073709551616) (hy : y < 18446744073709551616) :
    Calls Try.prog 7 #[.int .i64 size, .int .u64 word, .slice A L.length c, .slice A' M.length c', .int .u64 x, .int .u64 y] w fun e w' => e = .returned (.bool true) ∧ Below w.heap.size w w' := by
  have HA := Lib.hid (lift_below (w := w) (fun W => formatBack.alive_walk W))
  have M1 := Lib.hid (lift_pcs hA (fun W h => mask_any size A c L W h hok hc hcm))
  have M2 := Lib.hid (lift_pcs hA' (fun W h => mask_any size A' c' M W h hok' hc' hcm'))
  have P1 := Lib.hid (lift_pcs hA (fun W h => put_any size word A c L x W h hok hc hcm hword hx))
  have P2 := Lib.hid (lift_pcs hA' (fun W h => put_any size word A' c' M y W h hok' hc' hcm' hword hy))
  have hr0 := Below.refl w.heap.size w
  obtain ⟨n, hn⟩ : ∃ n, L.length = n := ⟨_, rfl⟩
  obtain ⟨n', hn'⟩ : ∃ n, M.length = n := ⟨_, rfl⟩
  have HN := Lib.hid (And.intro hn hn')
  by_cases h50 : 50 < n ∨ 50 < n'
  · rw [hn, hn']
    have g50 : (decide ((50 : Int) < n) = true ∧ decide (50 < n) = true) ∨ (decide ((50 : Int) < n) = false ∧ decide (50 < n) = false ∧ decide ((50 : Int) < n') = true ∧ decide (50 < n') = true) := by
      by_cases h : 50 < n
      · left; exact ⟨by simp; omega, by simp; omega⟩
      · right; exact ⟨by simp; omega, by simp; omega, by simp; omega, by simp; omega⟩
    clear M1 M2 P1 P2 hA hok hc hcm hA' hok' hc' hcm' hword hx hy hn hn' h50
    rcases g50 with ⟨g1, g1'⟩ | ⟨g1, g1', g2, g2'⟩
    all_goals
      go_enter Try.func7, Try.ntmps7
      go_wp2_with (go_at_call 20; (with_reducible refine (HA.out _ (by assumption)).mono ?_); rintro e w1 ⟨rfl, hb1⟩)
      go_ret
      exact ⟨rfl, by assumption⟩
  have g1 : decide (50 < n) = false := by simp; omega
  have g2 : decide (50 < n') = false := by simp; omega
  have g1' : decide ((50 : Int) < n) = false := by simp; omega
  have g2' : decide ((50 : Int) < n') = false := by simp; omega
  -- the masks
  by_cases hms : (maskR size L).2 = 0 ∧ (maskR size M).2 = 0
  case neg =>
    have hz : ((maskR size L).2 != 0) = true ∨ (((maskR size L).2 != 0) = false ∧ ((maskR size M).2 != 0) = true) := by
      by_cases h1 : (maskR size L).2 = 0
      · right; exact ⟨by simp [h1], by simpa using fun h2 => hms ⟨h1, h2⟩⟩
      · left; simpa using h1
    rw [hn] at M1 ⊢
    rw [hn'] at M2 ⊢
    generalize (maskR size L).1 = a at *
    generalize (maskR size L).2 = e1 at *
    generalize (maskR size M).1 = b at *
    generalize (maskR size M).2 = e2 at *
    clear P1 P2 hA hok hc hcm hA' hok' hc' hcm' hword hx hy hn hn' h50 hms
    rcases hz with z1 | ⟨z1, z2⟩
    all_goals
      go_enter Try.func7, Try.ntmps7
      go_wp2_with (first
        | (go_at_call 20; (with_reducible refine (HA.out _ (by assumption)).mono ?_); rintro e w1 ⟨rfl, hb1⟩)
        | (go_at_call 16; (with_reducible refine (M1.out _ (by assumption)).mono ?_); rintro e w2 ⟨rfl, hb2⟩)
        | (go_at_call 16; (with_reducible refine (M2.out _ (by assumption)).mono ?_); rintro e w2 ⟨rfl, hb2⟩))
      go_ret
      exact ⟨rfl, by assumption⟩
  obtain ⟨hm1, hm2⟩ := hms
  have k1 := maskR_ok hm1
  have k2 := maskR_ok hm2
  rw [k1.2.2.2] at M1
  rw [k2.2.2.2] at M2
  have hl1 := maskN_lt k1.1.2 k1.2.2.1
  have hl2 := maskN_lt k1.1.2 k2.2.2.1
  have hand := bits_and_u64_nat (maskN 0 L) (maskN 0 M) hl1 hl2
  by_cases hfree : maskN 0 L &&& maskN 0 M = 0
  case neg =>
    have hq : ((bits .and .u64 ((maskN 0 L : Nat) : Int) ((maskN 0 M : Nat) : Int)) != 0) = true := by rw [hand]; simp; omega
    rw [hn] at M1 ⊢
    rw [hn'] at M2 ⊢
    generalize maskN 0 L = a at *
    generalize maskN 0 M = b at *
    clear P1 P2 hA hok hc hcm hA' hok' hc' hcm' hword hx hy hn hn' h50 hm1 hm2 k1 k2 hl1 hl2 hand hfree
    go_enter Try.func7, Try.ntmps7
    go_wp2_with (first
      | (go_at_call 20; (with_reducible refine (HA.out _ (by assumption)).mono ?_); rintro e w1 ⟨rfl, hb1⟩)
      | (go_at_call 16; (with_reducible refine (M1.out _ (by assumption)).mono ?_); rintro e w2 ⟨rfl, hb2⟩)
      | (go_at_call 16; (with_reducible refine (M2.out _ (by assumption)).mono ?_); rintro e w2 ⟨rfl, hb2⟩))
    go_ret
    exact ⟨rfl, by assumption⟩
  have hq : ((bits .and .u64 ((maskN 0 L : Nat) : Int) ((maskN 0 M : Nat) : Int)) != 0) = false := by rw [hand, hfree]; rfl
  by_cases hps : (putR size word L x).2 = 0 ∧ (putR size word M y).2 = 0
  case neg =>
    have hz : ((putR size word L x).2 != 0) = true ∨ (((putR size word L x).2 != 0) = false ∧ ((putR size word M y).2 != 0) = true) := by
      by_cases h1 : (putR size word L x).2 = 0
      · right; exact ⟨by simp [h1], by simpa using fun h2 => hps ⟨h1, h2⟩⟩
      · left; simpa using h1
    rw [hn] at M1 P1 ⊢
    rw [hn'] at M2 P2 ⊢
    generalize (putR size word L x).1 = p1 at *
    generalize (putR size word L x).2 = e1 at *
    generalize (putR size word M y).1 = p2 at *
    generalize (putR size word M y).2 = e2 at *
    generalize maskN 0 L = a at *
    generalize maskN 0 M = b at *
    clear hA hok hc hcm hA' hok' hc' hcm' hword hx hy hn hn' h50 hm1 hm2 k1 k2 hl1 hl2 hand hfree hps
    rcases hz with z1 | ⟨z1, z2⟩
    all_goals
      go_enter Try.func7, Try.ntmps7
      go_wp2_with (first
        | (go_at_call 20; (with_reducible refine (HA.out _ (by assumption)).mono ?_); rintro e w1 ⟨rfl, hb1⟩)
        | (go_at_call 16; (with_reducible refine (M1.out _ (by assumption)).mono ?_); rintro e w2 ⟨rfl, hb2⟩)
        | (go_at_call 16; (with_reducible refine (M2.out _ (by assumption)).mono ?_); rintro e w2 ⟨rfl, hb2⟩)
        | (go_at_call 18; (with_reducible refine (P1.out _ (by assumption)).mono ?_); rintro e w2 ⟨rfl, hb2⟩)
        | (go_at_call 18; (with_reducible refine (P2.out _ (by assumption)).mono ?_); rintro e w2 ⟨rfl, hb2⟩))
      go_ret
      exact ⟨rfl, by assumption⟩
  obtain ⟨hp1, hp2⟩ := hps
  have put_ok : ∀ (L : List MPiece) (f : Nat), (putR size word L f).2 = 0 → cwR size word L = 0 ∧ okB (widthL L) f = true := fun L f h => by
    unfold putR at h
    split at h
    · rename_i h1
      split at h
      · rename_i h2; exact ⟨h1, h2⟩
      · cases h
    · rename_i h1; exact absurd h h1
  obtain ⟨q1, q2⟩ := put_ok L x hp1
  obtain ⟨q3, q4⟩ := put_ok M y hp2
  have r1 : putR size word L x = (putN word x L, 0) := by unfold putR; rw [if_pos q1, if_pos q2]
  have r2 : putR size word M y = (putN word y M, 0) := by unfold putR; rw [if_pos q3, if_pos q4]
  rw [r1] at P1
  rw [r2] at P2
  have s1 : cwR size (putN word x L) M = 0 := by
    have h := (cwR_ok (cwR_put (field := x) q1)).2
    unfold cwR; rw [if_pos hm2, if_pos ((okB_iff _ _).2 h)]
  have s2 : cwR size (putN word y M) L = 0 := by
    have h := (cwR_ok (cwR_put (field := y) q3)).2
    unfold cwR; rw [if_pos hm1, if_pos ((okB_iff _ _).2 h)]
  have lt64 : ∀ z L, cwR size z L = 0 → z < 18446744073709551616 := fun z L h => Nat.lt_of_lt_of_le (cwR_ok h).2 (pow_le _ (by have := k1.1.2; omega))
  have P3 := Lib.hid (lift_pcs hA' (fun W h => put_any size (putN word x L) A' c' M y W h hok' hc' hcm' (lt64 _ _ s1) hy))
  have P4 := Lib.hid (lift_pcs hA (fun W h => put_any size (putN word y M) A c L x W h hok hc hcm (lt64 _ _ s2) hx))
  rw [show putR size (putN word x L) M y = (putN (putN word x L) y M, 0) by unfold putR; rw [if_pos s1, if_pos q4]] at P3
  rw [show putR size (putN word y M) L x = (putN (putN word y M) x L, 0) by unfold putR; rw [if_pos s2, if_pos q2], ← put_comm hfree] at P4
  have t1 : cwR size (putN (putN word x L) y M) M = 0 := cwR_put s1
  have t2 : cwR size (putN (putN word x L) y M) L = 0 := by rw [put_comm hfree]; exact cwR_put s2
  have G1 := Lib.hid (lift_pcs hA (fun W h => get_any size (putN (putN word x L) y M) A c L W h hok hc hcm (lt64 _ _ t1)))
  have G2 := Lib.hid (lift_pcs hA' (fun W h => get_any size (putN (putN word x L) y M) A' c' M W h hok' hc' hcm' (lt64 _ _ t1)))
  rw [show getR size (putN (putN word x L) y M) L = (x, 0) by
    unfold getR; rw [if_pos t2, put_comm hfree, get_put _ _ k1.2.2.1 ((okB_iff _ _).1 q2)]] at G1
  rw [show getR size (putN (putN word x L) y M) M = (y, 0) by
    unfold getR; rw [if_pos t1, get_put _ _ k2.2.2.1 ((okB_iff _ _).1 q4)]] at G2
  rw [hn] at M1 P1 P4 G1 ⊢
  rw [hn'] at M2 P2 P3 G2 ⊢
  clear hA hok hc hcm hA' hok' hc' hcm' hword hx hy hn hn' h50 hm1 hm2 k1 k2 hl1 hl2 hand hfree hp1 hp2 put_ok q1 q2 q3 q4 r1 r2 s1 s2 lt64 t1 t2
  generalize putN (putN word x L) y M = o3 at *
  generalize putN word x L = o1 at *
  generalize putN word y M = o2 at *
  generalize maskN 0 L = a at *
  generalize maskN 0 M = b at *
  go_enter Try.func7, Try.ntmps7
  go_wp2_with (first
    | (go_at_call 20; (with_reducible refine (HA.out _ (by assumption)).mono ?_); rintro e w1 ⟨rfl, hb1⟩)
    | (go_at_call 16; (with_reducible refine (M1.out _ (by assumption)).mono ?_); rintro e w2 ⟨rfl, hb2⟩)
    | (go_at_call 16; (with_reducible refine (M2.out _ (by assumption)).mono ?_); rintro e w2 ⟨rfl, hb2⟩)
    | (go_at_call 18; (with_reducible refine (P1.out _ (by assumption)).mono ?_); rintro e w2 ⟨rfl, hb2⟩)
    | (go_at_call 18; (with_reducible refine (P2.out _ (by assumption)).mono ?_); rintro e w2 ⟨rfl, hb2⟩)
    | (go_at_call 18; (with_reducible refine (P3.out _ (by assumption)).mono ?_); rintro e w2 ⟨rfl, hb2⟩)
    | (go_at_call 18; (with_reducible refine (P4.out _ (by assumption)).mono ?_); rintro e w2 ⟨rfl, hb2⟩)
    | (go_at_call 17; (with_reducible refine (G1.out _ (by assumption)).mono ?_); rintro e w2 ⟨rfl, hb2⟩)
    | (go_at_call 17; (with_reducible refine (G2.out _ (by assumption)).mono ?_); rintro e w2 ⟨rfl, hb2⟩))
  go_ret
  exact ⟨by simp, by assumption⟩
theorem walk {H : Type} {enc : TypeId × Value → H} {base : Nat} {W : World} {d2 d3 : DataW H} {p2 p3 : List MemPlace} (a0 a1 : Int) (v2 v3 : Value) (a4 a5 : Int) (w0 : (Lit.int .i64 a0).wf = true) (w1 : (Lit.int .u64 a1).wf = true) (ok2 : Value.okWide Try.prog W .any base 34 v2) (h2 : DataW.Trod enc Try.prog W 0 (fun _ => true) true 34 v2 d2 p2)
    (ok3 : Value.okWide Try.prog W .any base 34 v3) (h3 : DataW.Trod enc Try.prog W 0 (fun _ => true) true 34 v3 d3 p3) (w4 : (Lit.int .u64 a4).wf = true) (w5 : (Lit.int .u64 a5).wf = true) :
    Calls Try.prog 7 #[.int .i64 a0, .int .u64 a1, v2, v3, .int .u64 a4, .int .u64 a5] W fun e w' => e = .returned (.bool true) ∧ Below W.heap.size W w' := by
  obtain ⟨word, rfl, hw⟩ := nat_u64 w1
  obtain ⟨x, rfl, hx⟩ := nat_u64 w4
  obtain ⟨y, rfl, hy⟩ := nat_u64 w5
  obtain ⟨A, c, L, rfl, hA, hok, hc, hcm⟩ := open_pieces ok2 h2
  obtain ⟨A', c', M, rfl, hA', hok', hc', hcm'⟩ := open_pieces ok3 h3
  exact core a0 word A c L A' c' M x y W hA hok hc hcm hA' hok' hc' hcm' hw hx hy
end Go.Proofs.Ytjbapjgagiaefaa.formatTwo
