/- The walk of FormatPuts. -/
import Derived.Test.YtjbapjgagiaefaaFmtPut
import Derived.Test.YtjbapjgagiaefaaFormatBackPlay
namespace Go.Proofs.Ytjbapjgagiaefaa.formatPuts
open Go.RowKit Go.Instr Go.Sort Go.ChangeShapes
set_option linter.unusedVariables false
set_option linter.unusedSimpArgs false
set_option maxRecDepth 100000
set_option maxHeartbeats 4000000

theorem nat_u64 {a : Int} (h : (Lit.int .u64 a).wf = true) : ∃ m : Nat, a = m ∧ m < 18446744073709551616 := by
  simp [Lit.wf, IntKind.min, IntKind.max, IntKind.bits, IntKind.signed] at h
  exact ⟨a.toNat, by omega, by omega⟩
theorem int_i64 {a : Int} (h : (Lit.int .i64 a).wf = true) : -9223372036854775808 ≤ a ∧ a ≤ 9223372036854775807 := by
  simp [Lit.wf, IntKind.min, IntKind.max, IntKind.bits, IntKind.signed] at h
  omega
theorem lift_below {P : Program} {f : FuncId} {args : Array Value} {v : Value} {w : World} (h : ∀ W, Calls P f args W fun e w' => e = .returned v ∧ Below W.heap.size W w') : ∀ W, Below w.heap.size w W → Calls P f args W fun e w' => e = .returned v ∧ Below w.heap.size w w' :=
  fun W hb => (h W).mono fun e w' ⟨a, b⟩ => ⟨a, hb.trans (b.mono hb.size)⟩
theorem lift_pcs {P : Program} {f : FuncId} {args : Array Value} {v : Value} {w : World} {A : Option Addr} {L : List MPiece} (hA : PcsAt w A L) (h : ∀ W, PcsAt W A L → Calls P f args W fun e w' => e = .returned v ∧ Below W.heap.size W w') : ∀ W, Below w.heap.size w W → Calls P f args W fun e w' => e = .returned v ∧ Below w.heap.size w w' :=
  fun W hb => (h W (hA.later hb)).mono fun e w' ⟨a, b⟩ => ⟨a, hb.trans (b.mono hb.size)⟩
theorem maskN_lt {size : Int} {L : List MPiece} (hs : size ≤ 64) (h : GoodM size 0 L) : maskN 0 L < 18446744073709551616 := by
  apply Nat.lt_pow_two_of_testBit (n := 64)
  intro j hj
  rw [maskN_bit, Nat.zero_testBit, Bool.false_or]
  cases hh : hasL L j
  · rfl
  · unfold hasL at hh
    rw [List.any_eq_true] at hh
    obtain ⟨x, hx, hb⟩ := hh
    obtain ⟨c1, c2, c3, c4⟩ := pcOk_iff.1 (h.mem x hx).1
    have hb := has_iff.1 hb
    unfold MPiece.p MPiece.l at hb
    omega
theorem rest_same (word field : Nat) (L : List MPiece) : putN word field L - (putN word field L &&& maskN 0 L) = word - (word &&& maskN 0 L) := by
  apply Nat.eq_of_testBit_eq
  intro j
  rw [sub_and_bit, sub_and_bit, maskN_bit, putN_bit, Nat.zero_testBit, Bool.false_or]
  cases hasL L j <;> simp
theorem cwR_put {size : Int} {word field : Nat} {L : List MPiece} (h : cwR size word L = 0) : cwR size (putN word field L) L = 0 := by
  obtain ⟨h1, h2⟩ := cwR_ok h
  unfold cwR
  rw [if_pos h1, if_pos ((okB_iff _ _).2 (putN_lt (maskR_ok h1).2.2.1 h2))]
theorem core (size : Int) (word : Nat) (A : Option Addr) (c : Nat) (L : List MPiece) (field : Nat) (w : World) (hA : PcsAt w A L) (hok : PcsOk L) (hc : L.length ≤ c) (hcm : c ≤ maxLen) (hword : word < 18446744073709551616) (hfield : field < 18446744073709551616) :
    Calls Try.prog 6 #[.int .i64 size, .int .u64 word, .slice A L.length c, .int .u64 field] w fun e w' => e = .returned (.bool true) ∧ Below w.heap.size w w' := by
  have HA := Lib.hid (lift_below (w := w) (fun W => formatBack.alive_walk W))
  have G1 := Lib.hid (lift_pcs hA (fun W h => get_any size word A c L W h hok hc hcm hword))
  have M1 := Lib.hid (lift_pcs hA (fun W h => mask_any size A c L W h hok hc hcm))
  have hr0 := Below.refl w.heap.size w
  obtain ⟨n, hn⟩ : ∃ n, L.length = n := ⟨_, rfl⟩
  have HN := Lib.hid hn
  by_cases h50 : 50 < n
  · rw [hn]
    have g50 : decide (50 < n) = true := by simpa using h50
    have g50' : decide ((50 : Int) < n) = true := by simp; omega
    clear G1 M1 hA hok hc hcm hword hfield hn
    go_enter Try.func6, Try.ntmps6
    go_wp2_with (go_at_call 20; (with_reducible refine (HA.out _ (by assumption)).mono ?_); rintro e w1 ⟨rfl, hb1⟩)
    go_ret
    exact ⟨rfl, by assumption⟩
  have g50 : decide (50 < n) = false := by simp; omega
  have g50' : decide ((50 : Int) < n) = false := by simp; omega
  by_cases hcw : cwR size word L = 0
  case neg =>
    rw [show getR size word L = (0, cwR size word L) by unfold getR; rw [if_neg hcw]] at G1
    have z1 : (cwR size word L != 0) = true := by simpa using hcw
    have z2 : (cwR size word L == 0) = false := by simpa using hcw
    generalize cwR size word L = z at *
    rw [hn] at G1 ⊢
    clear M1 hA hok hc hcm hword hfield hn hcw h50
    go_enter Try.func6, Try.ntmps6
    go_wp2_with (first
      | (go_at_call 20; (with_reducible refine (HA.out _ (by assumption)).mono ?_); rintro e w1 ⟨rfl, hb1⟩)
      | (go_at_call 17; (with_reducible refine (G1.out _ (by assumption)).mono ?_); rintro e w2 ⟨rfl, hb2⟩))
    go_ret
    exact ⟨rfl, by assumption⟩
  have hm := maskR_ok (cwR_ok hcw).1
  rw [show getR size word L = (getN word L, 0) by unfold getR; rw [if_pos hcw]] at G1
  rw [hm.2.2.2] at M1
  have hgl : getN word L < 2 ^ widthL L := getN_lt word L
  have hg64 : getN word L < 18446744073709551616 := Nat.lt_of_lt_of_le hgl (pow_le _ (goodL_of hm.1 hm.2.2.1).2)
  have P1 := Lib.hid (lift_pcs hA (fun W h => put_any size word A c L (getN word L) W h hok hc hcm hword hg64))
  rw [show putR size word L (getN word L) = (word, 0) by unfold putR; rw [if_pos hcw, if_pos ((okB_iff _ _).2 hgl), put_get]] at P1
  have P2 := Lib.hid (lift_pcs hA (fun W h => put_any size word A c L field W h hok hc hcm hword hfield))
  by_cases hf : okB (widthL L) field = true
  · have hcp := cwR_put (field := field) hcw
    have hpl : putN word field L < 18446744073709551616 := Nat.lt_of_lt_of_le (cwR_ok hcp).2 (pow_le _ (by omega))
    rw [show putR size word L field = (putN word field L, 0) by unfold putR; rw [if_pos hcw, if_pos hf]] at P2
    have G2 := Lib.hid (lift_pcs hA (fun W h => get_any size (putN word field L) A c L W h hok hc hcm hpl))
    rw [show getR size (putN word field L) L = (field, 0) by unfold getR; rw [if_pos hcp, get_put _ _ hm.2.2.1 ((okB_iff _ _).1 hf)]] at G2
    have hM := maskN_lt hm.1.2 hm.2.2.1
    have a1 := andNot_nat (putN word field L) (maskN 0 L) hpl hM
    have a2 := andNot_nat word (maskN 0 L) hword hM
    rw [rest_same] at a1
    rw [hn] at G1 G2 P1 P2 M1 ⊢
    clear hA hok hc hcm hword hfield hn hcw h50 hm hgl hg64 hf hcp hpl hM
    generalize getN word L = gw at *
    generalize putN word field L = nx at *
    generalize maskN 0 L = mk' at *
    generalize word - (word &&& mk') = r at *
    go_enter Try.func6, Try.ntmps6
    go_wp2_with (first
      | (go_at_call 20; (with_reducible refine (HA.out _ (by assumption)).mono ?_); rintro e w1 ⟨rfl, hb1⟩)
      | (go_at_call 17; (with_reducible refine (G1.out _ (by assumption)).mono ?_); rintro e w2 ⟨rfl, hb2⟩)
      | (go_at_call 17; (with_reducible refine (G2.out _ (by assumption)).mono ?_); rintro e w2 ⟨rfl, hb2⟩)
      | (go_at_call 16; (with_reducible refine (M1.out _ (by assumption)).mono ?_); rintro e w2 ⟨rfl, hb2⟩)
      | (go_at_call 18; (with_reducible refine (P1.out _ (by assumption)).mono ?_); rintro e w2 ⟨rfl, hb2⟩)
      | (go_at_call 18; (with_reducible refine (P2.out _ (by assumption)).mono ?_); rintro e w2 ⟨rfl, hb2⟩))
    go_ret
    exact ⟨by simp, by assumption⟩
  · rw [show putR size word L field = (0, 24) by unfold putR; rw [if_pos hcw, if_neg hf]] at P2
    rw [hn] at G1 P1 P2 M1 ⊢
    clear hA hok hc hcm hword hfield hn hcw h50 hm hgl hg64 hf
    generalize getN word L = gw at *
    generalize maskN 0 L = mk' at *
    go_enter Try.func6, Try.ntmps6
    go_wp2_with (first
      | (go_at_call 20; (with_reducible refine (HA.out _ (by assumption)).mono ?_); rintro e w1 ⟨rfl, hb1⟩)
      | (go_at_call 17; (with_reducible refine (G1.out _ (by assumption)).mono ?_); rintro e w2 ⟨rfl, hb2⟩)
      | (go_at_call 16; (with_reducible refine (M1.out _ (by assumption)).mono ?_); rintro e w2 ⟨rfl, hb2⟩)
      | (go_at_call 18; (with_reducible refine (P1.out _ (by assumption)).mono ?_); rintro e w2 ⟨rfl, hb2⟩)
      | (go_at_call 18; (with_reducible refine (P2.out _ (by assumption)).mono ?_); rintro e w2 ⟨rfl, hb2⟩))
    go_ret
    exact ⟨by simp, by assumption⟩
theorem walk {H : Type} {enc : TypeId × Value → H} {base : Nat} {W : World} {d2 : DataW H} {p2 : List MemPlace} (a0 a1 : Int) (v2 : Value) (a3 : Int) (w0 : (Lit.int .i64 a0).wf = true) (w1 : (Lit.int .u64 a1).wf = true) (ok2 : Value.okWide Try.prog W .any base 34 v2) (h2 : DataW.Trod enc Try.prog W 0 (fun _ => true) true 34 v2 d2 p2) (w3 : (Lit.int .u64 a3).wf = true) :
    Calls Try.prog 6 #[.int .i64 a0, .int .u64 a1, v2, .int .u64 a3] W fun e w' => e = .returned (.bool true) ∧ Below W.heap.size W w' := by
  obtain ⟨x, rfl, hx⟩ := nat_u64 w1
  obtain ⟨y, rfl, hy⟩ := nat_u64 w3
  obtain ⟨A, c, L, rfl, hA, hok, hc, hcm⟩ := open_pieces ok2 h2
  exact core a0 x A c L y W hA hok hc hcm hx hy
end Go.Proofs.Ytjbapjgagiaefaa.formatPuts
