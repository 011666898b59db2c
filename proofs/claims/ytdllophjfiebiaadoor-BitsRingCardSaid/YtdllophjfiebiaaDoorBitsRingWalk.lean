/- The walk of BitsRing. Written by wip/gen/ring.py. -/
import Derived.Test.YtdllophjfiebiaaDoorBitsRingMath
import Derived.BigQuiet
namespace Go.Proofs.YtdllophjfiebiaaDoor.bitsRing
open Go.RowKit Go.Sort
set_option linter.unusedVariables false

theorem clo_add (n a b V B : Nat) (A' B' : Int) (w : World) (hA : A' = a) (hB : B' = b) (h0 : 1 ≤ n) (h1 : n ≤ 64) (ha : a < 2 ^ n) (hb : b < 2 ^ n) (hV : opv 5 n a b = V) (hc : w.cell? ⟨B, 0, none⟩ = some (.int .i64 n)) :
    Calls Tryd.prog 26 #[.int .u64 A', .int .u64 B', .pointer (some ⟨B, 0, none⟩)] w fun e w' => e = .returned (.int .u64 V) ∧ Below w.heap.size w w' := by
  subst hA; subst hB
  have P := fun W => Lib.hid (op_as2 5 n a b V 5 b W rfl rfl h0 h1 (by decide) (by decide) ha hb hV)
  clear ha hb hV
  go_enter Tryd.func26, Tryd.ntmps26
  go_wp2_with (go_at_call 27; (with_reducible refine (P _).out.mono ?_); rintro e w1 ⟨rfl, hb1⟩)
  go_ret
  exact ⟨rfl, hb1⟩

theorem clo_mul (n a b V B : Nat) (A' B' : Int) (w : World) (hA : A' = a) (hB : B' = b) (h0 : 1 ≤ n) (h1 : n ≤ 64) (ha : a < 2 ^ n) (hb : b < 2 ^ n) (hV : opv 7 n a b = V) (hc : w.cell? ⟨B, 0, none⟩ = some (.int .i64 n)) :
    Calls Tryd.prog 28 #[.int .u64 A', .int .u64 B', .pointer (some ⟨B, 0, none⟩)] w fun e w' => e = .returned (.int .u64 V) ∧ Below w.heap.size w w' := by
  subst hA; subst hB
  have P := fun W => Lib.hid (op_as2 7 n a b V 7 b W rfl rfl h0 h1 (by decide) (by decide) ha hb hV)
  clear ha hb hV
  go_enter Tryd.func28, Tryd.ntmps28
  go_wp2_with (go_at_call 27; (with_reducible refine (P _).out.mono ?_); rintro e w1 ⟨rfl, hb1⟩)
  go_ret
  exact ⟨rfl, hb1⟩

theorem clo_and (n a b V B : Nat) (A' B' : Int) (w : World) (hA : A' = a) (hB : B' = b) (h0 : 1 ≤ n) (h1 : n ≤ 64) (ha : a < 2 ^ n) (hb : b < 2 ^ n) (hV : opv 8 n a b = V) (hc : w.cell? ⟨B, 0, none⟩ = some (.int .i64 n)) :
    Calls Tryd.prog 29 #[.int .u64 A', .int .u64 B', .pointer (some ⟨B, 0, none⟩)] w fun e w' => e = .returned (.int .u64 V) ∧ Below w.heap.size w w' := by
  subst hA; subst hB
  have P := fun W => Lib.hid (op_as2 8 n a b V 8 b W rfl rfl h0 h1 (by decide) (by decide) ha hb hV)
  clear ha hb hV
  go_enter Tryd.func29, Tryd.ntmps29
  go_wp2_with (go_at_call 27; (with_reducible refine (P _).out.mono ?_); rintro e w1 ⟨rfl, hb1⟩)
  go_ret
  exact ⟨rfl, hb1⟩

theorem clo_or (n a b V B : Nat) (A' B' : Int) (w : World) (hA : A' = a) (hB : B' = b) (h0 : 1 ≤ n) (h1 : n ≤ 64) (ha : a < 2 ^ n) (hb : b < 2 ^ n) (hV : opv 9 n a b = V) (hc : w.cell? ⟨B, 0, none⟩ = some (.int .i64 n)) :
    Calls Tryd.prog 30 #[.int .u64 A', .int .u64 B', .pointer (some ⟨B, 0, none⟩)] w fun e w' => e = .returned (.int .u64 V) ∧ Below w.heap.size w w' := by
  subst hA; subst hB
  have P := fun W => Lib.hid (op_as2 9 n a b V 9 b W rfl rfl h0 h1 (by decide) (by decide) ha hb hV)
  clear ha hb hV
  go_enter Tryd.func30, Tryd.ntmps30
  go_wp2_with (go_at_call 27; (with_reducible refine (P _).out.mono ?_); rintro e w1 ⟨rfl, hb1⟩)
  go_ret
  exact ⟨rfl, hb1⟩

theorem unary_as (k n a V : Nat) (K : Int) (w : World) (hK : K = k) (h0 : 1 ≤ n) (h1 : n ≤ 64) (hk0 : 3 ≤ k) (hk1 : k ≤ 4) (ha : a < 2 ^ n) (hV : opv k n a 0 = V) :
    Calls Tryd.prog 10 #[.int .u8 K, .int .i64 n, .int .u64 a] w fun e w' => e = .returned (.tuple #[.int .u64 V, .int .i64 0]) ∧ Below w.heap.size w w' := by
  subst hK; subst hV
  have h := unary_any k a n w
  rw [opR1_ok k n a h0 h1 hk0 hk1 ha] at h
  exact h

/-- A call's contract in every world that differs from W by new blocks and draws. -/
theorem cls {f : FuncId} {args : Array Value} {v : Value} {W : World} (h : ∀ w, Below W.heap.size W w → Calls Tryd.prog f args w fun e w' => e = .returned v ∧ Below w.heap.size w w') :
    ∀ d os, Calls Tryd.prog f args (grow (redrawn W d) os) fun e w'' => e = .returned v ∧ ∃ p : Regrown, w'' = grow (redrawn W p.d) p.os :=
  fun d os => Calls.regrown_of (h _ (below_regrown W d os))

/-- The contracts that the law's calls need, over one captured width at the block B. -/
structure Facts (B n a b c s1 s2 s3 m1 m2 m3 m4 m5 ng nt o1 o2 l1 l2 l3 x1 mm : Nat) : Prop where
  q5_a_b : ∀ w : World, w.cell? ⟨B, 0, none⟩ = some (.int .i64 n) → Calls Tryd.prog 26 #[.int .u64 (a : Int), .int .u64 (b : Int), .pointer (some ⟨B, 0, none⟩)] w fun e w' => e = .returned (.int .u64 (s1 : Int)) ∧ Below w.heap.size w w'
  q5_b_a : ∀ w : World, w.cell? ⟨B, 0, none⟩ = some (.int .i64 n) → Calls Tryd.prog 26 #[.int .u64 (b : Int), .int .u64 (a : Int), .pointer (some ⟨B, 0, none⟩)] w fun e w' => e = .returned (.int .u64 (s1 : Int)) ∧ Below w.heap.size w w'
  q5_s1_c : ∀ w : World, w.cell? ⟨B, 0, none⟩ = some (.int .i64 n) → Calls Tryd.prog 26 #[.int .u64 (s1 : Int), .int .u64 (c : Int), .pointer (some ⟨B, 0, none⟩)] w fun e w' => e = .returned (.int .u64 (s2 : Int)) ∧ Below w.heap.size w w'
  q5_b_c : ∀ w : World, w.cell? ⟨B, 0, none⟩ = some (.int .i64 n) → Calls Tryd.prog 26 #[.int .u64 (b : Int), .int .u64 (c : Int), .pointer (some ⟨B, 0, none⟩)] w fun e w' => e = .returned (.int .u64 (s3 : Int)) ∧ Below w.heap.size w w'
  q5_a_s3 : ∀ w : World, w.cell? ⟨B, 0, none⟩ = some (.int .i64 n) → Calls Tryd.prog 26 #[.int .u64 (a : Int), .int .u64 (s3 : Int), .pointer (some ⟨B, 0, none⟩)] w fun e w' => e = .returned (.int .u64 (s2 : Int)) ∧ Below w.heap.size w w'
  q6_s1_b : ∀ w : World, Calls Tryd.prog 27 #[.int .u8 6, .int .i64 n, .int .u64 (s1 : Int), .int .u64 (b : Int)] w fun e w' => e = .returned (.int .u64 (a : Int)) ∧ Below w.heap.size w w'
  q5_a_ng : ∀ w : World, w.cell? ⟨B, 0, none⟩ = some (.int .i64 n) → Calls Tryd.prog 26 #[.int .u64 (a : Int), .int .u64 (ng : Int), .pointer (some ⟨B, 0, none⟩)] w fun e w' => e = .returned (.int .u64 0) ∧ Below w.heap.size w w'
  q5_a_0 : ∀ w : World, w.cell? ⟨B, 0, none⟩ = some (.int .i64 n) → Calls Tryd.prog 26 #[.int .u64 (a : Int), .int .u64 0, .pointer (some ⟨B, 0, none⟩)] w fun e w' => e = .returned (.int .u64 (a : Int)) ∧ Below w.heap.size w w'
  q7_a_b : ∀ w : World, w.cell? ⟨B, 0, none⟩ = some (.int .i64 n) → Calls Tryd.prog 28 #[.int .u64 (a : Int), .int .u64 (b : Int), .pointer (some ⟨B, 0, none⟩)] w fun e w' => e = .returned (.int .u64 (m1 : Int)) ∧ Below w.heap.size w w'
  q7_b_a : ∀ w : World, w.cell? ⟨B, 0, none⟩ = some (.int .i64 n) → Calls Tryd.prog 28 #[.int .u64 (b : Int), .int .u64 (a : Int), .pointer (some ⟨B, 0, none⟩)] w fun e w' => e = .returned (.int .u64 (m1 : Int)) ∧ Below w.heap.size w w'
  q7_m1_c : ∀ w : World, w.cell? ⟨B, 0, none⟩ = some (.int .i64 n) → Calls Tryd.prog 28 #[.int .u64 (m1 : Int), .int .u64 (c : Int), .pointer (some ⟨B, 0, none⟩)] w fun e w' => e = .returned (.int .u64 (m2 : Int)) ∧ Below w.heap.size w w'
  q7_b_c : ∀ w : World, w.cell? ⟨B, 0, none⟩ = some (.int .i64 n) → Calls Tryd.prog 28 #[.int .u64 (b : Int), .int .u64 (c : Int), .pointer (some ⟨B, 0, none⟩)] w fun e w' => e = .returned (.int .u64 (m3 : Int)) ∧ Below w.heap.size w w'
  q7_a_m3 : ∀ w : World, w.cell? ⟨B, 0, none⟩ = some (.int .i64 n) → Calls Tryd.prog 28 #[.int .u64 (a : Int), .int .u64 (m3 : Int), .pointer (some ⟨B, 0, none⟩)] w fun e w' => e = .returned (.int .u64 (m2 : Int)) ∧ Below w.heap.size w w'
  q7_a_s3 : ∀ w : World, w.cell? ⟨B, 0, none⟩ = some (.int .i64 n) → Calls Tryd.prog 28 #[.int .u64 (a : Int), .int .u64 (s3 : Int), .pointer (some ⟨B, 0, none⟩)] w fun e w' => e = .returned (.int .u64 (m4 : Int)) ∧ Below w.heap.size w w'
  q7_a_c : ∀ w : World, w.cell? ⟨B, 0, none⟩ = some (.int .i64 n) → Calls Tryd.prog 28 #[.int .u64 (a : Int), .int .u64 (c : Int), .pointer (some ⟨B, 0, none⟩)] w fun e w' => e = .returned (.int .u64 (m5 : Int)) ∧ Below w.heap.size w w'
  q5_m1_m5 : ∀ w : World, w.cell? ⟨B, 0, none⟩ = some (.int .i64 n) → Calls Tryd.prog 26 #[.int .u64 (m1 : Int), .int .u64 (m5 : Int), .pointer (some ⟨B, 0, none⟩)] w fun e w' => e = .returned (.int .u64 (m4 : Int)) ∧ Below w.heap.size w w'
  q7_a_1 : ∀ w : World, w.cell? ⟨B, 0, none⟩ = some (.int .i64 n) → Calls Tryd.prog 28 #[.int .u64 (a : Int), .int .u64 1, .pointer (some ⟨B, 0, none⟩)] w fun e w' => e = .returned (.int .u64 (a : Int)) ∧ Below w.heap.size w w'
  q9_b_c : ∀ w : World, w.cell? ⟨B, 0, none⟩ = some (.int .i64 n) → Calls Tryd.prog 30 #[.int .u64 (b : Int), .int .u64 (c : Int), .pointer (some ⟨B, 0, none⟩)] w fun e w' => e = .returned (.int .u64 (o1 : Int)) ∧ Below w.heap.size w w'
  q8_a_o1 : ∀ w : World, w.cell? ⟨B, 0, none⟩ = some (.int .i64 n) → Calls Tryd.prog 29 #[.int .u64 (a : Int), .int .u64 (o1 : Int), .pointer (some ⟨B, 0, none⟩)] w fun e w' => e = .returned (.int .u64 (l1 : Int)) ∧ Below w.heap.size w w'
  q8_a_b : ∀ w : World, w.cell? ⟨B, 0, none⟩ = some (.int .i64 n) → Calls Tryd.prog 29 #[.int .u64 (a : Int), .int .u64 (b : Int), .pointer (some ⟨B, 0, none⟩)] w fun e w' => e = .returned (.int .u64 (l2 : Int)) ∧ Below w.heap.size w w'
  q8_a_c : ∀ w : World, w.cell? ⟨B, 0, none⟩ = some (.int .i64 n) → Calls Tryd.prog 29 #[.int .u64 (a : Int), .int .u64 (c : Int), .pointer (some ⟨B, 0, none⟩)] w fun e w' => e = .returned (.int .u64 (l3 : Int)) ∧ Below w.heap.size w w'
  q9_l2_l3 : ∀ w : World, w.cell? ⟨B, 0, none⟩ = some (.int .i64 n) → Calls Tryd.prog 30 #[.int .u64 (l2 : Int), .int .u64 (l3 : Int), .pointer (some ⟨B, 0, none⟩)] w fun e w' => e = .returned (.int .u64 (l1 : Int)) ∧ Below w.heap.size w w'
  q8_a_nt : ∀ w : World, w.cell? ⟨B, 0, none⟩ = some (.int .i64 n) → Calls Tryd.prog 29 #[.int .u64 (a : Int), .int .u64 (nt : Int), .pointer (some ⟨B, 0, none⟩)] w fun e w' => e = .returned (.int .u64 0) ∧ Below w.heap.size w w'
  q9_a_nt : ∀ w : World, w.cell? ⟨B, 0, none⟩ = some (.int .i64 n) → Calls Tryd.prog 30 #[.int .u64 (a : Int), .int .u64 (nt : Int), .pointer (some ⟨B, 0, none⟩)] w fun e w' => e = .returned (.int .u64 (mm : Int)) ∧ Below w.heap.size w w'
  q10_a_b : ∀ w : World, Calls Tryd.prog 27 #[.int .u8 10, .int .i64 n, .int .u64 (a : Int), .int .u64 (b : Int)] w fun e w' => e = .returned (.int .u64 (x1 : Int)) ∧ Below w.heap.size w w'
  q9_a_b : ∀ w : World, w.cell? ⟨B, 0, none⟩ = some (.int .i64 n) → Calls Tryd.prog 30 #[.int .u64 (a : Int), .int .u64 (b : Int), .pointer (some ⟨B, 0, none⟩)] w fun e w' => e = .returned (.int .u64 (o2 : Int)) ∧ Below w.heap.size w w'
  q6_o2_l2 : ∀ w : World, Calls Tryd.prog 27 #[.int .u8 6, .int .i64 n, .int .u64 (o2 : Int), .int .u64 (l2 : Int)] w fun e w' => e = .returned (.int .u64 (x1 : Int)) ∧ Below w.heap.size w w'
  q5_nt_1 : ∀ w : World, w.cell? ⟨B, 0, none⟩ = some (.int .i64 n) → Calls Tryd.prog 26 #[.int .u64 (nt : Int), .int .u64 1, .pointer (some ⟨B, 0, none⟩)] w fun e w' => e = .returned (.int .u64 (ng : Int)) ∧ Below w.heap.size w w'

theorem facts (B n a b c s1 s2 s3 m1 m2 m3 m4 m5 ng nt o1 o2 l1 l2 l3 x1 mm : Nat) (h0 : 1 ≤ n) (h1 : n ≤ 64) (ha : a < 2 ^ n) (hb : b < 2 ^ n) (hc : c < 2 ^ n)
    (d_s1 : s1 = opv 5 n a b) (d_s2 : s2 = opv 5 n s1 c) (d_s3 : s3 = opv 5 n b c) (d_m1 : m1 = opv 7 n a b) (d_m2 : m2 = opv 7 n m1 c) (d_m3 : m3 = opv 7 n b c) (d_m4 : m4 = opv 7 n a s3) (d_m5 : m5 = opv 7 n a c) (d_ng : ng = opv 4 n a 0) (d_nt : nt = opv 3 n a 0) (d_o1 : o1 = opv 9 n b c) (d_o2 : o2 = opv 9 n a b) (d_l1 : l1 = opv 8 n a o1) (d_l2 : l2 = opv 8 n a b) (d_l3 : l3 = opv 8 n a c) (d_x1 : x1 = opv 10 n a b) (d_mm : mm = mk n) :
    Facts B n a b c s1 s2 s3 m1 m2 m3 m4 m5 ng nt o1 o2 l1 l2 l3 x1 mm := by
  have hzz := pow_pos' n
  have hoo := one_lt n h0
  exact {
    q5_a_b := fun w hw => clo_add n a b s1 B a b w rfl rfl h0 h1 ha hb (d_s1.symm) hw
    q5_b_a := fun w hw => clo_add n b a s1 B b a w rfl rfl h0 h1 hb ha (by rw [d_s1]; exact add_comm' n a b) hw
    q5_s1_c := fun w hw => clo_add n s1 c s2 B s1 c w rfl rfl h0 h1 (by rw [d_s1]; exact opv_lt _ _ _ _) hc (d_s2.symm) hw
    q5_b_c := fun w hw => clo_add n b c s3 B b c w rfl rfl h0 h1 hb hc (d_s3.symm) hw
    q5_a_s3 := fun w hw => clo_add n a s3 s2 B a s3 w rfl rfl h0 h1 ha (by rw [d_s3]; exact opv_lt _ _ _ _) (by rw [d_s3, d_s2, d_s1]; exact add_assoc' n a b c h1) hw
    q6_s1_b := fun w => op_as2 6 n s1 b a 6 b w rfl rfl h0 h1 (by decide) (by decide) (by rw [d_s1]; exact opv_lt _ _ _ _) hb (by rw [d_s1]; exact sub_add' n a b h1 ha hb)
    q5_a_ng := fun w hw => clo_add n a ng 0 B a ng w rfl rfl h0 h1 ha (by rw [d_ng]; exact opv_lt _ _ _ _) (by rw [d_ng]; exact add_neg' n a h1 ha) hw
    q5_a_0 := fun w hw => clo_add n a 0 a B a 0 w rfl rfl h0 h1 ha hzz (add_zero' n a h1 ha) hw
    q7_a_b := fun w hw => clo_mul n a b m1 B a b w rfl rfl h0 h1 ha hb (d_m1.symm) hw
    q7_b_a := fun w hw => clo_mul n b a m1 B b a w rfl rfl h0 h1 hb ha (by rw [d_m1]; exact mul_comm' n a b) hw
    q7_m1_c := fun w hw => clo_mul n m1 c m2 B m1 c w rfl rfl h0 h1 (by rw [d_m1]; exact opv_lt _ _ _ _) hc (d_m2.symm) hw
    q7_b_c := fun w hw => clo_mul n b c m3 B b c w rfl rfl h0 h1 hb hc (d_m3.symm) hw
    q7_a_m3 := fun w hw => clo_mul n a m3 m2 B a m3 w rfl rfl h0 h1 ha (by rw [d_m3]; exact opv_lt _ _ _ _) (by rw [d_m3, d_m2, d_m1]; exact mul_assoc' n a b c h1) hw
    q7_a_s3 := fun w hw => clo_mul n a s3 m4 B a s3 w rfl rfl h0 h1 ha (by rw [d_s3]; exact opv_lt _ _ _ _) (d_m4.symm) hw
    q7_a_c := fun w hw => clo_mul n a c m5 B a c w rfl rfl h0 h1 ha hc (d_m5.symm) hw
    q5_m1_m5 := fun w hw => clo_add n m1 m5 m4 B m1 m5 w rfl rfl h0 h1 (by rw [d_m1]; exact opv_lt _ _ _ _) (by rw [d_m5]; exact opv_lt _ _ _ _) (by rw [d_m1, d_m5, d_m4, d_s3]; exact mul_add' n a b c h1) hw
    q7_a_1 := fun w hw => clo_mul n a 1 a B a 1 w rfl rfl h0 h1 ha hoo (mul_one' n a h1 ha) hw
    q9_b_c := fun w hw => clo_or n b c o1 B b c w rfl rfl h0 h1 hb hc (d_o1.symm) hw
    q8_a_o1 := fun w hw => clo_and n a o1 l1 B a o1 w rfl rfl h0 h1 ha (by rw [d_o1]; exact opv_lt _ _ _ _) (d_l1.symm) hw
    q8_a_b := fun w hw => clo_and n a b l2 B a b w rfl rfl h0 h1 ha hb (d_l2.symm) hw
    q8_a_c := fun w hw => clo_and n a c l3 B a c w rfl rfl h0 h1 ha hc (d_l3.symm) hw
    q9_l2_l3 := fun w hw => clo_or n l2 l3 l1 B l2 l3 w rfl rfl h0 h1 (by rw [d_l2]; exact opv_lt _ _ _ _) (by rw [d_l3]; exact opv_lt _ _ _ _) (by rw [d_l2, d_l3, d_l1, d_o1]; exact and_or' n a b c ha hb hc) hw
    q8_a_nt := fun w hw => clo_and n a nt 0 B a nt w rfl rfl h0 h1 ha (by rw [d_nt]; exact opv_lt _ _ _ _) (by rw [d_nt]; exact and_not' n a h1 ha) hw
    q9_a_nt := fun w hw => clo_or n a nt mm B a nt w rfl rfl h0 h1 ha (by rw [d_nt]; exact opv_lt _ _ _ _) (by rw [d_nt, d_mm]; exact or_not' n a h1 ha) hw
    q10_a_b := fun w => op_as2 10 n a b x1 10 b w rfl rfl h0 h1 (by decide) (by decide) ha hb (d_x1.symm)
    q9_a_b := fun w hw => clo_or n a b o2 B a b w rfl rfl h0 h1 ha hb (d_o2.symm) hw
    q6_o2_l2 := fun w => op_as2 6 n o2 l2 x1 6 l2 w rfl rfl h0 h1 (by decide) (by decide) (by rw [d_o2]; exact opv_lt _ _ _ _) (by rw [d_l2]; exact opv_lt _ _ _ _) (by rw [d_o2, d_l2, d_x1]; exact xor_sub' n a b h1 ha hb)
    q5_nt_1 := fun w hw => clo_add n nt 1 ng B nt 1 w rfl rfl h0 h1 (by rw [d_nt]; exact opv_lt _ _ _ _) hoo (by rw [d_nt, d_ng]; exact not_add_one n a h1 ha) hw
  }

set_option maxHeartbeats 8000000 in
set_option maxRecDepth 100000 in
theorem core (wd x y z n a b c s1 s2 s3 m1 m2 m3 m4 m5 ng nt o1 o2 l1 l2 l3 x1 mm : Nat) (w : World) (hx : x < 18446744073709551616) (hy : y < 18446744073709551616) (hz : z < 18446744073709551616) (hn : n = wd % 64 + 1) (e1 : a = x % 2 ^ n) (e2 : b = y % 2 ^ n) (e3 : c = z % 2 ^ n)
    (d_s1 : s1 = opv 5 n a b) (d_s2 : s2 = opv 5 n s1 c) (d_s3 : s3 = opv 5 n b c) (d_m1 : m1 = opv 7 n a b) (d_m2 : m2 = opv 7 n m1 c) (d_m3 : m3 = opv 7 n b c) (d_m4 : m4 = opv 7 n a s3) (d_m5 : m5 = opv 7 n a c) (d_ng : ng = opv 4 n a 0) (d_nt : nt = opv 3 n a 0) (d_o1 : o1 = opv 9 n b c) (d_o2 : o2 = opv 9 n a b) (d_l1 : l1 = opv 8 n a o1) (d_l2 : l2 = opv 8 n a b) (d_l3 : l3 = opv 8 n a c) (d_x1 : x1 = opv 10 n a b) (d_mm : mm = mk n) :
    Calls Tryd.prog 5 #[.int .u8 wd, .int .u64 x, .int .u64 y, .int .u64 z] w fun e w' => e = .returned (.bool true) ∧ Below w.heap.size w w' := by
  have C1 := fun W => Lib.hid (cut_at wd x hx n a hn e1 W)
  have C2 := fun W => Lib.hid (cut_at wd y hy n b hn e2 W)
  have C3 := fun W => Lib.hid (cut_at wd z hz n c hn e3 W)
  have h0 : 1 ≤ n := by omega
  have h1 : n ≤ 64 := by omega
  have ha : a < 2 ^ n := by rw [e1]; exact Nat.mod_lt _ (pow_pos' n)
  have hb : b < 2 ^ n := by rw [e2]; exact Nat.mod_lt _ (pow_pos' n)
  have hc : c < 2 ^ n := by rw [e3]; exact Nat.mod_lt _ (pow_pos' n)
  have FA := facts w.heap.size n a b c s1 s2 s3 m1 m2 m3 m4 m5 ng nt o1 o2 l1 l2 l3 x1 mm h0 h1 ha hb hc d_s1 d_s2 d_s3 d_m1 d_m2 d_m3 d_m4 d_m5 d_ng d_nt d_o1 d_o2 d_l1 d_l2 d_l3 d_x1 d_mm
  have U1 := fun W => Lib.hid (unary_as 4 n a ng 4 W rfl h0 h1 (by decide) (by decide) ha d_ng.symm)
  have U2 := fun W => Lib.hid (unary_as 3 n a nt 3 W rfl h0 h1 (by decide) (by decide) ha d_nt.symm)
  have M := fun W => mask_yes n W h0 h1
  rw [← d_mm] at M
  have HM := Lib.hid M
  have AND := Lib.hid (show bits .and .u64 (ng : Int) (mm : Int) = (ng : Int) by
    have hl : ng < 2 ^ n := by rw [d_ng]; exact opv_lt _ _ _ _
    have := pow_le n h1
    rw [d_mm, and_mask ng n (by omega) h1, Nat.mod_eq_of_lt hl])
  have k0 : (w.alloc (.cells #[.int .i64 n] 3)).cell? ⟨w.heap.size, 0, none⟩ = some (.int .i64 n) := by go_simp
  clear M e1 e2 e3 hn hx hy hz ha hb hc d_s1 d_s2 d_s3 d_m1 d_m2 d_m3 d_m4 d_m5 d_ng d_nt d_o1 d_o2 d_l1 d_l2 d_l3 d_x1 d_mm
  go_enter Tryd.func5, Tryd.ntmps5
  go_wp2_with (first
    | (go_at_call 25; (with_reducible refine (C1 _).out.mono ?_); rintro e w' ⟨rfl, rfl⟩)
    | (go_at_call 25; (with_reducible refine (C2 _).out.mono ?_); rintro e w' ⟨rfl, rfl⟩)
    | (go_at_call 25; (with_reducible refine (C3 _).out.mono ?_); rintro e w' ⟨rfl, rfl⟩)
    | (go_at_call 10; (with_reducible refine (U1 _).out.mono ?_); rintro e w1 ⟨rfl, hw1⟩; have kB := cell_later hw1 k0; have hb := thenB ((Below.refl _ _).alloc (Nat.le_refl _) _) hw1)
    | (go_at_call 10; (with_reducible refine (U2 _).out.mono ?_); rintro e w2 ⟨rfl, hw2⟩; have kB := cell_later hw2 kB; have hb := thenB hb hw2))
  have rq5_a_b := Lib.hid (cls (W := w2) (fun v hv => FA.q5_a_b v (cell_later hv kB)))
  have rq5_b_a := Lib.hid (cls (W := w2) (fun v hv => FA.q5_b_a v (cell_later hv kB)))
  have rq5_s1_c := Lib.hid (cls (W := w2) (fun v hv => FA.q5_s1_c v (cell_later hv kB)))
  have rq5_b_c := Lib.hid (cls (W := w2) (fun v hv => FA.q5_b_c v (cell_later hv kB)))
  have rq5_a_s3 := Lib.hid (cls (W := w2) (fun v hv => FA.q5_a_s3 v (cell_later hv kB)))
  have rq6_s1_b := Lib.hid (cls (W := w2) (fun v hv => FA.q6_s1_b v))
  have rq5_a_ng := Lib.hid (cls (W := w2) (fun v hv => FA.q5_a_ng v (cell_later hv kB)))
  have rq5_a_0 := Lib.hid (cls (W := w2) (fun v hv => FA.q5_a_0 v (cell_later hv kB)))
  have kR := fun d os => cell_regrown kB d os
  refine wp_region_quiet_below (by kernel_rfl) (by kernel_rfl) ?_
  repeat (first | go_big_quiet_step (first | (with_reducible exact rq5_a_b.out _ _) | (with_reducible exact rq5_b_a.out _ _) | (with_reducible exact rq5_s1_c.out _ _) | (with_reducible exact rq5_b_c.out _ _) | (with_reducible exact rq5_a_s3.out _ _) | (with_reducible exact rq6_s1_b.out _ _) | (with_reducible exact rq5_a_ng.out _ _) | (with_reducible exact rq5_a_0.out _ _)) | quiet_step (first | (with_reducible exact rq5_a_b.out _ _) | (with_reducible exact rq5_b_a.out _ _) | (with_reducible exact rq5_s1_c.out _ _) | (with_reducible exact rq5_b_c.out _ _) | (with_reducible exact rq5_a_s3.out _ _) | (with_reducible exact rq6_s1_b.out _ _) | (with_reducible exact rq5_a_ng.out _ _) | (with_reducible exact rq5_a_0.out _ _)))
  refine wpQuiet_nil ?_
  intro _ hw'
  obtain ⟨⟨dq, osq⟩, hw''⟩ := hw'
  subst hw''
  have hb := thenB hb (below_regrown w2 dq osq)
  have kB := cell_regrown kB dq osq
  clear kR rq5_a_b rq5_b_a rq5_s1_c rq5_b_c rq5_a_s3 rq6_s1_b rq5_a_ng rq5_a_0
  generalize grow (redrawn w2 dq) osq = w3 at *
  go_wp2_with (first
    | (go_at_call 28; (with_reducible refine (FA.q7_a_b _ kB).mono ?_); rintro e w9 ⟨rfl, hw9⟩; have kB := cell_later hw9 kB; have hb := thenB hb hw9)
    | (go_at_call 28; (with_reducible refine (FA.q7_b_a _ kB).mono ?_); rintro e w9 ⟨rfl, hw9⟩; have kB := cell_later hw9 kB; have hb := thenB hb hw9)
    | (go_at_call 28; (with_reducible refine (FA.q7_m1_c _ kB).mono ?_); rintro e w9 ⟨rfl, hw9⟩; have kB := cell_later hw9 kB; have hb := thenB hb hw9)
    | (go_at_call 28; (with_reducible refine (FA.q7_b_c _ kB).mono ?_); rintro e w9 ⟨rfl, hw9⟩; have kB := cell_later hw9 kB; have hb := thenB hb hw9)
    | (go_at_call 28; (with_reducible refine (FA.q7_a_m3 _ kB).mono ?_); rintro e w9 ⟨rfl, hw9⟩; have kB := cell_later hw9 kB; have hb := thenB hb hw9)
    | (go_at_call 26; (with_reducible refine (FA.q5_b_c _ kB).mono ?_); rintro e w9 ⟨rfl, hw9⟩; have kB := cell_later hw9 kB; have hb := thenB hb hw9)
    | (go_at_call 28; (with_reducible refine (FA.q7_a_s3 _ kB).mono ?_); rintro e w9 ⟨rfl, hw9⟩; have kB := cell_later hw9 kB; have hb := thenB hb hw9)
    | (go_at_call 28; (with_reducible refine (FA.q7_a_c _ kB).mono ?_); rintro e w9 ⟨rfl, hw9⟩; have kB := cell_later hw9 kB; have hb := thenB hb hw9)
    | (go_at_call 26; (with_reducible refine (FA.q5_m1_m5 _ kB).mono ?_); rintro e w9 ⟨rfl, hw9⟩; have kB := cell_later hw9 kB; have hb := thenB hb hw9)
    | (go_at_call 28; (with_reducible refine (FA.q7_a_1 _ kB).mono ?_); rintro e w9 ⟨rfl, hw9⟩; have kB := cell_later hw9 kB; have hb := thenB hb hw9))
  have hAND := AND.out
  have rq9_b_c := Lib.hid (cls (W := w9) (fun v hv => FA.q9_b_c v (cell_later hv kB)))
  have rq8_a_o1 := Lib.hid (cls (W := w9) (fun v hv => FA.q8_a_o1 v (cell_later hv kB)))
  have rq8_a_b := Lib.hid (cls (W := w9) (fun v hv => FA.q8_a_b v (cell_later hv kB)))
  have rq8_a_c := Lib.hid (cls (W := w9) (fun v hv => FA.q8_a_c v (cell_later hv kB)))
  have rq9_l2_l3 := Lib.hid (cls (W := w9) (fun v hv => FA.q9_l2_l3 v (cell_later hv kB)))
  have rq8_a_nt := Lib.hid (cls (W := w9) (fun v hv => FA.q8_a_nt v (cell_later hv kB)))
  have rq9_a_nt := Lib.hid (cls (W := w9) (fun v hv => FA.q9_a_nt v (cell_later hv kB)))
  have rq10_a_b := Lib.hid (cls (W := w9) (fun v hv => FA.q10_a_b v))
  have rq9_a_b := Lib.hid (cls (W := w9) (fun v hv => FA.q9_a_b v (cell_later hv kB)))
  have rq6_o2_l2 := Lib.hid (cls (W := w9) (fun v hv => FA.q6_o2_l2 v))
  have rq5_nt_1 := Lib.hid (cls (W := w9) (fun v hv => FA.q5_nt_1 v (cell_later hv kB)))
  have rM := Lib.hid (cls (W := w9) (fun v hv => (HM.out v).mono fun e w' ⟨he, hw⟩ => ⟨he, hw ▸ Below.refl _ _⟩))
  have kR := fun d os => cell_regrown kB d os
  refine wp_region_quiet_below (by kernel_rfl) (by kernel_rfl) ?_
  repeat (first | go_big_quiet_step (first | (with_reducible exact rq9_b_c.out _ _) | (with_reducible exact rq8_a_o1.out _ _) | (with_reducible exact rq8_a_b.out _ _) | (with_reducible exact rq8_a_c.out _ _) | (with_reducible exact rq9_l2_l3.out _ _) | (with_reducible exact rq8_a_nt.out _ _) | (with_reducible exact rq9_a_nt.out _ _) | (with_reducible exact rq10_a_b.out _ _) | (with_reducible exact rq9_a_b.out _ _) | (with_reducible exact rq6_o2_l2.out _ _) | (with_reducible exact rq5_nt_1.out _ _) | (with_reducible exact rM.out _ _)) | quiet_step (first | (with_reducible exact rq9_b_c.out _ _) | (with_reducible exact rq8_a_o1.out _ _) | (with_reducible exact rq8_a_b.out _ _) | (with_reducible exact rq8_a_c.out _ _) | (with_reducible exact rq9_l2_l3.out _ _) | (with_reducible exact rq8_a_nt.out _ _) | (with_reducible exact rq9_a_nt.out _ _) | (with_reducible exact rq10_a_b.out _ _) | (with_reducible exact rq9_a_b.out _ _) | (with_reducible exact rq6_o2_l2.out _ _) | (with_reducible exact rq5_nt_1.out _ _) | (with_reducible exact rM.out _ _)))
  refine wpQuiet_nil ?_
  intro _ hw'
  obtain ⟨⟨dq, osq⟩, hw''⟩ := hw'
  subst hw''
  have hb := thenB hb (below_regrown w9 dq osq)
  have kB := cell_regrown kB dq osq
  clear kR rq9_b_c rq8_a_o1 rq8_a_b rq8_a_c rq9_l2_l3 rq8_a_nt rq9_a_nt rq10_a_b rq9_a_b rq6_o2_l2 rq5_nt_1 rM
  generalize grow (redrawn w9 dq) osq = w10 at *
  go_wp2_with (go_at_call 18; (with_reducible refine (alive_any _).mono ?_); rintro e w11 ⟨rfl, hw11⟩)
  go_ret
  exact ⟨rfl, thenB hb hw11⟩

theorem walk (a0 : Int) (a1 : Int) (a2 : Int) (a3 : Int) (w0 : (Lit.int .u8 a0).wf = true) (w1 : (Lit.int .u64 a1).wf = true) (w2 : (Lit.int .u64 a2).wf = true) (w3 : (Lit.int .u64 a3).wf = true) (w : World) :
    Calls Tryd.prog 5 #[.int .u8 a0, .int .u64 a1, .int .u64 a2, .int .u64 a3] w fun e w' => e = .returned (.bool true) ∧ Below w.heap.size w w' := by
  obtain ⟨wd, rfl, _⟩ := nat_u8 w0
  obtain ⟨x, rfl, hx⟩ := nat_u64 w1
  obtain ⟨y, rfl, hy⟩ := nat_u64 w2
  obtain ⟨z, rfl, hz⟩ := nat_u64 w3
  exact core wd x y z _ _ _ _ _ _ _ _ _ _ _ _ _ _ _ _ _ _ _ _ _ w hx hy hz rfl rfl rfl rfl rfl rfl rfl rfl rfl rfl rfl rfl rfl rfl rfl rfl rfl rfl rfl rfl rfl
end Go.Proofs.YtdllophjfiebiaaDoor.bitsRing
