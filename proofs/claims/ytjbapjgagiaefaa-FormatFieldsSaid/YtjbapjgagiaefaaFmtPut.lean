/- The contract of package format's Put. -/
import Derived.Test.YtjbapjgagiaefaaFmtGet
import Derived.Laws.BitsAllLaws
import Derived.Deep.RegionHeld3
namespace Go.Proofs.Ytjbapjgagiaefaa
open Go.RowKit Go.Shelf Go.Deep Go.Instr Go.Sort
set_option linter.unusedVariables false
set_option linter.unusedSimpArgs false
attribute [local go_sem] Oper.semAt_some

theorem andNot_nat (a b : Nat) (ha : a < 18446744073709551616) (hb : b < 18446744073709551616) : bits .andNot .u64 (a : Int) (b : Int) = ((a - (a &&& b) : Nat) : Int) := by
  rw [u64_andNot _ _ (by omega) (by omega) (by omega) (by omega)]
  congr 1
  apply Nat.eq_of_testBit_eq
  intro j
  rw [sub_and_bit, Nat.testBit_and, Int.toNat_natCast, Int.toNat_natCast]
  rw [show 18446744073709551615 - b = 2 ^ 64 - (b + 1) by omega, Nat.testBit_two_pow_sub_succ (by omega)]
  by_cases hj : j < 64
  · simp [hj]
  · have : a.testBit j = false := Nat.testBit_lt_two_pow (Nat.lt_of_lt_of_le ha (Nat.pow_le_pow_right (n := 2) (by omega) (show 64 ≤ j by omega)))
    simp [this]
/-- A step of the loop. -/
def pst (field w : Nat) (x : Nat × MPiece) : Nat := pstep w (field / 2 ^ x.1) x.2
theorem pst_fold (field : Nat) : ∀ (L : List MPiece) (p w : Nat), (placedN p L).foldl (pst field) w = putN w (field / 2 ^ p) L
  | [], p, w => rfl
  | x :: L, p, w => by
    simp only [placedN, List.foldl_cons, putN]
    rw [pst_fold field L (p + x.l), Nat.div_div_eq_div_mul, ← Nat.pow_add]
    rfl
theorem pst_lt (field w : Nat) (x : Nat × MPiece) (hw : w < 18446744073709551616) (h : x.2.p + x.2.l ≤ 64) : pst field w x < 18446744073709551616 ∧ field / 2 ^ x.1 % 2 ^ x.2.l * 2 ^ x.2.p < 18446744073709551616 ∧ pcM x.2 < 18446744073709551616 := by
  have hm := Nat.mod_lt (field / 2 ^ x.1) (Nat.two_pow_pos x.2.l)
  have h1 : field / 2 ^ x.1 % 2 ^ x.2.l * 2 ^ x.2.p < 2 ^ x.2.l * 2 ^ x.2.p := Nat.mul_lt_mul_of_pos_right hm (Nat.two_pow_pos _)
  rw [← Nat.pow_add] at h1
  have h2 := pow_le (x.2.l + x.2.p) (by omega)
  have h3 : pcM x.2 < 2 ^ x.2.l * 2 ^ x.2.p := by rw [pcM_eq]; exact Nat.mul_lt_mul_of_pos_right (by have := Nat.two_pow_pos x.2.l; omega) (Nat.two_pow_pos _)
  rw [← Nat.pow_add] at h3
  refine ⟨?_, by omega, by omega⟩
  unfold pst pstep
  exact Nat.or_lt_two_pow (n := 64) (Nat.lt_of_le_of_lt (Nat.sub_le _ _) hw) (by omega)
theorem pst_val (word field p k q : Nat) (hw : word < 18446744073709551616) (hf : field < 18446744073709551616) (hk : k ≤ 64) (hp : p ≤ 64) (s2 : field / 2 ^ q % 2 ^ k * 2 ^ p < 18446744073709551616) (s3 : mk k * 2 ^ p < 18446744073709551616) :
    bits .or .u64 (bits .andNot .u64 (word : Int) (IntKind.u64.wrap (((mk k : Nat) : Int) * 2 ^ p))) (IntKind.u64.wrap (bits .and .u64 ((field : Int) / 2 ^ q) ((mk k : Nat) : Int) * 2 ^ p)) = (((word - (word &&& (mk k * 2 ^ p))) ||| (field / 2 ^ q % 2 ^ k * 2 ^ p) : Nat) : Int) := by
  have e : ((field : Int) / 2 ^ q) = ((field / 2 ^ q : Nat) : Int) := by simp
  rw [e, and_mask _ k (Nat.lt_of_le_of_lt (Nat.div_le_self _ _) hf) hk, shl_wrap _ p _ rfl s2, shl_wrap _ p _ rfl s3, andNot_nat word _ hw s3]
  exact bits_or_u64_nat _ _ (Nat.lt_of_le_of_lt (Nat.sub_le _ _) hw) s2
/-- What the loop keeps. -/
structure QInv (n₀ Bs field : Nat) (w : World) (word : Nat) (pre : List PEl) (W : World) : Prop where
  below : Below n₀ w W
  size : Bs + 2 ≤ W.heap.size
  b0 : Boxed W n₀ 25 (.int .u64 ((pre.map (·.1)).foldl (pst field) word : Nat))
  b1 : Boxed W (n₀ + 1) 25 (.int .u64 (field : Nat))
  lt : (pre.map (·.1)).foldl (pst field) word < 18446744073709551616
theorem QInv.own_from {n₀ Bs field word B : Nat} {w : World} (hB : Bs + 2 ≤ B) (hw : n₀ ≤ w.heap.size) (hs : n₀ + 2 ≤ Bs) : OwnFrom B (fun (pre : List PEl) W => QInv n₀ Bs field w word pre W) := fun s A B' row hs hg hr => by
  have hne : ∀ k : Nat, k < Bs + 2 → some k ≠ row := fun k hk e => by have := (hr k e.symm).1; omega
  exact ⟨hs.below.grown hg (Nat.le_trans hw hs.below.size) (fun k e => by have := (hr k e).1; omega), Nat.le_trans hs.size hg.size, hs.b0.kept hg (hne _ (by omega)), hs.b1.kept hg (hne _ (by omega)), hs.lt⟩
/-- What Put gives. -/
def putR (size : Int) (word : Nat) (L : List MPiece) (field : Nat) : Nat × Int := if cwR size word L = 0 then (if okB (widthL L) field = true then (putN word field L, 0) else (0, 24)) else (0, cwR size word L)
theorem mask_small (n : Nat) (h : n ≤ 64) (w : World) : Calls Try.prog 33 #[.int .i64 n] w fun e w' => e = .returned (.int .u64 (mk n : Nat)) ∧ w = w' := by
  by_cases h0 : 1 ≤ n
  · exact mask_yes n w h0 h
  · obtain rfl : n = 0 := by omega
    exact mask_no 0 w (by omega)

set_option maxRecDepth 100000 in
set_option maxHeartbeats 4000000 in
theorem put_gen (size : Int) (word : Nat) (A : Option Addr) (c : Nat) (L : List MPiece) (field : Nat) (w : World) (hA : PcsAt w A L) (hok : PcsOk L) (hc : L.length ≤ c) (hcm : c ≤ maxLen) (hcw : cwR size word L = 0) (hG : GoodL L) (hword : word < 18446744073709551616) (hfield : field < 18446744073709551616) :
    CallsIn Fence.wide 3 Try.prog 18 #[.int .i64 size, .int .u64 word, .slice A L.length c, .int .u64 field] w fun e w' => e = .returned (.tuple #[.int .u64 ((putR size word L field).1 : Nat), .int .i64 (putR size word L field).2]) ∧ Below w.heap.size w w' := by
  have HCW := Lib.hid (fun W (h : PcsAt W A L) => checkWord_any size word A c L W h hok hc hcm)
  rw [hcw] at HCW
  have HA := Lib.hid hA
  have HAL := Lib.hid (fun W (h : Below w.heap.size w W) => hA.later h)
  have HFW := Lib.hid (fun W (h : PcsAt W A L) => fieldWidth_any A c L W h hG hc hcm)
  have HMW := Lib.hid (fun W => mask_small (widthL L) hG.2 W)
  have HP := Lib.hid (fun n W => placed_in Fence.wide n trivial rfl A L.length c W)
  have HGG := Lib.hid hG
  have HC := Lib.hid (And.intro hc hcm)
  have HOK := Lib.hid (okB_le (widthL L) field)
  have hr : putR size word L field = if okB (widthL L) field = true then (putN word field L, 0) else (0, 24) := by unfold putR; rw [if_pos hcw]
  have HRR := Lib.hid hr
  refine callsIn_of_wp_marks Try.func18 rfl trivial ?_ rfl
  simp only [Try.ntmps18, List.size_toArray, List.length_cons, List.length_nil, Nat.reduceAdd, Nat.reduceSub, Array.replicate_succ, Array.replicate_zero, List.push_toArray, List.append_toArray, List.nil_append, List.cons_append]
  clear hA hok hc hcm hcw hG hr
  generalize widthL L = wd at *
  cases hq : okB wd field
  all_goals
    rw [hq] at HOK HRR
    simp only [Bool.false_eq_true, if_false, if_true] at HRR
    clear hq
    gi_wp2_with (refine ⟨trivial, ?_⟩; gi_at_call 38; refine (callsIn_wide.2 (HCW.out _ (HAL.out _ (((Below.refl _ _).alloc (Nat.le_refl _) _).alloc (by simp) _)))).mono ?_; rintro e w2 ⟨rfl, hb2⟩)
    have hw2 : w.heap.size + 2 ≤ w2.heap.size := by have := hb2.size; simp at this; omega
    have hbw2 : Below w.heap.size w w2 := ((((Below.refl _ w).alloc (Nat.le_refl _) _).alloc (by simp) _)).trans (hb2.mono (by simp; omega))
    have hx0 : Boxed w2 w.heap.size 25 (.int .u64 (word : Nat)) := (hb2.block _ (by simp; omega)).trans ((Boxed.new w _ _).alloc _)
    have hx1 : Boxed w2 (w.heap.size + 1) 25 (.int .u64 (field : Nat)) := (hb2.block _ (by simp)).trans (by have := Boxed.new (w.alloc (.cells #[.int .u64 (word : Nat)] 25)) 25 (.int .u64 (field : Nat)); rwa [World.size_alloc] at this)
    have d7 := hx1.cell
    have HSB := Lib.hid (fun (X : World) (h : Below w2.heap.size w2 X) => (show X.cell? ⟨w.heap.size + 1, 0, none⟩ = some (.int .u64 (field : Nat)) from (h.cell (p := ⟨w.heap.size + 1, 0, none⟩) (show w.heap.size + 1 < w2.heap.size by omega)).trans d7))
    have HAL2 := Lib.hid (fun W (h : Below w2.heap.size w2 W) => HAL.out W (hbw2.trans (h.mono (by omega))))
    have HBX := Lib.hid (And.intro hbw2 (And.intro hx0 hx1))
    clear hb2 hbw2 hx0 hx1
    have hleq := HOK.out.symm
    refine wpIn_wide.2 ?_
    first | (go_region_held3 (fun w' => w'.cell? ⟨w.heap.size + 1, 0, none⟩ = some (.int .u64 (field : Nat)))
      (first | assumption | (refine HSB.out _ ?_; (repeat (first | assumption | exact Below.refl _ _ | refine Below.drew ?_)); done) | go_keep)
      (first
        | (go_at_call 40; go_loud ((with_reducible refine (HFW.out _ (HAL2.out _ (by (repeat (first | assumption | exact Below.refl _ _ | refine Below.drew ?_))))).mono ?_); rintro e w3 ⟨rfl, hb3⟩; have hB3 : Below w2.heap.size w2 w3 := Below.trans (by (repeat (first | assumption | exact Below.refl _ _ | refine Below.drew ?_))) (hb3.mono (by (first | assumption | exact Nat.le_refl _ | omega | (simp; done)))); clear hb3; have d0 := HSB.out w3 hB3))
        | (go_at_call 33; go_loud ((with_reducible refine (HMW.out _).mono ?_); rintro e w4 ⟨rfl, rfl⟩))
        | (go_at_call 31; go_loud ((with_reducible refine (needB1 24 _ _ _ (by simp)).mono ?_); (first | rw [needR_true] | rw [needR_false]); rintro e w5 ⟨rfl, rfl⟩))
        | (go_at_call 31; go_loud ((with_reducible refine (needD1 24 _ _ _ (by simp)).mono ?_); (first | rw [needR_true] | rw [needR_false]); rintro e w5 ⟨rfl, rfl⟩)))) | fail "stood"
  · gi_wp2
    exact ⟨.tuple #[.int .u64 0, .int .i64 24], by simp [results, Try.f18, go_sem], by rw [HRR.out]; rfl, HBX.out.1.trans ((hB3.mono (by omega)).alloc (by have := hB3.size; omega) _)⟩
  · gi_wp2_with (refine ⟨trivial, ?_⟩; gi_at_call 39; refine (HP.out _ _).mono ?_; rintro e w' ⟨rfl, rfl⟩)
    obtain ⟨B3, hB3e⟩ : ∃ B3, w3.heap.size = B3 := ⟨_, rfl⟩
    obtain ⟨W0, hW0⟩ : ∃ W0, W0 = (w3.alloc (.cells #[.bool true] 4)).alloc (.cells #[.slice A L.length c] 34) := ⟨_, rfl⟩
    have hsz : W0.heap.size = B3 + 2 := by rw [hW0]; simp [hB3e]
    have h3s := hB3.size
    have hbel : Below w.heap.size w W0 := by
      rw [hW0]
      exact ((HBX.out.1.trans (hB3.mono (by omega))).alloc (by omega) _).alloc (by simp; omega) _
    have hbx0 : Boxed W0 w.heap.size 25 (.int .u64 (word : Nat)) := by
      rw [hW0]
      have h2 : Boxed w3 w.heap.size 25 (.int .u64 (word : Nat)) := (hB3.block _ (by omega)).trans HBX.out.2.1
      exact (h2.alloc _).alloc _
    have hbx1 : Boxed W0 (w.heap.size + 1) 25 (.int .u64 (field : Nat)) := by
      rw [hW0]
      have h2 : Boxed w3 (w.heap.size + 1) 25 (.int .u64 (field : Nat)) := (hB3.block _ (by omega)).trans HBX.out.2.2
      exact (h2.alloc _).alloc _
    have hlb : W0.heap[B3 + 1]? = some (.cells #[.slice A L.length c] 34 (0, 0)) := by
      rw [hW0, ← hB3e]
      have := World.alloc_heap_new (w3.alloc (.cells #[.bool true] 4)) (.cells #[.slice A L.length c] 34)
      rwa [World.size_alloc] at this
    have h3w : w.heap.size + 2 ≤ B3 := by omega
    try rw [hB3e]
    rw [← hW0]
    clear hW0 hB3e hB3 h3s hw2
    have hinv : QInv w.heap.size B3 field w word [] W0 := ⟨hbel, by omega, hbx0, hbx1, by simpa using hword⟩
    refine wpIn_rangeFunc_ownH (F := Fence.wide) rfl (by omega) (gf := 55) (lb := #[.pointer (some ⟨B3 + 1, 0, none⟩)]) rfl trivial (enters_of Try.func55 (by kernel_rfl) rfl)
      (placed_stops Fence.wide rfl (3 - 1) trivial rfl w (B3 + 1) w.heap.size w.heap.size A c L HA.out.in HGG.out HC.out.1 HC.out.2 W0 hbel (by omega) hlb (by omega) (by omega))
      (fun h k => h.trans k) (PKp.putObj (by omega)) (Below.refl _ _) (fun _ => rfl)
      (fun pre W => QInv w.heap.size B3 field w word pre W) (fun _ _ _ => False) (QInv.own_from (by omega) (Nat.le_refl _) h3w) (fun _ _ _ _ _ hs _ _ => hs) hinv
      (fun x a' W => ∃ Bx, B3 + 2 ≤ Bx ∧ W.heap[Bx]? = some (.cells #[.int .i64 x.1.2.pos, .int .i64 x.1.2.len] 33 (0, 0)) ∧ a' = { tmps := #[.int .i64 size, .int .u64 (word : Nat), .slice A L.length c, .int .u64 (field : Nat), undef, .pointer (some ⟨w.heap.size, 0, none⟩), undef, .pointer (some ⟨w.heap.size + 1, 0, none⟩), .int .u64 0, .int .i64 0, .int .i64 0, .int .i64 0, .int .i64 (x.1.1 : Nat), .pointer (some ⟨Bx, 0, none⟩), undef, .int .i64 size, .int .u64 (word : Nat), .slice A L.length c, .int .i64 0, .int .i64 0, .bool false, undef, .int .u64 (field : Nat), .slice A L.length c, .int .i64 (wd : Nat), .int .u64 (mk wd : Nat), .bool true, .slice (some ⟨B3, 0, none⟩) 1 1, .int .i64 0, .int .i64 0, .bool false, undef, .slice A L.length c, .func (.func 55) #[] #[.pointer (some ⟨B3 + 1, 0, none⟩)], .int .i64 (x.1.1 : Nat), .agg #[.int .i64 x.1.2.pos, .int .i64 x.1.2.len], undef, undef, undef, undef, undef, undef, undef, undef, undef, undef, undef, undef, undef, undef, undef, undef, undef, undef, undef], defers := [] })
      (fun x a' _ X Y row hs hg hr => by obtain ⟨Bx, h1, h2, h3⟩ := hs; exact ⟨Bx, h1, (grownBy_keeps_cells hg (fun r e => (hr r e).2) h2 rfl).trans h2, h3⟩)
      ?assign ?body ?done ?stop
    case assign =>
      rintro l pre x W K hi hK
      simp only [PEl.encs] at hK ⊢
      have hbW := hi.below.size
      gi_wp2
      exact hK _ _ ((KeepsOthers.alloc _ _).from _) (PKp.alloc W hbW _) (QInv.own_from (B := B3 + 2) (Nat.le_refl _) (Nat.le_refl _) h3w pre W _ none hi (World.grownBy_alloc W _ none) (fun r e => by cases e)) ⟨W.heap.size, hi.size, World.alloc_heap_new W _, rfl⟩
    case body =>
      rintro l pre x a' W hl _ hi ⟨Bx, hBx, hcx, rfl⟩ hlt
      obtain ⟨e1, e2, l1, l2, l3⟩ := x.nats
      obtain ⟨f, hf⟩ : ∃ f, (pre.map (·.1)).foldl (pst field) word = f := ⟨_, rfl⟩
      have hflt := hi.lt
      have hb0 := hi.b0
      have hb1 := hi.b1
      rw [hf] at hflt hb0
      obtain ⟨s1, s2, s3⟩ := pst_lt field f x.1 hflt l3
      have hst : ((pre ++ [x]).map (·.1)).foldl (pst field) word = pst field f x.1 := by rw [List.map_append, List.foldl_append, hf]; rfl
      have HST := Lib.hid hst
      have c1 := hb0.cell
      have f1 := hb0.frozen
      have c2 := hb1.cell
      obtain ⟨d0, d1⟩ := pcell hcx
      have hqk := x.2.2
      rw [e1] at d0
      rw [e2] at d1
      rw [e1, e2]
      have hgs : pst field f x.1 = (f - (f &&& (mk x.1.2.l * 2 ^ x.1.2.p))) ||| (field / 2 ^ x.1.1 % 2 ^ x.1.2.l * 2 ^ x.1.2.p) := rfl
      rw [pcM_eq] at s3
      change mk x.1.2.l * 2 ^ x.1.2.p < _ at s3
      obtain ⟨p, hp⟩ : ∃ p, x.1.2.p = p := ⟨_, rfl⟩
      obtain ⟨k, hk⟩ : ∃ k, x.1.2.l = k := ⟨_, rfl⟩
      obtain ⟨q, hq⟩ : ∃ q, x.1.1 = q := ⟨_, rfl⟩
      rw [hp, hk, hq] at hgs s2
      rw [hp, hk] at s3
      rw [hp] at d0 l3
      rw [hk] at d1 l1 l2 l3 hqk
      rw [hq] at hqk
      rw [hp, hk, hq]
      have HM := Lib.hid (fun W => mask_yes k W l1 l2)
      have HV := Lib.hid (pst_val f field p k q hflt hfield l2 (by omega) s2 s3)
      have HI := Lib.hid (And.intro hi (And.intro hgs (And.intro hf s1)))
      clear hst hgs hf hi hcx hlt e1 e2 hp hk hq s1 s2 s3
      gi_wp2_with (refine ⟨trivial, ?_⟩; gi_at_call 33; refine (CallsIn.inRound l (callsIn_wide.2 (HM.out _))).mono ?_; rintro e w' ⟨rfl, rfl⟩)
      refine round_still_tail l _ 15 (by kernel_rfl) (by kernel_rfl) (by kernel_rfl) ?_
      change wpStill _ _ (World.drew _) (fun a' => wpList _ _ _ _ a' (World.drew _)) _ _
      simp only [List.take_succ_cons, List.take_zero, List.drop_succ_cons, List.drop_zero]
      repeat still_step
      refine wpStill_nil ?_
      go_wp2
      refine ⟨rfl, ?_⟩
      rw [HV.out, ← HI.out.2.1]
      obtain ⟨hi, _, hf, s1⟩ := HI.out
      refine ⟨((KeepsOthers.setCell _ _ _).trans (KeepsOthers.drew _)).from _, (PKp.setCell _ (Nat.le_refl _) 0 _).trans (PKp.drew _), ?_⟩
      refine ⟨hi.below.trans ((PKp.setCell (n₀ := w.heap.size) W (Nat.le_refl _) 0 _).trans (PKp.drew _)).1, by have := hi.size; simp; omega, ?_, hi.b1.other (by omega) _, ?_⟩
      · rw [HST.out]; exact hi.b0.set _
      · rw [HST.out]; exact s1
    case done =>
      rintro D xs W hD hxs hi hK
      have hres : (xs.map (·.1)).foldl (pst field) word = putN word field L := by
        rw [hxs, pst_fold field L 0 word]; simp
      have hbw := hi.b0
      rw [hres] at hbw
      have c2 := hbw.cell
      have hbl := hi.below
      have HR := Lib.hid (hbl.trans (belowK_b (w := w) (Nat.le_refl _) W D _ (.deferred none) (by omega) hK rfl rfl))
      clear hres hi hbw hbl
      gi_wp2
      refine ⟨by simp, .inl ⟨_, _, rfl, run_takeDeferred hK, ?_⟩⟩
      exact ⟨.tuple #[.int .u64 (putN word field L : Nat), .int .i64 0], by simp [results, Try.f18, go_sem], by rw [HRR.out], HR.out⟩
    case stop =>
      rintro D c pre W hD hpre hx
      exact hx.elim
set_option maxRecDepth 100000 in
set_option maxHeartbeats 4000000 in
theorem put_any (size : Int) (word : Nat) (A : Option Addr) (c : Nat) (L : List MPiece) (field : Nat) (w : World) (hA : PcsAt w A L) (hok : PcsOk L) (hc : L.length ≤ c) (hcm : c ≤ maxLen) (hword : word < 18446744073709551616) (hfield : field < 18446744073709551616) :
    Calls Try.prog 18 #[.int .i64 size, .int .u64 word, .slice A L.length c, .int .u64 field] w fun e w' => e = .returned (.tuple #[.int .u64 ((putR size word L field).1 : Nat), .int .i64 (putR size word L field).2]) ∧ Below w.heap.size w w' := by
  by_cases h : cwR size word L = 0
  · have hm := maskR_ok (cwR_ok h).1
    exact callsIn_wide.1 (put_gen size word A c L field w hA hok hc hcm h (goodL_of hm.1 hm.2.2.1) hword hfield)
  · have HCW := Lib.hid (fun W (h : PcsAt W A L) => checkWord_any size word A c L W h hok hc hcm)
    have HAL := Lib.hid (fun W (h : Below w.heap.size w W) => hA.later h)
    rw [show putR size word L field = (0, cwR size word L) by unfold putR; rw [if_neg h]]
    have h1 : (cwR size word L != 0) = true := by simpa using h
    generalize cwR size word L = z at *
    clear h hA hok hc hcm hword hfield
    refine (callsIn_wide (n := 3)).1 ?_
    refine callsIn_of_wp_marks Try.func18 rfl trivial ?_ rfl
    simp only [Try.ntmps18, List.size_toArray, List.length_cons, List.length_nil, Nat.reduceAdd, Nat.reduceSub, Array.replicate_succ, Array.replicate_zero, List.push_toArray, List.append_toArray, List.nil_append, List.cons_append]
    gi_wp2_with (refine ⟨trivial, ?_⟩; gi_at_call 38; refine (callsIn_wide.2 (HCW.out _ (HAL.out _ (((Below.refl _ _).alloc (Nat.le_refl _) _).alloc (by simp) _)))).mono ?_; rintro e w2 ⟨rfl, hb2⟩)
    exact ⟨.tuple #[.int .u64 0, .int .i64 z], by simp [results, Try.f18, go_sem], rfl, (((Below.refl _ w).alloc (Nat.le_refl _) _).alloc (by simp) _).trans (hb2.mono (by simp; omega))⟩
end Go.Proofs.Ytjbapjgagiaefaa
