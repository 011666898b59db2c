/- The contract of package format's Get. -/
import Derived.Test.YtjbapjgagiaefaaFmtWord
import Derived.Test.YtjbapjgagiaefaaFmtNumber
namespace Go.Proofs.Ytjbapjgagiaefaa
open Go.RowKit Go.Shelf Go.Deep Go.Instr Go.Sort
set_option linter.unusedVariables false
set_option linter.unusedSimpArgs false
attribute [local go_sem] Oper.semAt_some

/-- A step of the loop. -/
def gstep (word f : Nat) (x : Nat × MPiece) : Nat := f ||| (word / 2 ^ x.2.p % 2 ^ x.2.l * 2 ^ x.1)
theorem gstep_fold (word : Nat) : ∀ (L : List MPiece) (p f : Nat), f < 2 ^ p → (placedN p L).foldl (gstep word) f = f + 2 ^ p * getN word L
  | [], p, f, hf => by simp [placedN, getN]
  | x :: L, p, f, hf => by
    have e : gstep word f (p, x) = f + 2 ^ p * (word / 2 ^ x.p % 2 ^ x.l) := by
      unfold gstep
      rw [Nat.mul_comm _ (2 ^ p), Nat.or_comm, Nat.add_comm]
      exact (Nat.two_pow_add_eq_or_of_lt hf _).symm
    have hm := Nat.mod_lt (word / 2 ^ x.p) (Nat.two_pow_pos x.l)
    have hlt : f + 2 ^ p * (word / 2 ^ x.p % 2 ^ x.l) < 2 ^ (p + x.l) := by
      rw [Nat.pow_add]
      calc f + 2 ^ p * (word / 2 ^ x.p % 2 ^ x.l) < 2 ^ p + 2 ^ p * (word / 2 ^ x.p % 2 ^ x.l) := by omega
        _ = 2 ^ p * (word / 2 ^ x.p % 2 ^ x.l + 1) := by rw [Nat.mul_add, Nat.mul_one, Nat.add_comm]
        _ ≤ 2 ^ p * 2 ^ x.l := Nat.mul_le_mul_left _ hm
    simp only [placedN, List.foldl_cons]
    rw [e, gstep_fold word L (p + x.l) _ hlt]
    simp only [getN]
    rw [Nat.pow_add, Nat.mul_add, ← Nat.mul_assoc, Nat.add_assoc]
theorem gstep_lt (word f : Nat) (x : Nat × MPiece) (hf : f < 18446744073709551616) (h : x.1 + x.2.l ≤ 64) : gstep word f x < 18446744073709551616 ∧ word / 2 ^ x.2.p % 2 ^ x.2.l * 2 ^ x.1 < 18446744073709551616 := by
  have hm := Nat.mod_lt (word / 2 ^ x.2.p) (Nat.two_pow_pos x.2.l)
  have h1 : word / 2 ^ x.2.p % 2 ^ x.2.l * 2 ^ x.1 < 2 ^ x.2.l * 2 ^ x.1 := Nat.mul_lt_mul_of_pos_right hm (Nat.two_pow_pos _)
  rw [← Nat.pow_add] at h1
  have h2 := pow_le (x.2.l + x.1) (by omega)
  have h3 : word / 2 ^ x.2.p % 2 ^ x.2.l * 2 ^ x.1 < 18446744073709551616 := by omega
  exact ⟨Nat.or_lt_two_pow (n := 64) hf h3, h3⟩
/-- What the loop keeps. -/
structure GInv (n₀ Bw word : Nat) (w : World) (pre : List PEl) (W : World) : Prop where
  below : Below n₀ w W
  size : Bw + 2 ≤ W.heap.size
  b0 : Boxed W n₀ 25 (.int .u64 word)
  bw : Boxed W Bw 25 (.int .u64 ((pre.map (·.1)).foldl (gstep word) 0 : Nat))
  lt : (pre.map (·.1)).foldl (gstep word) 0 < 18446744073709551616
theorem GInv.own_from {n₀ Bw word B : Nat} {w : World} (hB : Bw + 2 ≤ B) (hw : n₀ ≤ w.heap.size) (hb : n₀ < Bw) : OwnFrom B (fun (pre : List PEl) W => GInv n₀ Bw word w pre W) := fun s A B' row hs hg hr => by
  have hne : ∀ k : Nat, k < Bw + 2 → some k ≠ row := fun k hk e => by have := (hr k e.symm).1; omega
  exact ⟨hs.below.grown hg (Nat.le_trans hw hs.below.size) (fun k e => by have := (hr k e).1; omega), Nat.le_trans hs.size hg.size, hs.b0.kept hg (hne _ (by omega)), hs.bw.kept hg (hne _ (by omega)), hs.lt⟩
theorem shr_val (w p : Nat) (hw : w < 18446744073709551616) : IntKind.u64.wrap ((w : Int) / 2 ^ p) = ((w / 2 ^ p : Nat) : Int) := by
  have : w / 2 ^ p ≤ w := Nat.div_le_self _ _
  have e : ((w : Int) / 2 ^ p) = ((w / 2 ^ p : Nat) : Int) := by simp
  rw [e, IntKind.wrap_u64]
  clear e
  generalize w / 2 ^ p = z at *
  omega
theorem gstep_val (word f p k q : Nat) (hw : word < 18446744073709551616) (hf : f < 18446744073709551616) (hk : k ≤ 64) (hq : q ≤ 64) (s2 : word / 2 ^ p % 2 ^ k * 2 ^ q < 18446744073709551616) :
    bits .or .u64 (f : Int) (IntKind.u64.wrap (bits .and .u64 ((word : Int) / 2 ^ p) ((mk k : Nat) : Int) * 2 ^ min q 64)) = ((f ||| (word / 2 ^ p % 2 ^ k * 2 ^ q) : Nat) : Int) := by
  have e : ((word : Int) / 2 ^ p) = ((word / 2 ^ p : Nat) : Int) := by simp
  rw [e, and_mask _ k (Nat.lt_of_le_of_lt (Nat.div_le_self _ _) hw) hk, Nat.min_eq_left hq, shl_wrap _ q _ rfl s2]
  exact bits_or_u64_nat f _ hf s2
theorem PEl.nats (x : PEl) : x.1.2.pos = (x.1.2.p : Nat) ∧ x.1.2.len = (x.1.2.l : Nat) ∧ 1 ≤ x.1.2.l ∧ x.1.2.l ≤ 64 ∧ x.1.2.p + x.1.2.l ≤ 64 := by
  obtain ⟨h1, h2, h3⟩ := x.2.1
  unfold MPiece.p MPiece.l
  omega

set_option maxRecDepth 100000 in
set_option maxHeartbeats 4000000 in
theorem get_gen (size : Int) (word : Nat) (A : Option Addr) (c : Nat) (L : List MPiece) (w : World) (hA : PcsAt w A L) (hok : PcsOk L) (hc : L.length ≤ c) (hcm : c ≤ maxLen) (hcw : cwR size word L = 0) (hG : GoodL L) (hword : word < 18446744073709551616) :
    CallsIn Fence.wide 3 Try.prog 17 #[.int .i64 size, .int .u64 word, .slice A L.length c] w fun e w' => e = .returned (.tuple #[.int .u64 (getN word L : Nat), .int .i64 0]) ∧ Below w.heap.size w w' := by
  have HCW := Lib.hid (fun W (h : PcsAt W A L) => checkWord_any size word A c L W h hok hc hcm)
  rw [hcw] at HCW
  have HA := Lib.hid hA
  have HA2 := Lib.hid (fun o => hA.later ((Below.refl w.heap.size w).alloc (Nat.le_refl _) o))
  have HP := Lib.hid (fun n W => placed_in Fence.wide n trivial rfl A L.length c W)
  have HG := Lib.hid hG
  have HC := Lib.hid (And.intro hc hcm)
  refine callsIn_of_wp_marks Try.func17 rfl trivial ?_ rfl
  simp only [Try.ntmps17, List.size_toArray, List.length_cons, List.length_nil, Nat.reduceAdd, Nat.reduceSub, Array.replicate_succ, Array.replicate_zero, List.push_toArray, List.append_toArray, List.nil_append, List.cons_append]
  clear hA hok hc hcm hcw hG
  gi_wp2_with (first
    | (refine ⟨trivial, ?_⟩; gi_at_call 38; refine (callsIn_wide.2 (HCW.out _ (HA2.out _))).mono ?_; rintro e w2 ⟨rfl, hb2⟩)
    | (refine ⟨trivial, ?_⟩; gi_at_call 39; refine (HP.out _ _).mono ?_; rintro e w' ⟨rfl, rfl⟩))
  obtain ⟨B2, hB2⟩ : ∃ B2, w2.heap.size = B2 := ⟨_, rfl⟩
  obtain ⟨W0, hW0⟩ : ∃ W0, W0 = (w2.alloc (.cells #[.int .u64 0] 25)).alloc (.cells #[.slice A L.length c] 34) := ⟨_, rfl⟩
  have hsz : W0.heap.size = B2 + 2 := by rw [hW0]; simp [hB2]
  have hw2 : w.heap.size + 1 ≤ B2 := by have := hb2.size; simp at this; omega
  have hbel : Below w.heap.size w W0 := by
    rw [hW0]
    exact ((((Below.refl _ w).alloc (Nat.le_refl _) _).trans (hb2.mono (by simp))).alloc (by omega) _).alloc (by simp; omega) _
  have hbw0 : Boxed W0 w.heap.size 25 (.int .u64 (word : Nat)) := by
    rw [hW0]
    have h1 : Boxed (w.alloc (.cells #[.int .u64 (word : Nat)] 25)) w.heap.size 25 (.int .u64 (word : Nat)) := Boxed.new w _ _
    have h2 : Boxed w2 w.heap.size 25 (.int .u64 (word : Nat)) := (hb2.block _ (by simp)).trans h1
    exact (h2.alloc _).alloc _
  have hbw : Boxed W0 B2 25 (.int .u64 0) := by rw [hW0, ← hB2]; exact (Boxed.new w2 _ _).alloc _
  have hlb : W0.heap[B2 + 1]? = some (.cells #[.slice A L.length c] 34 (0, 0)) := by
    rw [hW0, ← hB2]
    have := World.alloc_heap_new (w2.alloc (.cells #[.int .u64 0] 25)) (.cells #[.slice A L.length c] 34)
    rwa [World.size_alloc] at this
  rw [hB2, ← hW0]
  clear hW0 hB2
  have hinv : GInv w.heap.size B2 word w [] W0 := ⟨hbel, by omega, hbw0, hbw, by simp⟩
  refine wpIn_rangeFunc_ownH (F := Fence.wide) rfl (by omega) (gf := 55) (lb := #[.pointer (some ⟨B2 + 1, 0, none⟩)]) rfl trivial (enters_of Try.func55 (by kernel_rfl) rfl)
    (placed_stops Fence.wide rfl (3 - 1) trivial rfl w (B2 + 1) B2 w.heap.size A c L HA.out.in HG.out HC.out.1 HC.out.2 W0 hbel (by omega) hlb (by omega) (by omega))
    (fun h k => h.trans k) (PKp.putObj (by omega)) (Below.refl _ _) (fun _ => rfl)
    (fun pre W => GInv w.heap.size B2 word w pre W) (fun _ _ _ => False) (GInv.own_from (by omega) (Nat.le_refl _) (by omega)) (fun _ _ _ _ _ hs _ _ => hs) hinv
    (fun x a' W => ∃ Bx, B2 + 2 ≤ Bx ∧ W.heap[Bx]? = some (.cells #[.int .i64 x.1.2.pos, .int .i64 x.1.2.len] 33 (0, 0)) ∧ a' = { tmps := #[.int .i64 size, .int .u64 (word : Nat), .slice A L.length c, undef, .pointer (some ⟨w.heap.size, 0, none⟩), undef, .int .u64 0, .int .i64 0, .int .i64 0, .pointer (some ⟨B2, 0, none⟩), .int .i64 (x.1.1 : Nat), .pointer (some ⟨Bx, 0, none⟩), .int .i64 size, .int .u64 (word : Nat), .slice A L.length c, .int .i64 0, .int .i64 0, .bool false, undef, .slice A L.length c, .func (.func 55) #[] #[.pointer (some ⟨B2 + 1, 0, none⟩)], .int .i64 (x.1.1 : Nat), .agg #[.int .i64 x.1.2.pos, .int .i64 x.1.2.len], undef, undef, undef, undef, undef, undef, undef, undef, undef, undef, undef, undef, undef], defers := [] })
    (fun x a' _ X Y row hs hg hr => by obtain ⟨Bx, h1, h2, h3⟩ := hs; exact ⟨Bx, h1, (grownBy_keeps_cells hg (fun r e => (hr r e).2) h2 rfl).trans h2, h3⟩)
    ?assign ?body ?done ?stop
  case assign =>
    rintro l pre x W K hi hK
    simp only [PEl.encs] at hK ⊢
    have hbW := hi.below.size
    gi_wp2
    exact hK _ _ ((KeepsOthers.alloc _ _).from _) (PKp.alloc W hbW _) (GInv.own_from (B := B2 + 2) (Nat.le_refl _) (Nat.le_refl _) (by omega) pre W _ none hi (World.grownBy_alloc W _ none) (fun r e => by cases e)) ⟨W.heap.size, hi.size, World.alloc_heap_new W _, rfl⟩
  case body =>
    rintro l pre x a' W hl _ hi ⟨Bx, hBx, hcx, rfl⟩ hlt
    obtain ⟨e1, e2, l1, l2, l3⟩ := x.nats
    have HX := Lib.hid (show ∃ y : PEl, y = x from ⟨x, rfl⟩)
    obtain ⟨f, hf⟩ : ∃ f, (pre.map (·.1)).foldl (gstep word) 0 = f := ⟨_, rfl⟩
    have hflt := hi.lt
    have hb0 := hi.b0
    have hbwi := hi.bw
    rw [hf] at hflt hbwi
    obtain ⟨s1, s2⟩ := gstep_lt word f x.1 hflt x.2.2
    have hst : ((pre ++ [x]).map (·.1)).foldl (gstep word) 0 = gstep word f x.1 := by rw [List.map_append, List.foldl_append, hf]; rfl
    have HST := Lib.hid hst
    have c1 := hb0.cell
    have c2 := hbwi.cell
    have f2 := hbwi.frozen
    obtain ⟨d0, d1⟩ := pcell hcx
    rw [e1] at d0
    rw [e2] at d1
    rw [e1, e2]
    obtain ⟨p, hp⟩ : ∃ p, x.1.2.p = p := ⟨_, rfl⟩
    obtain ⟨k, hk⟩ : ∃ k, x.1.2.l = k := ⟨_, rfl⟩
    obtain ⟨q, hq⟩ : ∃ q, x.1.1 = q := ⟨_, rfl⟩
    have hgs : gstep word f x.1 = f ||| (word / 2 ^ p % 2 ^ k * 2 ^ q) := by unfold gstep; rw [hp, hk, hq]
    rw [hp, hk, hq] at s2
    rw [hp] at d0 l3
    rw [hk] at d1 l1 l2 l3
    rw [hp, hk, hq]
    have HM := Lib.hid (fun W => mask_yes k W l1 l2)
    have HV := Lib.hid (gstep_val word f p k q hword hflt l2 (by have := x.2.2; omega) s2)
    have HI := Lib.hid (And.intro hi (And.intro hgs (And.intro hf s1)))
    clear hst hgs hf hi hcx hlt e1 e2 hp hk hq HX
    gi_wp2
    refine round_still_tail l _ 12 (by kernel_rfl) (by kernel_rfl) (by kernel_rfl) ?_
    change wpStill _ _ (World.drew _) (fun a' => wpList _ _ _ _ a' (World.drew _)) _ _
    simp only [List.take_succ_cons, List.take_zero, List.drop_succ_cons, List.drop_zero]
    repeat (first
      | still_step
      | (refine wpStill_step (fun K hK => ?_); go_simp; (with_reducible refine ⟨_, still_eq (HM.out _), hK _ ?_⟩); clear hK K))
    refine wpStill_nil ?_
    go_wp2
    refine ⟨rfl, ?_⟩
    rw [HV.out, ← HI.out.2.1]
    obtain ⟨hi, _, hf, s1⟩ := HI.out
    refine ⟨((KeepsOthers.setCell _ _ _).trans (KeepsOthers.drew _)).from _, (PKp.setCell _ (by omega) 0 _).trans (PKp.drew _), ?_⟩
    refine ⟨hi.below.trans ((PKp.setCell (n₀ := w.heap.size) W (by omega) 0 _).trans (PKp.drew _)).1, by have := hi.size; simp; omega, hi.b0.other (by omega) _, ?_, ?_⟩
    · rw [HST.out]; exact hi.bw.set _
    · rw [HST.out]; exact s1
  case done =>
    rintro D xs W hD hxs hi hK
    have hres : (xs.map (·.1)).foldl (gstep word) 0 = getN word L := by
      rw [hxs, gstep_fold word L 0 0 (by simp)]; simp
    have hbw := hi.bw
    rw [hres] at hbw
    have c2 := hbw.cell
    have hbl := hi.below
    have HR := Lib.hid (hbl.trans (belowK_b (w := w) (Nat.le_refl _) W D _ (.deferred none) (by omega) hK rfl rfl))
    clear hres hi hbw hbl
    gi_wp2
    refine ⟨by simp, .inl ⟨_, _, rfl, run_takeDeferred hK, ?_⟩⟩
    exact ⟨_, by simp [results, Try.f17, go_sem], rfl, HR.out⟩
  case stop =>
    rintro D c pre W hD hpre hx
    exact hx.elim
/-- What Get gives. -/
def getR (size : Int) (word : Nat) (L : List MPiece) : Nat × Int := if cwR size word L = 0 then (getN word L, 0) else (0, cwR size word L)
theorem cwR_ok {size : Int} {word : Nat} {L : List MPiece} (h : cwR size word L = 0) : (maskR size L).2 = 0 ∧ word < 2 ^ size.toNat := by
  unfold cwR at h
  split at h
  · rename_i h1
    split at h
    · rename_i h2; exact ⟨h1, (okB_iff _ _).1 h2⟩
    · cases h
  · rename_i h1; exact absurd h h1
set_option maxRecDepth 100000 in
set_option maxHeartbeats 4000000 in
theorem get_any (size : Int) (word : Nat) (A : Option Addr) (c : Nat) (L : List MPiece) (w : World) (hA : PcsAt w A L) (hok : PcsOk L) (hc : L.length ≤ c) (hcm : c ≤ maxLen) (hword : word < 18446744073709551616) :
    Calls Try.prog 17 #[.int .i64 size, .int .u64 word, .slice A L.length c] w fun e w' => e = .returned (.tuple #[.int .u64 ((getR size word L).1 : Nat), .int .i64 (getR size word L).2]) ∧ Below w.heap.size w w' := by
  by_cases h : cwR size word L = 0
  · have hm := maskR_ok (cwR_ok h).1
    have := callsIn_wide.1 (get_gen size word A c L w hA hok hc hcm h (goodL_of hm.1 hm.2.2.1) hword)
    rwa [show getR size word L = (getN word L, 0) by unfold getR; rw [if_pos h]]
  · have HCW := Lib.hid (fun W (h : PcsAt W A L) => checkWord_any size word A c L W h hok hc hcm)
    have HA2 := Lib.hid (fun o => hA.later ((Below.refl w.heap.size w).alloc (Nat.le_refl _) o))
    rw [show getR size word L = (0, cwR size word L) by unfold getR; rw [if_neg h]]
    have h1 : (cwR size word L != 0) = true := by simpa using h
    generalize cwR size word L = z at *
    clear h hA hok hc hcm hword
    refine (callsIn_wide (n := 3)).1 ?_
    refine callsIn_of_wp_marks Try.func17 rfl trivial ?_ rfl
    simp only [Try.ntmps17, List.size_toArray, List.length_cons, List.length_nil, Nat.reduceAdd, Nat.reduceSub, Array.replicate_succ, Array.replicate_zero, List.push_toArray, List.append_toArray, List.nil_append, List.cons_append]
    gi_wp2_with (refine ⟨trivial, ?_⟩; gi_at_call 38; refine (callsIn_wide.2 (HCW.out _ (HA2.out _))).mono ?_; rintro e w2 ⟨rfl, hb2⟩)
    exact ⟨_, by simp [results, Try.f17, go_sem], rfl, ((Below.refl _ w).alloc (Nat.le_refl _) _).trans (hb2.mono (by simp))⟩
end Go.Proofs.Ytjbapjgagiaefaa
