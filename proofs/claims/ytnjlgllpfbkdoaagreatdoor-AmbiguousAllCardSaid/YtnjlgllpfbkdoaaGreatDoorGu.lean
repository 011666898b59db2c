/- Merged texts: AmbPairs, AmbClashes, AmbClashesAny. -/
import Derived.Test.YtnjlgllpfbkdoaaGreatDoorGq
import Derived.Test.YtnjlgllpfbkdoaaGreatDoorGt
import Derived.Test.YtnjlgllpfbkdoaaGreatDoorGs
import Derived.Lib.QuietBelow
import Derived.BigQuiet
import Derived.Deep.QuietTactic
namespace Go.Proofs.YtnjlgllpfbkdoaaGreatDoor
open Go.RowKit Go.Shelf Go.Deep
set_option linter.unusedVariables false
set_option linter.unusedSimpArgs false
attribute [local go_sem] Oper.semAt_some

/-- The pairs with the first index a and a second one from b on. -/
def rowP (a b n : Nat) : List (Nat × Nat) := (List.range' b (n - b)).map fun j => (a, j)
def restP (a n : Nat) : List (Nat × Nat) := ((List.range' a (n - a)).map fun i => rowP i (i + 1) n).flatten
def pairsN (n : Nat) : List (Nat × Nat) := restP 0 n
theorem rowP_cons {a b n : Nat} (h : b < n) : rowP a b n = (a, b) :: rowP a (b + 1) n := by
  unfold rowP
  rw [show n - b = (n - (b + 1)) + 1 by omega, List.range'_succ]
  rfl
theorem rowP_nil {a n b : Nat} (h : n ≤ b) : rowP a b n = [] := by unfold rowP; rw [show n - b = 0 by omega]; rfl
theorem restP_cons {a n : Nat} (h : a < n) : restP a n = rowP a (a + 1) n ++ restP (a + 1) n := by
  unfold restP
  rw [show n - a = (n - (a + 1)) + 1 by omega, List.range'_succ]
  rfl
theorem restP_nil {a n : Nat} (h : n ≤ a) : restP a n = [] := by unfold restP; rw [show n - a = 0 by omega]; rfl
abbrev CEl (n : Nat) : Type := { x : Nat × Nat // x.1 < x.2 ∧ x.2 < n }
def CEl.encs {n : Nat} (x : CEl n) : Array Value := #[.int .i64 (x.1.1 : Nat), .int .i64 (x.1.2 : Nat)]
/-- What a round keeps: all below n₀, and the box of the number. -/
def CKp (n₀ Bt : Nat) (W W' : World) : Prop := Below n₀ W W' ∧ ∀ c e f, W.heap[Bt]? = some (.cells c e f) → W'.heap[Bt]? = some (.cells c e f)
theorem CKp.refl (n₀ Bt : Nat) (W : World) : CKp n₀ Bt W W := ⟨Below.refl _ _, fun _ _ _ h => h⟩
theorem CKp.trans {n₀ Bt : Nat} {A B C : World} (h : CKp n₀ Bt A B) (k : CKp n₀ Bt B C) : CKp n₀ Bt A C := ⟨h.1.trans k.1, fun c e f hc => k.2 c e f (h.2 c e f hc)⟩

set_option maxRecDepth 100000 in
set_option maxHeartbeats 4000000 in
theorem pairs1_in (F : Fence) (hd : F.depth = none) (n : Nat) (h1 : F.fn 67) (hro : F.round = none)
    (N l Bt n₀ : Nat) (J Jx : List (CEl N) → World → Prop) (hN : N ≤ 1000)
    (hY : ∀ m pre x W, J pre W → pre.length < (pairsN N).length → YieldAt F m Tryz.prog l x.encs W fun e W' =>
      (e = .returned (.bool true) ∧ J (pre ++ [x]) W' ∧ CKp n₀ Bt W W') ∨ (e = .returned (.bool false) ∧ Jx (pre ++ [x]) W'))
    (W : World) (hB : W.heap[Bt]? = some (.cells #[.int .i64 (N : Nat)] 3 (0, 0))) (h0 : J [] W) :
    CallsIn F n Tryz.prog 67 #[.func (.yield l) #[] #[], .pointer (some ⟨Bt, 0, none⟩)] W fun e W' => (∃ v, e = .returned v) ∧
      ((∃ ys : List (CEl N), ys.map (·.1) = pairsN N ∧ J ys W') ∨ (∃ pre : List (CEl N), pre.map (·.1) <+: pairsN N ∧ Jx pre W')) := by
  have HY := Lib.hid hY
  have HB0 := Lib.hid hB
  have c0 := lcell hB
  have HH0 := Lib.hid h0
  have HNN := Lib.hid hN
  clear hY hB h0
  refine callsIn_of_wp Tryz.func67 rfl h1 ?_ hro
  simp only [Tryz.ntmps67, List.size_toArray, List.length_cons, List.length_nil, Nat.reduceAdd, Nat.reduceSub, Array.replicate_succ, Array.replicate_zero, List.push_toArray, List.append_toArray, List.nil_append, List.cons_append]
  gi_wp2
  gi_loopw [6] (fun vi wr => ∃ a : Nat, vi = .int .i64 a ∧ a ≤ N ∧ Hid (CKp n₀ Bt W wr ∧ ∃ q : List (CEl N), q.map (·.1) ++ restP a N = pairsN N ∧ J q wr)) (fun vi _ => N - (intOf vi).toNat)
  case atStart => exact ⟨0, rfl, Nat.zero_le _, Lib.hid ⟨CKp.refl _ _ _, [], rfl, HH0.out⟩⟩
  case round =>
    obtain ⟨a, rfl, ha, HI⟩ := hrel
    by_cases hlt : a < N
    · have HLT := Lib.hid hlt
      have hin : (a : Int) < (N : Int) := by omega
      have hw1 : wrap64 ((a : Int) + 1) = ((a + 1 : Nat) : Int) := by rw [wrap64_small _ (by omega) (by omega)]; simp
      clear c0
      gi_wp2
      gi_loopw [4] (fun vb wq => ∃ b : Nat, vb = .int .i64 b ∧ b ≤ N ∧ a < b ∧ Hid (CKp n₀ Bt W wq ∧ ∃ q : List (CEl N), q.map (·.1) ++ (rowP a b N ++ restP (a + 1) N) = pairsN N ∧ J q wq)) (fun vb _ => N - (intOf vb).toNat)
      case atStart =>
        refine ⟨a + 1, by first | rfl | go_num | (congr 1), by omega, by omega, Lib.hid ⟨HI.out.1, ?_⟩⟩
        obtain ⟨q, hq, hJq⟩ := HI.out.2
        exact ⟨q, by rw [← restP_cons HLT.out]; exact hq, hJq⟩
      case round =>
        obtain ⟨b, rfl, hb, hab, HI2⟩ := hrel
        have c1 := lcell (HI2.out.1.2 _ _ _ HB0.out)
        by_cases hlb : b < N
        · obtain ⟨q, hq, hJq⟩ := HI2.out.2
          rw [rowP_cons hlb] at hq
          have hql : q.length < (pairsN N).length := by
            have e := congrArg List.length hq
            simp at e
            omega
          obtain ⟨x, hx⟩ : ∃ x : CEl N, x.1 = (a, b) := ⟨⟨(a, b), hab, hlb⟩, rfl⟩
          obtain ⟨fn, tmps, assign, body, hyy, hR⟩ := HY.out (n - 1) q x wr hJq hql
          have hxe : x.encs = #[.int .i64 (a : Nat), .int .i64 (b : Nat)] := by unfold CEl.encs; rw [hx]
          rw [hxe] at hyy
          have HX := Lib.hid (And.intro hq hx)
          have HLB := Lib.hid hlb
          have HAB := Lib.hid hab
          have hinb : (b : Int) < (N : Int) := by omega
          have hwb : wrap64 ((b : Int) + 1) = ((b + 1 : Nat) : Int) := by rw [wrap64_small _ (by omega) (by omega)]; simp
          clear hq hJq hql hx hxe
          gi_wp2_with (refine hR.mono ?_; clear hR; rintro e W2 (⟨rfl, hJ2, hk2⟩ | ⟨rfl, hx2⟩))
          · have HJ2 := Lib.hid hJ2
            have HK2 := Lib.hid hk2
            clear hJ2 hk2
            go_roundw
            case rel =>
              obtain ⟨h1, h2⟩ := HX.out
              refine ⟨b + 1, by first | rfl | go_num | (congr 1), by have := HLB.out; omega, by have := HAB.out; omega, Lib.hid ⟨HI2.out.1.trans HK2.out, q ++ [x], ?_, HJ2.out⟩⟩
              rw [← h1, List.map_append, List.map_cons, List.map_nil, h2]
              simp
            case measure => simp only [intOf]; have := HLB.out; omega
          · refine bodyPost_ret (v := .tuple #[]) (by simp [results, Tryz.results67, go_sem]) rfl ?_
            refine ⟨⟨_, rfl⟩, .inr ⟨q ++ [x], ?_, hx2⟩⟩
            obtain ⟨h1, h2⟩ := HX.out
            rw [← h1, List.map_append, List.map_cons, List.map_nil, h2]
            exact ⟨rowP a (b + 1) N ++ restP (a + 1) N, by simp⟩
        · obtain rfl : N = b := by omega
          have HN2 := Lib.hid (show CKp n₀ Bt W wr ∧ ∃ q : List (CEl N), q.map (·.1) ++ restP (a + 1) N = pairsN N ∧ J q wr by
            obtain ⟨q, hq, hJq⟩ := HI2.out.2
            rw [rowP_nil (Nat.le_refl _), List.nil_append] at hq
            exact ⟨HI2.out.1, q, hq, hJq⟩)
          have hnb : ¬ (N : Int) < (N : Int) := by omega
          clear HI2 HI
          gi_wp2
          go_roundw
          case rel => exact ⟨a + 1, by first | rfl | go_num | (congr 1), by have := HLT.out; omega, HN2⟩
          case measure => simp only [intOf]; have := HLT.out; omega
    · obtain rfl : N = a := by omega
      obtain ⟨q, hq, hJq⟩ := HI.out.2
      rw [restP_nil (Nat.le_refl _), List.append_nil] at hq
      have HQ := Lib.hid hq
      have HJQ := Lib.hid hJq
      clear hq hJq
      gi_wp2
      go_end0
      exact ⟨⟨_, rfl⟩, .inl ⟨q, HQ.out, HJQ.out⟩⟩
/-- pairs hands back its iterator: the number lies in a box of its own. -/
theorem pairs_in (F : Fence) (n : Nat) (h1 : F.fn 44) (hro : F.round = none) (N : Nat) (w : World) :
    CallsIn F n Tryz.prog 44 #[.int .i64 N] w fun e w' => e = .returned (.func (.func 67) #[] #[.pointer (some ⟨w.heap.size, 0, none⟩)]) ∧ w' = w.alloc (.cells #[.int .i64 (N : Nat)] 3) := by
  refine callsIn_of_wp Tryz.func44 rfl h1 ?_ hro
  simp only [Tryz.ntmps44, List.size_toArray, List.length_cons, List.length_nil, Nat.reduceAdd, Nat.reduceSub, Array.replicate_succ, Array.replicate_zero, List.push_toArray, List.append_toArray, List.nil_append, List.cons_append]
  gi_wp2
  go_ret
  exact ⟨rfl, rfl⟩
/-- The iterator's contract, as a range over it wants it. -/
theorem pairs_stops (F : Fence) (hd : F.depth = none) (n : Nat) (h1 : F.fn 67) (hro : F.round = none)
    (N Bt n₀ : Nat) (hN : N ≤ 1000) (w : World) (hB : w.heap[Bt]? = some (.cells #[.int .i64 (N : Nat)] 3 (0, 0))) :
    SeqStopsK F n Tryz.prog 67 #[.pointer (some ⟨Bt, 0, none⟩)] (CEl.encs (n := N)) (CKp n₀ Bt) (fun (ys : List (CEl N)) => ys.map (·.1) = pairsN N) (fun (pre : List (CEl N)) => pre.map (·.1) <+: pairsN N) (pairsN N).length w := fun l J Jx W hW hJ _ hY h0 =>
  pairs1_in F hd n h1 hro N l Bt n₀ J Jx hN (fun m pre x W hj hl => YieldAt.anyDepth hd m (hY pre x W hj hl)) W ((hW.block Bt (Array.getElem?_eq_some_iff.1 hB).1).trans hB) h0
end Go.Proofs.YtnjlgllpfbkdoaaGreatDoor
namespace Go.Proofs.YtnjlgllpfbkdoaaGreatDoor
open Go Go.RowKit Go.Instr Go.Sort
set_option linter.unusedVariables false
set_option linter.unusedSimpArgs false
set_option maxRecDepth 100000

/-- A region that draws its order, in a round, and only reads and calls functions that may lay blocks. -/
theorem round_below {P : Program} {Q : Exit → Act → World → Prop} (l n : Nat) {id : Nat} {a : Act} {w : World} {os : List Oper} (hm : P.follows .mixedOrders = true) (hdef : os.toArray.all (fun o => match o.op with | .defer _ => false | _ => true) = true) (hB : Region.lexB .any os.toArray = true)
    (h : wpQuiet P os.toArray (fun w' => ∃ p : Regrown, w' = grow (redrawn w p.d) p.os) (fun a' => ∀ w', (∃ p : Regrown, w' = grow (redrawn w p.d) p.os) → Q .normal a' w') os a) : (Code.region id os.toArray true).wpIn (Fence.wide.inRound l) n P Q a w := by
  simp only [Region.lexB, Bool.and_eq_true] at hB
  refine wpIn_region_any hm (any_round l n hdef _ _ _ _ (wpAny_of_quiet (Q := fun a' => ∀ w', (∃ p : Regrown, w' = grow (redrawn w p.d) p.os) → Q .normal a' w') (fun _ w' hw' h => ⟨rfl, h w' hw'⟩) _ _ _ _ ⟨⟨w.drawn + 1, #[]⟩, by rw [grow_empty]; rfl⟩ ?_))
  have := wpAnyQ_lex (C := fun w' => ∃ p : Regrown, w' = grow (redrawn w p.d) p.os) (md := .any) hB.1 os 0 (Array.replicate os.toArray.size false) a (by simp) (by simpa using hB.2) (by simpa using h)
  simpa using this
/-- The clashes among some pairs. -/
def clL (L : List Shp) (P : List (Nat × Nat)) : List (Nat × Nat × Nat) := P.filterMap fun x => match L[x.1]?, L[x.2]? with | some a, some b => if comB a b then some (x.1, x.2, comW a b) else none | _, _ => none
theorem clL_snoc {L : List Shp} {P : List (Nat × Nat)} {i j : Nat} {a b : Shp} (ha : L[i]? = some a) (hb : L[j]? = some b) : clL L (P ++ [(i, j)]) = clL L P ++ (if comB a b then [(i, j, comW a b)] else []) := by
  unfold clL
  rw [List.filterMap_append]
  congr 1
  simp only [List.filterMap_cons, List.filterMap_nil, ha, hb]
  cases comB a b <;> rfl
theorem clL_len (L : List Shp) (P : List (Nat × Nat)) : (clL L P).length ≤ P.length := List.length_filterMap_le _ _
def clsE (w : World) (cs : List Value) (x : Nat × Nat × Nat) : Prop := cs = [.int .i64 (x.1 : Nat), .int .i64 (x.2.1 : Nat), .int .u64 (x.2.2 : Nat)]
theorem clash_info : (Tryz.prog.info? 105).map (fun i => (i.zero, i.size, i.bytes)) = some (some (.agg #[.int .i64 0, .int .i64 0, .int .u64 0]), 3, 24) := by kernel_rfl
/-- What the loop keeps. -/
structure CInv (B N : Nat) (L : List Shp) (As : Option Addr) (ls cs : Nat) (w5 : World) (pre : List (CEl N)) (W : World) : Prop where
  below : Below B w5 W
  size : B + 3 ≤ W.heap.size
  b5 : Boxed W B 94 (.slice As ls cs)
  bt : Boxed W (B + 2) 3 (.int .i64 (N : Nat))
  own : ∃ (C : List (List Value)) (Af : Option Addr) (nf cf : Nat), Boxed W (B + 1) 46 (.slice Af nf cf) ∧ W.ownsRow (B + 3) 105 3 (.slice Af nf cf) (clL L (pre.map (·.1))).length C.flatten ∧ OwnOf 3 clsE W C (clL L (pre.map (·.1)))
theorem own_kept_row {W W' : World} {base k n : Nat} {e : TypeId} {v : Value} {xs : List Value} {row : Option Nat} (h : W.ownsRow base e k v n xs) (hg : W.grownBy W' row) (hr : ∀ r, row = some r → ∃ o : Obj, W.heap[r]? = some o ∧ o.isCells = false) : W'.ownsRow base e k v n xs := by
  refine h.kept hg ?_
  rcases h.2 with ⟨rfl, _⟩ | ⟨g, cap, cur, rfl, _, hh, _⟩
  · exact .inl rfl
  · refine .inr fun e1 => ?_
    obtain ⟨o, ho, hc⟩ := hr g e1.symm
    rw [hh] at ho
    cases ho
    simp [Obj.isCells] at hc
theorem CInv.own_from {B N : Nat} {L : List Shp} {As : Option Addr} {ls cs : Nat} {w5 : World} {C : Nat} (hC : B + 3 ≤ C) (hw : B = w5.heap.size) : OwnFrom C (fun (pre : List (CEl N)) W => CInv B N L As ls cs w5 pre W) := fun s A B' row hs hg hr => by
  have hne : ∀ k : Nat, k < B + 3 → some k ≠ row := fun k hk e => by have := (hr k e.symm).1; omega
  obtain ⟨D, Af, nf, cf, o1, o2, o3⟩ := hs.own
  exact ⟨hs.below.grown hg (by have := hs.size; omega) (fun k e => by have := (hr k e).1; omega), Nat.le_trans hs.size hg.size, hs.b5.kept hg (hne _ (by omega)), hs.bt.kept hg (hne _ (by omega)), D, Af, nf, cf, o1.kept hg (hne _ (by omega)), own_kept_row o2 hg (fun r e => (hr r e).2), o3.kept fun cs x h => h⟩
theorem three_cells (W : World) (p q r : Value) (t : TypeId) : ∀ B, W.heap.size = B → ∀ (j : Nat) (x : Value), ([p, q, r] : List Value)[j]? = some x → (W.alloc (.cells #[p, q, r] t)).cell? ((⟨B, 0, none⟩ : Addr).add j) = some x := by
  rintro _ rfl j x hx
  match j, hx with
  | 0, hx => obtain rfl : p = x := by simpa using hx
             exact cell_new_at rfl rfl
  | 1, hx => obtain rfl : q = x := by simpa using hx
             exact cell_new_at rfl rfl
  | 2, hx => obtain rfl : r = x := by simpa using hx
             exact cell_new_at rfl rfl
  | j + 3, hx => simp at hx
end Go.Proofs.YtnjlgllpfbkdoaaGreatDoor
namespace Go.Proofs.YtnjlgllpfbkdoaaGreatDoor
open Go.RowKit Go.Shelf Go.Deep Go.Instr Go.Sort
set_option linter.unusedVariables false
set_option linter.unusedSimpArgs false
set_option maxRecDepth 100000
attribute [local go_sem] Oper.semAt_some

theorem mtch_lt {k m n : Nat} (h : k < 2 ^ n) (hk : k < 18446744073709551616) (hm : m < 18446744073709551616) (h0 : m &&& (18446744073709551615 - k) = 0) : m < 2 ^ n := by
  refine Nat.lt_pow_two_of_testBit m fun j hj => ?_
  cases hb : m.testBit j with
  | false => rfl
  | true =>
    have h64 : j < 64 := by
      rcases Nat.lt_or_ge j 64 with h | h
      · exact h
      · have h1 : m < 2 ^ j := Nat.lt_of_lt_of_le hm (Nat.pow_le_pow_right (n := 2) (i := 64) (by omega) h)
        rw [Nat.testBit_lt_two_pow h1] at hb
        cases hb
    have h2 := congrArg (fun z => z.testBit j) h0
    simp only [Nat.testBit_and, Nat.zero_testBit, hb, Bool.true_and] at h2
    rw [show 18446744073709551615 - k = 2 ^ 64 - (k + 1) by omega, Nat.testBit_two_pow_sub_succ (by omega)] at h2
    have h3 : k.testBit j = false := Nat.testBit_lt_two_pow (Nat.lt_of_lt_of_le h (Nat.pow_le_pow_right (n := 2) (by omega) hj))
    simp [h3, h64] at h2
noncomputable def clashL (m : Mach) : List (Nat × Nat × Nat) := if chkR m = 0 then clL (m.instrs.map (shapeR m)) (pairsN m.instrs.length) else []
theorem pairsN_len (n : Nat) (h : n ≤ 64) : (pairsN n).length ≤ 4096 := by
  have h1 : ∀ a, (restP a n).length ≤ (n - a) * 64 := by
    intro a
    unfold restP
    have : ∀ (l : List Nat), ((l.map fun i => rowP i (i + 1) n).flatten).length ≤ l.length * 64 := by
      intro l
      induction l with
      | nil => simp
      | cons x l ih =>
        rw [List.map_cons, List.flatten_cons, List.length_append, List.length_cons, Nat.add_mul]
        have h2 : (rowP x (x + 1) n).length ≤ 64 := by unfold rowP; rw [List.length_map, List.length_range']; omega
        omega
    have h3 := this (List.range' a (n - a))
    rw [List.length_range'] at h3
    exact h3
  have := h1 0
  unfold pairsN
  have h4 : (n - 0) * 64 ≤ 64 * 64 := Nat.mul_le_mul_right 64 (by omega)
  omega
theorem own_block_cells {w : World} {base k n : Nat} {e : TypeId} {v : Value} {xs : List Value} (h : w.ownsRow base e k v n xs) {g : Nat} (hg : v.ownBlock = some g) : ∃ c fz, w.heap[g]? = some (.cells c e fz) := by
  rcases h.2 with ⟨rfl, _⟩ | ⟨g', cap, cur, rfl, _, hh, _⟩
  · cases hg
  · obtain rfl : g' = g := Option.some.inj hg
    exact ⟨_, _, hh⟩
set_option warningAsError false in
set_option maxHeartbeats 4000000 in
theorem clashes_any (w : World) (v : Value) (m : Mach) (hm : MachV w v m) (hT : ShapesAt w) (hef : ∀ x ∈ m.instrs, ∀ f ∈ x.effs, EffOk f) :
    Calls Tryz.prog 18 #[v] w fun e w' => ∃ sv, e = .returned (.tuple #[sv, .int .i64 (chkR m)]) ∧ RowsAt 3 clsE w' sv (clashL m) ∧ Below w.heap.size w w' := by
  have hm' := hm
  obtain ⟨cs0, rfl, sr, sb, su, si, hcs, h1, h2, h3, hR, hB, hU, hI⟩ := hm
  obtain rfl : cs0 = #[.string m.name, .int .i64 m.word, .int .i64 m.address, sr, sb, su, si] := by cases cs0; simp_all
  obtain ⟨W1, hW1⟩ : ∃ W1, W1 = w.alloc (.cells #[.string m.name, .int .i64 m.word, .int .i64 m.address, sr, sb, su, si] 27) := ⟨_, rfl⟩
  have hb1 : Below w.heap.size w W1 := by rw [hW1]; exact (Below.refl _ _).alloc (Nat.le_refl _) _
  have hl1 : w.heap.size < W1.heap.size := by rw [hW1]; simp
  have hblk1 : W1.heap[w.heap.size]? = some (.cells #[.string m.name, .int .i64 m.word, .int .i64 m.address, sr, sb, su, si] 27) := by rw [hW1]; exact heap_alloc_new _ _
  have HQ := Lib.hid (show ∀ X, Below W1.heap.size W1 X → X.cell? ⟨w.heap.size, 0, none⟩ = some (.string m.name) ∧ X.cell? ⟨w.heap.size, 1, none⟩ = some (.int .i64 m.word) ∧ X.cell? ⟨w.heap.size, 2, none⟩ = some (.int .i64 m.address) ∧ X.cell? ⟨w.heap.size, 3, none⟩ = some sr ∧ X.cell? ⟨w.heap.size, 4, none⟩ = some sb ∧ X.cell? ⟨w.heap.size, 5, none⟩ = some su ∧ X.cell? ⟨w.heap.size, 6, none⟩ = some si from fun X hX => by
    have e1 := (hX.block _ hl1).trans hblk1
    exact ⟨cell_of e1 rfl, cell_of e1 rfl, cell_of e1 rfl, cell_of e1 rfl, cell_of e1 rfl, cell_of e1 rfl, cell_of e1 rfl⟩)
  have HGR := Lib.hid (show ∀ X, Below W1.heap.size W1 X → Below w.heap.size w X from fun X hX => hb1.trans (hX.mono hb1.size))
  obtain ⟨ce, hce⟩ : ∃ y, chkR m = y := ⟨_, rfl⟩
  have hMV : ∀ X, Below W1.heap.size W1 X → MachV X (.agg #[.string m.name, .int .i64 m.word, .int .i64 m.address, sr, sb, su, si]) m := fun X hX => hm'.kept (HGR.out X hX)
  have HCI := Lib.hid ((amCheck_any W1 (.agg #[.string m.name, .int .i64 m.word, .int .i64 m.address, sr, sb, su, si]) m (hMV _ (Below.refl _ _)) (hT.below hb1) hef (.slice none 0 0) [] rows_nil (by simp)).mono (R' := fun e w' => e = .returned (.int .i64 ce) ∧ Below W1.heap.size W1 w') fun e w' ⟨h1, h2⟩ => ⟨by rw [h1, amErr_nil, hce], h2⟩)
  rw [hW1] at HCI
  have HW1 := Lib.hid hW1
  by_cases hk : ce = 0
  · subst hk
    have hwd := word_of hce
    obtain ⟨L, hL⟩ : ∃ y, m.instrs.map (shapeR m) = y := ⟨_, rfl⟩
    obtain ⟨N, hN⟩ : ∃ y, L.length = y := ⟨_, rfl⟩
    have hmn : m.instrs.length = N := by rw [← hN, ← hL, List.length_map]
    have hcl : clashL m = clL L (pairsN N) := by unfold clashL; rw [if_pos hce, hL, hmn]
    have hN64 : N ≤ 64 := by rw [← hmn]; exact lim_ins hce
    have hmasks : ∀ i ∈ m.instrs, i.mask < 18446744073709551616 ∧ i.mtch < 18446744073709551616 := fun i hi => by
      obtain ⟨k, hk⟩ := List.getElem?_of_mem hi
      obtain ⟨_, _, _, _, _, _, hall⟩ := hI
      obtain ⟨_, _, _, _, _, _, _, hE⟩ := hall k i hk
      obtain ⟨_, _, _, _, e1, e2, _⟩ := hE
      exact ⟨e1, e2⟩
    have HLS := Lib.hid (show ∀ s ∈ L, ShpOk s ∧ s.size = 8 * m.word ∧ s.mtch < 2 ^ (8 * m.word).toNat from fun s hs => by
      rw [← hL] at hs
      obtain ⟨i, hi, rfl⟩ := List.mem_map.1 hs
      refine ⟨shpOk_of hce hi, rfl, ?_⟩
      obtain ⟨_, _, h3, h4, _⟩ := ins_good hce hi
      obtain ⟨hmk, hmt⟩ := hmasks i hi
      exact mtch_lt h3 hmk hmt h4)
    have HSH := Lib.hid (show ∀ X, Below W1.heap.size W1 X → Calls Tryz.prog 39 #[.agg #[.string m.name, .int .i64 m.word, .int .i64 m.address, sr, sb, su, si]] X fun e w' => ∃ (As : Option Addr) (cs : Nat), e = .returned (.slice As N cs) ∧ RowsAt 4 shpE w' (.slice As N cs) L ∧ Below W1.heap.size W1 w' from fun X hX => (shapes_any X _ m (hMV X hX) (fun i hi => insOk_of hce hi) (lim_ins hce)).mono fun e w' ⟨sv, h1, h2, h3⟩ => by
      rw [hL] at h2
      obtain ⟨As, cs, e1, _⟩ := id h2
      rw [hN] at e1
      subst e1
      exact ⟨As, cs, h1, h2, hX.trans (h3.mono hX.size)⟩)
    have HPI := Lib.hid (fun n W => pairs_in Fence.wide n trivial rfl N W)
    have HN64 := Lib.hid hN64
    have HNL := Lib.hid hN
    rw [hce, hcl]
    clear hT hef hMV hm' hcs h1 h2 h3 hR hB hU hI hW1 hb1 hl1 hblk1 hce hL hN hmn hcl hwd
    refine callsIn_wide.1 (show CallsIn Fence.wide 3 _ _ _ _ _ from ?_)
    refine callsIn_of_wp_marks Tryz.func18 rfl trivial ?_ rfl
    simp only [Tryz.ntmps18, List.size_toArray, List.length_cons, List.length_nil, Nat.reduceAdd, Nat.reduceSub, Array.replicate_succ, Array.replicate_zero, List.push_toArray, List.append_toArray, List.nil_append, List.cons_append]
    gi_wp2_with (first
      | (refine ⟨trivial, ?_⟩; gi_at_call 30; refine (callsIn_wide.2 HCI.out).mono ?_; rintro e w3 ⟨rfl, hb3⟩; rw [← HW1.out] at hb3; obtain ⟨p0, p1, p2, p3, p4, p5, p6⟩ := HQ.out _ hb3)
      | (refine ⟨trivial, ?_⟩; gi_at_call 39; refine (callsIn_wide.2 (HSH.out _ (by assumption))).mono ?_; rintro e w5 ⟨As, cs, rfl, hr5, hb5⟩)
      | (refine ⟨trivial, ?_⟩; gi_at_call 44; refine (HPI.out _ _).mono ?_; rintro e w' ⟨rfl, rfl⟩))
    obtain ⟨B, hB⟩ : ∃ B, w5.heap.size = B := ⟨_, rfl⟩
    obtain ⟨W0, hW0⟩ : ∃ W0, W0 = ((w5.alloc (.cells #[.slice As N cs] 94)).alloc (.cells #[.slice none 0 0] 46)).alloc (.cells #[.int .i64 (N : Nat)] 3) := ⟨_, rfl⟩
    have hsz : W0.heap.size = B + 3 := by rw [hW0]; simp [hB]
    have hbel : Below B w5 W0 := by
      rw [hW0, ← hB]
      exact (((Below.refl _ w5).alloc (Nat.le_refl _) _).alloc (by simp) _).alloc (by simp; omega) _
    have hx5 : Boxed W0 B 94 (.slice As N cs) := by rw [hW0, ← hB]; exact ((Boxed.new w5 _ _).alloc _).alloc _
    have hx6 : Boxed W0 (B + 1) 46 (.slice none 0 0) := by
      rw [hW0, ← hB]
      have h1 : Boxed ((w5.alloc (.cells #[.slice As N cs] 94)).alloc (.cells #[.slice none 0 0] 46)) (w5.alloc (.cells #[.slice As N cs] 94)).heap.size 46 (.slice none 0 0) := Boxed.new _ _ _
      rw [World.size_alloc] at h1
      exact h1.alloc _
    have hxt : Boxed W0 (B + 2) 3 (.int .i64 (N : Nat)) := by
      rw [hW0, ← hB]
      have h1 := Boxed.new ((w5.alloc (.cells #[.slice As N cs] 94)).alloc (.cells #[.slice none 0 0] 46)) 3 (.int .i64 (N : Nat))
      rw [World.size_alloc, World.size_alloc] at h1
      exact h1
    rw [hB, show B + 1 + 1 = B + 2 from rfl, ← hW0]
    clear hW0
    have hinv : CInv B N L As N cs w5 [] W0 := ⟨hbel, by omega, hx5, hxt, [], none, 0, 0, hx6, World.ownsRow_nil _ _ _ _, OwnOf.nil⟩
    obtain ⟨i0, hi0, hz0, hz1, hz2⟩ := info_parts clash_info
    have HI0 := Lib.hid hi0
    have HZ0 := Lib.hid hz0
    have HZ1 := Lib.hid hz1
    have HZ2 := Lib.hid hz2
    have HR5 := Lib.hid hr5
    have HB5 := Lib.hid hb5
    have HBB := Lib.hid hB
    clear hi0 hz0 hz1 hz2 hr5 hb5 p0 p1 p2 p3 p4 p5 p6 hbel hx5 hx6
    refine wpIn_rangeFunc_ownH (F := Fence.wide) rfl (by omega) (gf := 67) (lb := #[.pointer (some ⟨B + 2, 0, none⟩)]) rfl trivial (enters_of Tryz.func67 (by kernel_rfl) rfl)
      (pairs_stops Fence.wide rfl (3 - 1) trivial rfl N (B + 2) B (by have := HN64.out; omega) W0 hxt)
      (fun h k => h.trans k) (fun W l o o' hl h ho hw => ⟨belowK_b (w := W0) (by omega) W l o o' hl h ho hw, fun c e f hc => by
        by_cases hkl : B + 2 = l
        · omega
        · exact (World.putObj_heap_other hkl).trans hc⟩) (Below.refl _ _) (fun _ => rfl)
      (fun pre W => CInv B N L As N cs w5 pre W) (fun _ _ _ => False) (CInv.own_from (by omega) hB.symm) (fun _ _ _ _ _ hs _ _ => hs) hinv
      (fun (x : CEl N) a' W => a' = { tmps := #[.agg #[.string m.name, .int .i64 m.word, .int .i64 m.address, sr, sb, su, si], .pointer (some ⟨w.heap.size, 0, none⟩), .slice none 0 0, .int .i64 0, .int .i64 0, .pointer (some ⟨B, 0, none⟩), .pointer (some ⟨B + 1, 0, none⟩), .int .i64 (x.1.1 : Nat), .int .i64 (x.1.2 : Nat), undef, undef, .agg #[.string m.name, .int .i64 m.word, .int .i64 m.address, sr, sb, su, si], .int .i64 0, .int .i64 0, .bool false, undef, .agg #[.string m.name, .int .i64 m.word, .int .i64 m.address, sr, sb, su, si], .slice As N cs, .slice As N cs, .int .i64 (N : Nat), .func (.func 67) #[] #[.pointer (some ⟨B + 2, 0, none⟩)], .int .i64 (x.1.1 : Nat), .int .i64 (x.1.2 : Nat), undef, undef, undef, undef, undef, undef, undef, undef, undef, undef, undef, undef, undef, undef, undef, undef, undef, undef, undef, undef, undef], defers := [] })
      (fun x a' _ X Y row hs hg hr => hs)
      ?assign ?body ?done ?stop
    case assign =>
      rintro l pre x W K hi hK
      simp only [CEl.encs] at hK ⊢
      gi_wp2
      exact hK _ _ (KeepsFrom.refl _ _) (CKp.refl _ _ _) hi rfl
    case body =>
      rintro l pre x a' W hl _ hi rfl hlt
      obtain ⟨hij, hjN⟩ := x.2
      obtain ⟨i, hxi⟩ : ∃ z, x.1.1 = z := ⟨_, rfl⟩
      obtain ⟨j, hxj⟩ : ∃ z, x.1.2 = z := ⟨_, rfl⟩
      have hx12 : x.1 = (i, j) := by rw [← hxi, ← hxj]
      rw [hxi] at hij
      rw [hxj] at hij hjN
      rw [hxi, hxj]
      obtain ⟨a, ha⟩ : ∃ z, L[i]? = some z := ⟨_, List.getElem?_eq_getElem (by rw [HNL.out]; omega)⟩
      obtain ⟨b, hb⟩ : ∃ z, L[j]? = some z := ⟨_, List.getElem?_eq_getElem (by rw [HNL.out]; omega)⟩
      have hbw : Below w5.heap.size w5 W := by rw [HBB.out]; exact hi.below
      obtain ⟨A', c', e1, _, _, _, hall⟩ := HR5.out.kept (fun cs x hx => shpE.kept hx hbw) hbw
      obtain ⟨g, o, ca, e2, hg, hcla, hca, hEa⟩ := hall i a ha
      obtain ⟨g', o', cb, e2', hg', hclb, hcb, hEb⟩ := hall j b hb
      obtain ⟨rfl, rfl⟩ : As = A' ∧ cs = c' := by cases e1; exact ⟨rfl, rfl⟩
      rw [e2] at e2'
      obtain ⟨rfl, rfl⟩ : g = g' ∧ o = o' := by cases e2'; exact ⟨rfl, rfl⟩
      subst e2
      obtain ⟨sa, rfl, ha1, ha2, ha3, ha4⟩ := hEa
      obtain ⟨sb', rfl, hb1, hb2, hb3, hb4⟩ := hEb
      have hva : ShpV W (.agg #[.int .i64 a.size, .int .u64 (a.mtch : Nat), .int .u64 (a.free : Nat), sa]) a := ⟨sa, rfl, ha1, ha2, ha3, ha4⟩
      have hvb : ShpV W (.agg #[.int .i64 b.size, .int .u64 (b.mtch : Nat), .int .u64 (b.free : Nat), sb']) b := ⟨sb', rfl, hb1, hb2, hb3, hb4⟩
      have c5 := hi.b5.cell
      have p0 : W.cell? ⟨g, o + i * 4, none⟩ = some (.int .i64 a.size) := by simpa using hca 0 _ rfl
      have p1 : W.cell? ⟨g, o + i * 4 + 1, none⟩ = some (.int .u64 (a.mtch : Nat)) := hca 1 _ rfl
      have p2 : W.cell? ⟨g, o + i * 4 + 2, none⟩ = some (.int .u64 (a.free : Nat)) := hca 2 _ rfl
      have p3 : W.cell? ⟨g, o + i * 4 + 3, none⟩ = some sa := hca 3 _ rfl
      have q0 : W.cell? ⟨g, o + j * 4, none⟩ = some (.int .i64 b.size) := by simpa using hcb 0 _ rfl
      have q1 : W.cell? ⟨g, o + j * 4 + 1, none⟩ = some (.int .u64 (b.mtch : Nat)) := hcb 1 _ rfl
      have q2 : W.cell? ⟨g, o + j * 4 + 2, none⟩ = some (.int .u64 (b.free : Nat)) := hcb 2 _ rfl
      have q3 : W.cell? ⟨g, o + j * 4 + 3, none⟩ = some sb' := hcb 3 _ rfl
      have K5 := fun d os => cell_regrown c5 d os
      have P0 := fun d os => cell_regrown p0 d os
      have P1 := fun d os => cell_regrown p1 d os
      have P2 := fun d os => cell_regrown p2 d os
      have P3 := fun d os => cell_regrown p3 d os
      have Q0 := fun d os => cell_regrown q0 d os
      have Q1 := fun d os => cell_regrown q1 d os
      have Q2 := fun d os => cell_regrown q2 d os
      have Q3 := fun d os => cell_regrown q3 d os
      obtain ⟨sa1, sa2, sa3⟩ := HLS.out a (List.mem_of_getElem? ha)
      obtain ⟨sb1, sb2, sb3⟩ := HLS.out b (List.mem_of_getElem? hb)
      have hlt2 : comW a b < 2 ^ (8 * m.word).toNat := Nat.or_lt_two_pow sa3 sb3
      obtain ⟨q, hq⟩ : ∃ z, comB a b = z := ⟨_, rfl⟩
      obtain ⟨wd, hwd⟩ : ∃ z, comR a b = z := ⟨_, rfl⟩
      have IC := Lib.hid (show ∀ d os, Calls Tryz.prog 42 #[.agg #[.int .i64 a.size, .int .u64 (a.mtch : Nat), .int .u64 (a.free : Nat), sa], .agg #[.int .i64 b.size, .int .u64 (b.mtch : Nat), .int .u64 (b.free : Nat), sb']] (grow (redrawn W d) os) fun e w'' => e = .returned (.tuple #[.int .u64 (wd : Nat), .bool q]) ∧ ∃ p : Regrown, w'' = grow (redrawn W p.d) p.os from fun d os => Calls.regrown_of (by
        rw [← hq, ← hwd]
        exact common_any _ _ _ a b (hva.kept (below_regrown W d os)) (hvb.kept (below_regrown W d os)) sa1 sb1 (by rw [sa2]; exact hlt2) (by rw [sb2]; exact hlt2)))
      have hsn : clL L ((pre ++ [x]).map (·.1)) = clL L (pre.map (·.1)) ++ (if q then [(i, j, comW a b)] else []) := by
        rw [List.map_append, List.map_cons, List.map_nil, hx12, clL_snoc ha hb, hq]
      have hin : (i : Int) < (N : Int) := by omega
      have hjn : (j : Int) < (N : Int) := by omega
      have hi0' : (0 : Int) ≤ (i : Int) := by omega
      have hj0' : (0 : Int) ≤ (j : Int) := by omega
      have HI := Lib.hid hi
      have HSN := Lib.hid hsn
      have HWD := Lib.hid (show q = true → wd = comW a b from fun h => by rw [← hwd]; unfold comR; rw [hq, h]; rfl)
      have HLP := Lib.hid hlt
      clear hi hsn hwd hq hlt2 sa1 sa2 sa3 sb1 sb2 sb3 hva hvb ha1 ha2 ha3 ha4 hb1 hb2 hb3 hb4 hall e1 e2' hca hcb hcla hclb hg hg' hbw ha hb hx12 hxi hxj hij hjN hlt p0 p1 p2 p3 q0 q1 q2 q3 c5
      gi_wp2
      refine round_below l _ (by kernel_rfl) (by kernel_rfl) (by kernel_rfl) ?_
      repeat (first | go_big_quiet_step ((with_reducible exact IC.out _ _)) | quiet_step ((with_reducible exact IC.out _ _)))
      refine wpQuiet_nil ?_
      intro G hG
      have hbG : Below W.heap.size W G := by obtain ⟨p, rfl⟩ := hG; exact below_regrown _ _ _
      clear hG K5 P0 P1 P2 P3 Q0 Q1 Q2 Q3
      have hI := HI.out
      obtain ⟨C, Af, nf, cf, o1, o2, o3⟩ := hI.own
      have hBs : B + 3 ≤ W.heap.size := hI.size
      have g5 : Boxed G B 94 (.slice (some ⟨g, o, none⟩) N cs) := (hbG.block _ (by omega)).trans hI.b5
      have gt : Boxed G (B + 2) 3 (.int .i64 (N : Nat)) := (hbG.block _ (by omega)).trans hI.bt
      have g6 : Boxed G (B + 1) 46 (.slice Af nf cf) := (hbG.block _ (by omega)).trans o1
      have g7 := own_kept o2 hbG
      have gb : Below B w5 G := hI.below.trans (hbG.mono (by omega))
      have gk : CKp B (B + 2) W G := ⟨hbG.mono (by omega), fun c e f hc => (hbG.block _ (by omega)).trans hc⟩
      have gf : KeepsFrom (B + 3) W G := (keepsOthers_below hbG).from _
      have gs : B + 3 ≤ G.heap.size := by have := hbG.size; omega
      have c6 := g6.cell
      have f6 := g6.frozen
      have HG := Lib.hid (And.intro g5 (And.intro gt (And.intro g6 (And.intro g7 (And.intro gb (And.intro gk (And.intro gf (And.intro gs o3))))))))
      clear hI o1 o2 o3 hBs g5 gt g6 g7 gb gk gf gs hbG
      cases q with
      | false =>
        gi_wp2
        obtain ⟨g5, gt, g6, g7, gb, gk, gf, gs, o3⟩ := HG.out
        have hsn := HSN.out
        simp only [Bool.false_eq_true, if_false, List.append_nil] at hsn
        exact ⟨gf, gk, gb, gs, g5, gt, C, Af, nf, cf, g6, by rw [hsn]; exact g7, by rw [hsn]; exact o3.kept fun cs x h => h⟩
      | true =>
        gi_wp2_with (gi_at_builtin; refine Hid.out ?_)
        refine Lib.hid ?_
        obtain ⟨g5, gt, g6, g7, gb, gk, gf, gs, o3⟩ := HG.out
        have hcl := clL_len L (pre.map (·.1))
        have hpl := pairsN_len N HN64.out
        rw [List.length_map] at hcl
        have hlp := HLP.out
        refine wpListIn_append_own _ rfl _ _ 46 rfl (B + 3) 105 i0 (.agg #[.int .i64 0, .int .i64 0, .int .u64 0]) 3 24 Tryz.underlying46 HI0.out HZ0.out HZ1.out HZ2.out rfl (by decide) _ (clL L (pre.map (·.1))).length C.flatten rfl (g7.alloc _) ⟨_, 0, none⟩ 1 1 [.int .i64 (i : Nat), .int .i64 (j : Nat), .int .u64 (wd : Nat)] rfl rfl (three_cells _ _ _ _ _ _ rfl) (by intro u hu; simp at hu; rcases hu with rfl | rfl | rfl <;> rfl) (by unfold maxLen; omega) (by omega) (by simp; omega) ?_
        intro v' w9 hown' hgrow _
        obtain ⟨g9, c9, rfl⟩ := ownsRow_succ hown'
        have hb9 : Below (B + 3) G w9 := ((Below.refl _ _).alloc gs _).grown hgrow (by simp; omega) (fun r hr => (g7.lt r hr).1)
        have k6 : Boxed w9 (B + 1) 46 (.slice Af nf cf) := (hb9.block _ (by omega)).trans g6
        have kf : KeepsFrom (B + 3) W w9 := (gf.trans ((KeepsOthers.alloc _ _).from _)).trans ((KeepsOthers.of_grownBy hgrow (fun k o hk ho => by
          obtain ⟨c, fz, h1⟩ := own_block_cells (g7.alloc (.cells #[.int .i64 (i : Nat), .int .i64 (j : Nat), .int .u64 (wd : Nat)] 105)) hk
          rw [h1] at ho
          cases ho
          rfl)).from _)
        have c9' := k6.cell
        have f9 := k6.frozen
        have HK := Lib.hid (And.intro hb9 (And.intro k6 (And.intro kf hown')))
        clear g5 gt g6 g7 gb gk gf gs o3 hcl hpl hlp hown' hgrow hb9 k6 kf
        gi_wp2
        obtain ⟨g5, gt, g6, g7, gb, gk, gf, gs, o3⟩ := HG.out
        obtain ⟨hb9, k6, kf, hown'⟩ := HK.out
        have hsn := HSN.out
        simp only [if_true] at hsn
        refine ⟨by rw [hsz]; exact kf.trans ((KeepsOthers.setCell _ _ _).from _), ?_, ?_, ?_, ?_, ?_, C ++ [[.int .i64 (i : Nat), .int .i64 (j : Nat), .int .u64 (wd : Nat)]], _, _, _, k6.set _, ?_, ?_⟩
        · refine ⟨(gk.1.trans (hb9.mono (by omega))).setCell (p := ⟨B + 1, 0, none⟩) (by show B ≤ B + 1; omega) _, fun c e f hc => ?_⟩
          exact (Below.heap_setCell _ _ _ _ (by show B + 2 ≠ B + 1; omega)).trans ((hb9.block _ (by omega)).trans (gk.2 c e f hc))
        · exact (gb.trans (hb9.mono (by omega))).setCell (p := ⟨B + 1, 0, none⟩) (by show B ≤ B + 1; omega) _
        · have := hb9.size; simp [World.setCell]; omega
        · exact (Below.heap_setCell _ _ _ _ (by show B ≠ B + 1; omega)).trans ((hb9.block _ (by omega)).trans g5)
        · exact (Below.heap_setCell _ _ _ _ (by show B + 2 ≠ B + 1; omega)).trans ((hb9.block _ (by omega)).trans gt)
        · rw [hsn, List.flatten_append, List.length_append]
          refine ownsRow_setCell_below ?_ (by show B + 1 < B + 3; omega) _
          simpa using hown'
        · rw [hsn]
          refine (o3.kept fun cs x h => h).snoc rfl ?_
          rw [HWD.out (by first | rfl | trivial)]
          rfl
    case done =>
      rintro D xs W hD hxs hi hK
      obtain ⟨C, Af, nf, cf, o1, o2, o3⟩ := hi.own
      rw [hxs] at o2 o3
      have c6 := o1.cell
      have hlen := clL_len L (pairsN N)
      have hpl := pairsN_len N HN64.out
      have hown := ownsRow_putObj o2 (.deferred none) hK rfl
      have HF := Lib.hid (rows_own hown (o3.kept (w' := W.putObj D (.deferred none)) fun cs x h => h) (by unfold maxLen; omega))
      have HBF := Lib.hid (show Below w.heap.size w (W.putObj D (.deferred none)) from by
        have h1 : Below B W (W.putObj D (.deferred none)) := belowK_b (w := W0) (by omega) W D _ (.deferred none) (by omega) hK rfl rfl
        have h2 := HGR.out _ (HB5.out.trans ((hi.below.trans h1).mono (by rw [← HBB.out]; exact HB5.out.size)))
        exact h2)
      clear hi o1 o2 o3 hxs hlen hpl hown
      gi_wp2
      refine ⟨by simp, .inl ⟨_, _, rfl, run_takeDeferred hK, ?_⟩⟩
      exact ⟨_, by simp [results, Tryz.f18, go_sem], ⟨_, rfl, HF.out, HBF.out⟩⟩
    case stop =>
      rintro D c pre W hD hpre hx
      exact hx.elim
  · have hhl : clashL m = [] := by unfold clashL; rw [if_neg (by rw [hce]; exact hk)]
    have g : (ce != 0) = true := by simp [hk]
    rw [hce, hhl]
    clear hhl hce hT hef hMV hm' hcs h1 h2 h3 hR hB hU hI hW1 hb1 hl1 hblk1 hk
    go_enter Tryz.func18, Tryz.ntmps18
    go_wp2_with (go_at_call 30; (with_reducible refine HCI.out.mono ?_); rintro e w3 ⟨rfl, hb3⟩; rw [← HW1.out] at hb3; obtain ⟨p0, p1, p2, p3, p4, p5, p6⟩ := HQ.out _ hb3)
    exact bodyPost_ret (v := .tuple #[.slice none 0 0, .int .i64 ce]) (by simp [results, Tryz.results18, go_sem]) rfl ⟨_, rfl, rows_nil, HGR.out _ (by assumption)⟩
end Go.Proofs.YtnjlgllpfbkdoaaGreatDoor
