/- The iterator over lines of package lexer. -/
import Derived.Test.YtejjbbgompddeaaDoorLexCopied
import Derived.Test.YtejjbbgompddeaaDoorLexOpen
import Derived.RangeFuncKeeps
import Derived.RangeFuncNested
import Derived.RangeFuncBound
import Derived.RangeFuncLeaves
import Derived.RangeFuncBox
import Derived.Shelf.Abstract
import Derived.OwnWalkIn
import Derived.TacticsInMore
import Derived.LoopIn
import Derived.Laws.EntriesVeiled
import Derived.Maps.AppendAt
namespace Go.Proofs.YtejjbbgompddeaaDoor
open Go.RowKit Go.Shelf Go.Deep
set_option linter.unusedVariables false
set_option linter.unusedSimpArgs false
attribute [local go_sem] Oper.semAt_some

theorem RoundIn.anyDepth {F : Fence} (hd : F.depth = none) {m m' : Nat} {P : Program} {l : Nat} {f : FuncId} {tmps : Array Value} {assign body : Code} {w : World} {R : Ending → World → Prop}
    (h : RoundIn F m P l f tmps assign body w R) : RoundIn F m' P l f tmps assign body w R := ⟨h.1, fun c cs _ => h.2 c cs (fun d h => by rw [hd] at h; cases h)⟩
theorem YieldAt.anyDepth {F : Fence} (hd : F.depth = none) {m : Nat} (m' : Nat) {P : Program} {l : Nat} {args : Array Value} {W : World} {R : Ending → World → Prop} (h : YieldAt F m P l args W R) : YieldAt F m' P l args W R := by
  obtain ⟨fn, tmps, assign, body, hy, hR⟩ := h
  exact ⟨fn, tmps, assign, body, hy, RoundIn.anyDepth hd hR⟩

/-- The lines of tokens: those that have begun, and the rest. -/
def lnF : List Raw → List Raw → List (List Raw)
  | cur, [] => [cur]
  | cur, y :: L => if y.k = 5 then cur :: lnF [] L else lnF (cur ++ [y]) L
theorem lnF_len : ∀ (L cur : List Raw), 1 ≤ (lnF cur L).length ∧ (lnF cur L).length ≤ L.length + 1
  | [], cur => ⟨Nat.le_refl _, Nat.le_refl _⟩
  | y :: L, cur => by
    unfold lnF
    split
    · have := lnF_len L []
      simp only [List.length_cons]; omega
    · have := lnF_len L (cur ++ [y])
      simp only [List.length_cons]; omega
/-- Tokens in memory below a bound. -/
def RawIn (w : World) (n : Nat) (A : Option Addr) (L : List Raw) : Prop := ∀ i y, L[i]? = some y → ∃ g o, A = some ⟨g, o, none⟩ ∧ g < n ∧ w.cell? ⟨g, o + i * 4, none⟩ = some (.int .u8 y.k) ∧ w.cell? ⟨g, o + i * 4 + 1, none⟩ = some (.string y.t) ∧ w.cell? ⟨g, o + i * 4 + 2, none⟩ = some (.int .i64 y.n) ∧ w.cell? ⟨g, o + i * 4 + 3, none⟩ = some (.int .i64 y.p)
theorem raw_plain {b o i : Nat} : (⟨b, o, none⟩ : Addr).add i = ⟨b, o + i, none⟩ := by
  unfold Addr.add; split <;> simp_all
theorem RawIn.kept {w w' : World} {n : Nat} {A : Option Addr} {L : List Raw} (h : RawIn w n A L) (hb : Below n w w') : RawIn w' n A L := by
  intro i y hy
  obtain ⟨g, o, e, hg, h0, h1, h2, h3⟩ := h i y hy
  exact ⟨g, o, e, hg, by rw [hb.cell hg]; exact h0, by rw [hb.cell hg]; exact h1, by rw [hb.cell hg]; exact h2, by rw [hb.cell hg]; exact h3⟩
theorem RawIn.at {w : World} {n : Nat} {A : Option Addr} {L : List Raw} (h : RawIn w n A L) (hn : n ≤ w.heap.size) : RawAt w A L := by
  intro i y hy
  obtain ⟨g, o, e, hg, r⟩ := h i y hy
  exact ⟨g, o, e, Nat.lt_of_lt_of_le hg hn, r⟩
theorem RawAt.in {w : World} {A : Option Addr} {L : List Raw} (h : RawAt w A L) : RawIn w w.heap.size A L := h
/-- The address of a part. -/
def subA (A : Option Addr) (c f : Nat) : Option Addr := if c = f then A else A.map fun a => a.add (f * 4)
theorem RawIn.part {w : World} {n : Nat} {A : Option Addr} {L : List Raw} (h : RawIn w n A L) (c f m : Nat) (hc : L.length ≤ c) : RawIn w n (subA A c f) ((L.drop f).take m) := by
  intro i y hy
  have hy2 : L[f + i]? = some y := by
    rw [List.getElem?_take] at hy
    split at hy
    · rw [List.getElem?_drop] at hy; exact hy
    · cases hy
  have hlt : f + i < L.length := (List.getElem?_eq_some_iff.1 hy2).1
  obtain ⟨g, o, rfl, hg, h0, h1, h2, h3⟩ := h (f + i) y hy2
  refine ⟨g, o + f * 4, ?_, hg, ?_⟩
  · unfold subA
    rw [if_neg (by omega)]
    simp only [Option.map_some, raw_plain]
  · rw [show o + f * 4 + i * 4 = o + (f + i) * 4 by omega]
    exact ⟨h0, h1, h2, h3⟩

/-- What comes: a list of tokens that lies in w0 below n₀. -/
abbrev LEl (w0 : World) (n₀ : Nat) : Type := { x : Value × List Raw // (∃ A c, x.1 = .slice A x.2.length c ∧ RawIn w0 n₀ A x.2) ∧ RawFit x.2 }
def LEl.ln {w0 : World} {n₀ : Nat} (x : LEl w0 n₀) : List Raw := x.1.2
def LEl.encs {w0 : World} {n₀ : Nat} (x : LEl w0 n₀) : Array Value := #[x.1.1]
/-- What a round keeps: all below n₀, and the box of the list. -/
def LKp (n₀ Bt : Nat) (W W' : World) : Prop := Below n₀ W W' ∧ ∀ c e f, W.heap[Bt]? = some (.cells c e f) → W'.heap[Bt]? = some (.cells c e f)
theorem LKp.refl (n₀ Bt : Nat) (W : World) : LKp n₀ Bt W W := ⟨Below.refl _ _, fun _ _ _ h => h⟩
theorem LKp.trans {n₀ Bt : Nat} {A B C : World} (h : LKp n₀ Bt A B) (k : LKp n₀ Bt B C) : LKp n₀ Bt A C := ⟨h.1.trans k.1, fun c e f hc => k.2 c e f (h.2 c e f hc)⟩
theorem LKp.alloc {n₀ Bt : Nat} (W : World) (hn : n₀ ≤ W.heap.size) (o : Obj) : LKp n₀ Bt W (W.alloc o) :=
  ⟨(Below.refl _ _).alloc hn o, fun c e f hc => (Below.heap_alloc W o Bt (Array.getElem?_eq_some_iff.1 hc).1).trans hc⟩
theorem lcell {W : World} {B : Nat} {v : Value} {t : TypeId} (h : W.heap[B]? = some (.cells #[v] t (0, 0))) : W.cell? ⟨B, 0, none⟩ = some v := by simp [World.cell?, h]
theorem isLine_al (k n p : Int) (T : ByteArray) (w : World) :
    Calls Tryd.prog 22 #[.agg #[.int .u8 k, .string T, .int .i64 n, .int .i64 p]] w fun e w' => e = .returned (.bool (k == 5)) ∧ w.alloc (.cells #[.int .u8 k, .string T, .int .i64 n, .int .i64 p] 29) = w' := by
  go_enter Tryd.func22, Tryd.ntmps22
  go_wp2
  go_ret
  exact ⟨rfl, rfl⟩
theorem lnF_step {L : List Raw} {f i : Nat} {y : Raw} (hf : f ≤ i) (hy : L[i]? = some y) : lnF ((L.drop f).take (i - f)) (L.drop i) =
    if y.k = 5 then (L.drop f).take (i - f) :: lnF [] (L.drop (i + 1)) else lnF ((L.drop f).take (i + 1 - f)) (L.drop (i + 1)) := by
  have hlt : i < L.length := (List.getElem?_eq_some_iff.1 hy).1
  have hd : L.drop i = y :: L.drop (i + 1) := by
    rw [List.drop_eq_getElem_cons hlt]
    congr 1
    exact Option.some.inj ((List.getElem?_eq_getElem hlt).symm.trans hy)
  have ht : (L.drop f).take (i + 1 - f) = (L.drop f).take (i - f) ++ [y] := by
    rw [show i + 1 - f = (i - f) + 1 by omega, List.take_add_one, List.getElem?_drop, show f + (i - f) = i by omega, hy]
    rfl
  rw [hd, ht]
  rfl

set_option maxRecDepth 100000 in
set_option maxHeartbeats 4000000 in
theorem lines1_in (F : Fence) (hd : F.depth = none) (n : Nat) (h1 : F.fn 40) (h2 : F.fn 22) (hro : F.round = none)
    (hC : ∀ {c : FuncId} {args : Array Value} {W : World} {R : Ending → World → Prop} (n : Nat), Calls Tryd.prog c args W R → CallsIn F n Tryd.prog c args W R)
    (w0 : World) (l Bt n₀ : Nat) (J Jx : List (LEl w0 n₀) → World → Prop) (hJ : ∀ s W o, J s W → J s (W.alloc o)) (A : Option Addr) (c : Nat) (L : List Raw) (hA : RawIn w0 n₀ A L) (hfit : RawFit L) (hc : L.length ≤ c) (hcm : c ≤ maxLen)
    (hY : ∀ m pre x W, J pre W → pre.length < L.length + 1 → YieldAt F m Tryd.prog l x.encs W fun e W' =>
      (e = .returned (.bool true) ∧ J (pre ++ [x]) W' ∧ LKp n₀ Bt W W') ∨ (e = .returned (.bool false) ∧ Jx (pre ++ [x]) W'))
    (W : World) (hW : Below n₀ w0 W) (hn0 : n₀ ≤ W.heap.size) (hB : W.heap[Bt]? = some (.cells #[.slice A L.length c] 23 (0, 0))) (h0 : J [] W) :
    CallsIn F n Tryd.prog 40 #[.func (.yield l) #[] #[], .pointer (some ⟨Bt, 0, none⟩)] W fun e W' => (∃ v, e = .returned v) ∧
      ((∃ ys : List (LEl w0 n₀), ys.map LEl.ln = lnF [] L ∧ J ys W') ∨ (∃ pre : List (LEl w0 n₀), pre.map LEl.ln <+: lnF [] L ∧ Jx pre W')) := by
  have hroom : ∀ k : Nat, (F.depth.isSome = true → 1 ≤ k) := fun k h => by rw [hd] at h; cases h
  obtain ⟨nn, hnn⟩ : ∃ nn, L.length = nn := ⟨_, rfl⟩
  have HN := Lib.hid hnn
  have HFT := Lib.hid hfit
  have HA := Lib.hid hA
  have HJ := Lib.hid hJ
  have HY := Lib.hid hY
  have HB0 := Lib.hid (And.intro hW (And.intro hn0 hB))
  have hnm : (nn : Int) ≤ 20100 := by have := hfit.1; omega
  have c0 := lcell hB
  rw [hnn] at c0 hc
  have hcc : (nn : Int) ≤ (c : Int) := by omega
  have hcx : (c : Int) ≤ 9223372036854775807 := by unfold maxLen at hcm; omega
  have HH0 := Lib.hid h0
  clear hnn hfit hA hJ hY hW hn0 hB hcm h0
  refine callsIn_of_wp Tryd.func40 rfl h1 ?_ hro
  simp only [Tryd.ntmps40, List.size_toArray, List.length_cons, List.length_nil, Nat.reduceAdd, Nat.reduceSub, Array.replicate_succ, Array.replicate_zero, List.push_toArray, List.append_toArray, List.nil_append, List.cons_append]
  gi_wp2
  gi_loopw [3, 8] (fun vf vi wr => ∃ f i : Nat, vf = .int .i64 f ∧ vi = .int .i64 i ∧ f ≤ i ∧ i ≤ nn ∧ Hid (LKp n₀ Bt W wr ∧ ∃ q : List (LEl w0 n₀), q.map LEl.ln ++ lnF ((L.drop f).take (i - f)) (L.drop i) = lnF [] L ∧ J q wr)) (fun _ vi _ => nn - (intOf vi).toNat)
  case atStart => exact ⟨0, 0, rfl, rfl, Nat.le_refl _, Nat.zero_le _, Lib.hid ⟨LKp.refl _ _ _, [], rfl, HH0.out⟩⟩
  case round =>
    obtain ⟨f, i, rfl, rfl, hfi, hi, HI⟩ := hrel
    by_cases hlt : i < nn
    · obtain ⟨y, hy⟩ : ∃ y, L[i]? = some y := ⟨_, List.getElem?_eq_getElem (by rw [HN.out]; exact hlt)⟩
      have HYY := Lib.hid hy
      have hb := HB0.out.1.trans HI.out.1.1
      obtain ⟨g, o, rfl, hg, t0, t1, t2, t3⟩ := (HA.out.kept hb) i y hy
      have cB := lcell (HI.out.1.2 _ _ _ HB0.out.2.2)
      rw [HN.out] at cB
      have hst := lnF_step hfi hy
      have HLT := Lib.hid hlt
      have hnw : n₀ ≤ wr.heap.size := Nat.le_trans HB0.out.2.1 HI.out.1.1.size
      have hBt : Bt < wr.heap.size := lt_of_block (HI.out.1.2 _ _ _ HB0.out.2.2)
      obtain ⟨k, hk⟩ : ∃ k, y.k = k := ⟨_, rfl⟩
      obtain ⟨T, hT⟩ : ∃ T, y.t = T := ⟨_, rfl⟩
      obtain ⟨m, hm⟩ : ∃ m, y.n = m := ⟨_, rfl⟩
      obtain ⟨p, hp⟩ : ∃ p, y.p = p := ⟨_, rfl⟩
      rw [hk] at t0 hst
      rw [hT] at t1
      rw [hm] at t2
      rw [hp] at t3
      have HIS : Hid (∀ (j : Nat) (W : World), CallsIn F j Tryd.prog 22 #[.agg #[.int .u8 k, .string T, .int .i64 m, .int .i64 p]] W fun e w' => e = .returned (.bool (k == 5)) ∧ W.alloc (.cells #[.int .u8 k, .string T, .int .i64 m, .int .i64 p] 29) = w') := Lib.hid (fun j W => hC j (isLine_al k m p T W))
      by_cases h5 : k = 5
      · rw [if_pos h5] at hst
        subst h5
        obtain ⟨q, hq, hJq⟩ := HI.out.2
        have hql : q.length < L.length + 1 := by
          have e := congrArg List.length hq
          rw [List.length_append, List.length_map] at e
          have h1 := (lnF_len (L.drop i) ((L.drop f).take (i - f))).1
          have h2 := (lnF_len L []).2
          omega
        obtain ⟨x, hx⟩ : ∃ x : LEl w0 n₀, x = ⟨(.slice (subA (some ⟨g, o, none⟩) c f) ((L.drop f).take (i - f)).length (c - f), (L.drop f).take (i - f)), ⟨_, _, rfl, HA.out.part c f (i - f) (by rw [HN.out]; exact hc)⟩,
          by refine ⟨?_, fun z hz => HFT.out.2 z (List.mem_of_mem_drop (List.mem_of_mem_take hz))⟩; rw [List.length_take, List.length_drop]; have := HFT.out.1; omega⟩ := ⟨_, rfl⟩
        have hxl : x.ln = (L.drop f).take (i - f) := by rw [hx]; rfl
        have hxe : x.encs = #[.slice (some ⟨g, o + f * 4, none⟩) (i - f) (c - f)] := by
          rw [hx]
          show #[Value.slice (subA (some ⟨g, o, none⟩) c f) ((L.drop f).take (i - f)).length (c - f)] = _
          have e1 : ((L.drop f).take (i - f)).length = i - f := by rw [List.length_take, List.length_drop, HN.out]; omega
          have e2 : subA (some ⟨g, o, none⟩) c f = some ⟨g, o + f * 4, none⟩ := by unfold subA; rw [if_neg (by omega), Option.map_some, raw_plain]
          rw [e1, e2]
        obtain ⟨fn, tmps, assign, body, hyy, hR⟩ := HY.out (n - 1) q x ((wr.alloc (.cells #[.int .u8 5, .string T, .int .i64 m, .int .i64 p] 29)).alloc (.cells #[.int .u8 5, .string T, .int .i64 m, .int .i64 p] 29)) (HJ.out _ _ _ (HJ.out _ _ _ hJq)) hql
        rw [hxe] at hyy
        have HX := Lib.hid (And.intro hq (And.intro hst hxl))
        have hcf : ¬ c = f := by omega
        have hff : (f : Int) ≤ (i : Int) := by omega
        have hic : (i : Int) ≤ (c : Int) := by omega
        have HK := Lib.hid ((LKp.alloc (Bt := Bt) wr hnw (.cells #[.int .u8 5, .string T, .int .i64 m, .int .i64 p] 29)).trans (LKp.alloc _ (by simp; omega) (.cells #[.int .u8 5, .string T, .int .i64 m, .int .i64 p] 29)))
        clear hy hb hst hk hT hm hp hJq hql hq hx hxl hxe
        gi_wp2_with (first
          | ((try refine ⟨hroom _, ?_⟩); gi_at_call 22; refine (HIS.out _ _).mono ?_; rintro e w' ⟨rfl, rfl⟩)
          | (refine hR.mono ?_; clear hR; rintro e W2 (⟨rfl, hJ2, hk2⟩ | ⟨rfl, hx2⟩)))
        · have HJ2 := Lib.hid hJ2
          have HK2 := Lib.hid hk2
          clear hJ2 hk2
          go_roundw
          case rel =>
            refine ⟨i + 1, i + 1, by first | rfl | go_num | (congr 1), by first | rfl | go_num | (congr 1), Nat.le_refl _, by have := HLT.out; omega, Lib.hid ⟨HI.out.1.trans (HK.out.trans HK2.out), q ++ [x], ?_, HJ2.out⟩⟩
            obtain ⟨h1, h2, h3⟩ := HX.out
            rw [← h1, h2, List.map_append, List.map_cons, List.map_nil, h3, Nat.sub_self, List.take_zero]
            simp
          case measure => simp only [intOf]; have := HLT.out; omega
        · refine bodyPost_ret (v := .tuple #[]) (by simp [results, Tryd.results40, go_sem]) rfl ?_
          refine ⟨⟨_, rfl⟩, .inr ⟨q ++ [x], ?_, hx2⟩⟩
          obtain ⟨h1, h2, h3⟩ := HX.out
          rw [← h1, h2, List.map_append, List.map_cons, List.map_nil, h3]
          exact ⟨lnF [] (L.drop (i + 1)), by simp⟩
      · rw [if_neg h5] at hst
        have h55 : (k == 5) = false := by simpa using h5
        have HST := Lib.hid hst
        clear hy hb hst hk hT hm hp
        gi_wp2_with ((try refine ⟨hroom _, ?_⟩); gi_at_call 22; refine (HIS.out _ _).mono ?_; rintro e w' ⟨rfl, rfl⟩)
        go_roundw
        case rel =>
          refine ⟨f, i + 1, rfl, by first | rfl | go_num | (congr 1), by omega, by have := HLT.out; omega, Lib.hid ⟨HI.out.1.trans ((LKp.alloc wr hnw _).trans (LKp.alloc _ (by simp; omega) _)), ?_⟩⟩
          obtain ⟨q, hq, hJq⟩ := HI.out.2
          exact ⟨q, by rw [← hq, HST.out], HJ.out _ _ _ (HJ.out _ _ _ hJq)⟩
        case measure => simp only [intOf]; have := HLT.out; omega
    · obtain rfl : nn = i := by omega
      have cB := lcell (HI.out.1.2 _ _ _ HB0.out.2.2)
      rw [HN.out] at cB
      obtain ⟨q, hq, hJq⟩ := HI.out.2
      have hend : lnF ((L.drop f).take (nn - f)) (L.drop nn) = [L.drop f] := by
        rw [List.drop_of_length_le (show L.length ≤ nn by rw [HN.out]; exact Nat.le_refl _), List.take_of_length_le (by rw [List.length_drop, HN.out]; exact Nat.le_refl _)]
        rfl
      rw [hend] at hq
      have hql : q.length < L.length + 1 := by
        have e := congrArg List.length hq
        rw [List.length_append, List.length_map] at e
        have h2 := (lnF_len L []).2
        simp at e
        omega
      have hpart := HA.out.part c f (nn - f) (by rw [HN.out]; exact hc)
      rw [List.take_of_length_le (show (L.drop f).length ≤ nn - f by rw [List.length_drop, HN.out]; exact Nat.le_refl _)] at hpart
      obtain ⟨x, hx⟩ : ∃ x : LEl w0 n₀, x = ⟨(.slice (subA A c f) (L.drop f).length (c - f), L.drop f), ⟨_, _, rfl, hpart⟩,
        by refine ⟨?_, fun z hz => HFT.out.2 z (List.mem_of_mem_drop hz)⟩; rw [List.length_drop]; have := HFT.out.1; omega⟩ := ⟨_, rfl⟩
      have hxl : x.ln = L.drop f := by rw [hx]; rfl
      have hxe : x.encs = #[.slice (subA A c f) (nn - f) (c - f)] := by
        rw [hx]
        show #[Value.slice (subA A c f) (L.drop f).length (c - f)] = _
        rw [List.length_drop, HN.out]
      obtain ⟨fn, tmps, assign, body, hyy, hR⟩ := HY.out (n - 1) q x wr hJq hql
      rw [hxe] at hyy
      unfold subA at hyy
      have HX := Lib.hid (And.intro hq hxl)
      have hff : (f : Int) ≤ (nn : Int) := by omega
      have hic : (nn : Int) ≤ (c : Int) := by omega
      clear hJq hql hq hx hxl hxe hend hpart
      gi_wp2_with (refine hR.mono ?_; clear hR; rintro e W2 (⟨rfl, hJ2, hk2⟩ | ⟨rfl, hx2⟩))
      all_goals first
        | (go_end0
           refine ⟨⟨_, rfl⟩, .inl ⟨q ++ [x], ?_, hJ2⟩⟩
           rw [List.map_append, List.map_cons, List.map_nil, HX.out.2]
           exact HX.out.1)
        | (go_end0
           refine ⟨⟨_, rfl⟩, .inr ⟨q ++ [x], ?_, hx2⟩⟩
           rw [List.map_append, List.map_cons, List.map_nil, HX.out.2]
           exact ⟨[], by rw [List.append_nil]; exact HX.out.1⟩)

/-- lines hands back its iterator: the list lies in a box of its own. -/
theorem lines_in (F : Fence) (n : Nat) (h1 : F.fn 28) (hro : F.round = none) (A : Option Addr) (m c : Nat) (w : World) :
    CallsIn F n Tryd.prog 28 #[.slice A m c] w fun e w' => e = .returned (.func (.func 40) #[] #[.pointer (some ⟨w.heap.size, 0, none⟩)]) ∧ w' = w.alloc (.cells #[.slice A m c] 23) := by
  refine callsIn_of_wp Tryd.func28 rfl h1 ?_ hro
  simp only [Tryd.ntmps28, List.size_toArray, List.length_cons, List.length_nil, Nat.reduceAdd, Nat.reduceSub, Array.replicate_succ, Array.replicate_zero, List.push_toArray, List.append_toArray, List.nil_append, List.cons_append]
  gi_wp2
  go_ret
  exact ⟨rfl, rfl⟩

/-- The iterator's contract, as a range over it wants it. -/
theorem lines_stops (F : Fence) (hd : F.depth = none) (n : Nat) (h1 : F.fn 40) (h2 : F.fn 22) (hro : F.round = none)
    (hC : ∀ {c : FuncId} {args : Array Value} {W : World} {R : Ending → World → Prop} (n : Nat), Calls Tryd.prog c args W R → CallsIn F n Tryd.prog c args W R)
    (w0 : World) (Bt n₀ : Nat) (A : Option Addr) (c : Nat) (L : List Raw) (hA : RawIn w0 n₀ A L) (hfit : RawFit L) (hc : L.length ≤ c) (hcm : c ≤ maxLen)
    (w : World) (hw : Below n₀ w0 w) (hn0 : n₀ ≤ w.heap.size) (hB : w.heap[Bt]? = some (.cells #[.slice A L.length c] 23 (0, 0))) :
    SeqStopsK F n Tryd.prog 40 #[.pointer (some ⟨Bt, 0, none⟩)] (LEl.encs (w0 := w0) (n₀ := n₀)) (LKp n₀ Bt) (fun ys => ys.map LEl.ln = lnF [] L) (fun pre => pre.map LEl.ln <+: lnF [] L) (L.length + 1) w := fun l J Jx W hW hJ _ hY h0 =>
  lines1_in F hd n h1 h2 hro hC w0 l Bt n₀ J Jx (fun s W' o hs => hJ s W' _ none hs (World.grownBy_alloc W' o none) (fun r e => by cases e)) A c L hA hfit hc hcm (fun m pre x W hj hl => YieldAt.anyDepth hd m (hY pre x W hj hl)) W (hw.trans (hW.mono hn0)) (Nat.le_trans hn0 hW.size) ((hW.block Bt (lt_of_block hB)).trans hB) h0
end Go.Proofs.YtejjbbgompddeaaDoor
