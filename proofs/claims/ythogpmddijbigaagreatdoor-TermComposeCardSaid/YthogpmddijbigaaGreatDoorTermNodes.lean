/- The iterator over the nodes of a term. -/
import Derived.Test.YthogpmddijbigaaGreatDoorTermTree
import Derived.Test.YthogpmddijbigaaGreatDoorRefGreat
import Derived.RangeFuncKeeps
import Derived.RangeFuncBound
import Derived.RangeFuncLeaves
import Derived.Shelf.Abstract
import Derived.OwnWalkIn
import Derived.TacticsInMore
import Derived.LoopIn
import Derived.Laws.EntriesVeiled
namespace Go.Proofs.YthogpmddijbigaaGreatDoor
open Go.RowKit Go.Shelf
set_option linter.unusedVariables false
attribute [local go_sem] Oper.semAt_some

theorem room_of_none {F : Fence} (hd : F.depth = none) (k : Nat) : F.room k := fun d h => by rw [hd] at h; cases h
theorem RoundIn.anyDepth {F : Fence} (hd : F.depth = none) {m m' : Nat} {P : Program} {l : Nat} {f : FuncId} {tmps : Array Value} {assign body : Code} {w : World} {R : Ending → World → Prop}
    (h : RoundIn F m P l f tmps assign body w R) : RoundIn F m' P l f tmps assign body w R := ⟨h.1, fun c cs _ => h.2 c cs (room_of_none hd _)⟩
theorem YieldAt.anyDepth {F : Fence} (hd : F.depth = none) {m : Nat} (m' : Nat) {P : Program} {l : Nat} {args : Array Value} {W : World} {R : Ending → World → Prop} (h : YieldAt F m P l args W R) : YieldAt F m' P l args W R := by
  obtain ⟨fn, tmps, assign, body, hy, hR⟩ := h
  exact ⟨fn, tmps, assign, body, hy, RoundIn.anyDepth hd hR⟩

mutual
/-- The nodes with their depths, each before its parts. -/
def Tm.pre (d : Nat) : Tm → List (Nat × Tm) | .mk k w b s lo l => (d, .mk k w b s lo l) :: Tm.pres (d + 1) l
def Tm.pres (d : Nat) : List Tm → List (Nat × Tm) | [] => [] | t :: l => t.pre d ++ Tm.pres d l
end
theorem Tm.pre_eq (d : Nat) (t : Tm) : t.pre d = (d, t) :: Tm.pres (d + 1) t.sub := by cases t; simp [Tm.pre, Tm.sub]
theorem Tm.pres_nil (d : Nat) : Tm.pres d [] = [] := by simp [Tm.pres]
theorem Tm.pres_cons (d : Nat) (t : Tm) (l : List Tm) : Tm.pres d (t :: l) = t.pre d ++ Tm.pres d l := by simp [Tm.pres]
theorem Tm.pres_append (d : Nat) (a b : List Tm) : Tm.pres d (a ++ b) = Tm.pres d a ++ Tm.pres d b := by
  induction a with
  | nil => simp [Tm.pres_nil]
  | cons t a ih => rw [List.cons_append, Tm.pres_cons, Tm.pres_cons, ih, List.append_assoc]
mutual
theorem Tm.pre_length (d : Nat) : ∀ t : Tm, (t.pre d).length = t.sz
  | .mk k w b s lo l => by simp [Tm.pre, Tm.sz, Tm.pres_length (d + 1) l]
theorem Tm.pres_length (d : Nat) : ∀ l : List Tm, (Tm.pres d l).length = Tm.szs l
  | [] => by simp [Tm.pres, Tm.szs]
  | t :: l => by simp [Tm.pres, Tm.szs, Tm.pre_length d t, Tm.pres_length d l]
end

/-- What comes: a depth and a term that lies in w0 below n₀. -/
abbrev El (w0 : World) (n₀ : Nat) : Type := { x : Nat × Tm × Value // SubAt w0 n₀ x.2.2 x.2.1.sub ∧ x.2.1.fit ∧ x.2.1.long = false }
def El.at {w0 : World} {n₀ : Nat} (x : El w0 n₀) : Nat × Tm := (x.1.1, x.1.2.1)
def El.encs {w0 : World} {n₀ : Nat} (x : El w0 n₀) : Array Value := #[.int .i64 x.1.1, .agg (Tm.cells x.1.2.1 x.1.2.2).toArray]
/-- What a round keeps: all below n₀, and all cells from m₀ on. -/
def Kp (n₀ m₀ : Nat) (W W' : World) : Prop := Below n₀ W W' ∧ ∀ k c e f, m₀ ≤ k → W.heap[k]? = some (.cells c e f) → W'.heap[k]? = some (.cells c e f)
theorem Kp.refl (n₀ m₀ : Nat) (W : World) : Kp n₀ m₀ W W := ⟨Below.refl _ _, fun _ _ _ _ _ h => h⟩
theorem Kp.trans {n₀ m₀ : Nat} {A B C : World} (h : Kp n₀ m₀ A B) (k : Kp n₀ m₀ B C) : Kp n₀ m₀ A C := ⟨h.1.trans k.1, fun i c e f hi hc => k.2 i c e f hi (h.2 i c e f hi hc)⟩
theorem Kp.alloc {n₀ m₀ : Nat} {A W : World} (h : Kp n₀ m₀ A W) (hn : n₀ ≤ A.heap.size) (o : Obj) : Kp n₀ m₀ A (W.alloc o) :=
  ⟨h.1.alloc (Nat.le_trans hn h.1.size) o, fun i c e f hi hc => by
    have := h.2 i c e f hi hc
    exact (Below.heap_alloc W o i (by have := (Array.getElem?_eq_some_iff.1 this).1; omega)).trans this⟩
theorem Kp.cell {n₀ m₀ : Nat} {A W : World} (h : Kp n₀ m₀ A W) {k j : Nat} {c : Array Value} {e : TypeId} {f : Nat × Nat} (hk : m₀ ≤ k) (hc : A.heap[k]? = some (.cells c e f)) : W.heap[k]? = some (.cells c e f) := h.2 k c e f hk hc
theorem cell_of {W : World} {B i : Nat} {c : Array Value} {v : Value} {t : TypeId} {f : Nat × Nat} (h : W.heap[B]? = some (.cells c t f)) (hv : c[i]? = some v) : W.cell? ⟨B, i, none⟩ = some v := by
  simp [World.cell?, h, hv]

set_option maxRecDepth 100000 in
set_option maxHeartbeats 2000000 in
theorem visit_in (F : Fence) (hd : F.depth = none) (h3 : F.fn 139) (hro : F.round = none) (w0 : World) (l n₀ m₀ N b2 b3 : Nat) (J Jx : List (El w0 n₀) → World → Prop) (hm : m₀ ≤ b2 ∧ m₀ ≤ b3)
    (hJ : ∀ s W o, J s W → J s (W.alloc o))
    (hY : ∀ m pre x W, J pre W → pre.length < N → YieldAt F m Tryz.prog l x.encs W fun e W' =>
      (e = .returned (.bool true) ∧ J (pre ++ [x]) W' ∧ Kp n₀ m₀ W W') ∨ (e = .returned (.bool false) ∧ Jx (pre ++ [x]) W')) :
    ∀ (z : Nat) (t : Tm), t.sz ≤ z → ∀ (n d : Nat) (sv : Value) (pre : List (El w0 n₀)) (W : World), d + t.dp ≤ 10000 → Below n₀ w0 W → n₀ ≤ W.heap.size → SubAt w0 n₀ sv t.sub → t.fit → t.long = false → J pre W → pre.length + t.sz ≤ N →
      (∃ e f, W.heap[b2]? = some (.cells #[.func (.yield l) #[] #[]] e f)) → (∃ e f, W.heap[b3]? = some (.cells #[.func (.func 139) #[] #[.pointer (some ⟨b2, 0, none⟩), .pointer (some ⟨b3, 0, none⟩)]] e f)) →
      CallsIn F n Tryz.prog 139 #[.int .i64 d, .agg (Tm.cells t sv).toArray, .pointer (some ⟨b2, 0, none⟩), .pointer (some ⟨b3, 0, none⟩)] W fun e W' =>
        (e = .returned (.bool true) ∧ (∃ q : List (El w0 n₀), q.map El.at = t.pre d ∧ J (pre ++ q) W') ∧ Kp n₀ m₀ W W') ∨ (e = .returned (.bool false) ∧ ∃ q : List (El w0 n₀), q.map El.at <+: t.pre d ∧ Jx (pre ++ q) W') := by
  intro z
  induction z with
  | zero => intro t ht; rw [Tm.sz_eq] at ht; omega
  | succ z ih =>
    intro t ht n d sv pre W hdd hW hn0 hs hfit hsh h0 hN h2 h3'
    obtain ⟨e2, f2, h2⟩ := h2
    obtain ⟨e3, f3, h3'⟩ := h3'
    have hb2 : b2 < W.heap.size := (Array.getElem?_eq_some_iff.1 h2).1
    have hb3 : b3 < W.heap.size := (Array.getElem?_eq_some_iff.1 h3').1
    obtain ⟨p, nn, cap, S, rfl, hlen, hmax, hfits, hcells, hsubs⟩ := hs.inv
    obtain ⟨x, hx⟩ : ∃ x : El w0 n₀, x = ⟨(d, t, .slice p nn cap), hs, hfit, hsh⟩ := ⟨_, rfl⟩
    have HLS := Lib.hid (show Tm.longs t.sub = false by rw [Tm.long_eq] at hsh; exact (Bool.or_eq_false_iff.1 hsh).1)
    have hxat : El.at x = (d, t) := by rw [hx]; rfl
    have hxe : x.encs = #[.int .i64 d, .agg #[.int .u8 t.kind, .int .i64 t.width, .int .u64 t.bits, .string t.name, .int .i64 t.low, .slice p nn cap]] := by rw [hx]; rfl
    have hroom : ∀ k : Nat, (F.depth.isSome = true → 1 ≤ k) := fun k h => by rw [hd] at h; cases h
    obtain ⟨W1, hW1⟩ : ∃ W1, W1 = W.alloc (Obj.cells #[.int .u8 t.kind, .int .i64 t.width, .int .u64 t.bits, .string t.name, .int .i64 t.low, .slice p nn cap] 25) := ⟨_, rfl⟩
    have hk1 : Kp n₀ m₀ W W1 := by rw [hW1]; exact (Kp.refl _ _ _).alloc hn0 _
    have hnew : W1.heap[W.heap.size]? = some (.cells #[.int .u8 t.kind, .int .i64 t.width, .int .u64 t.bits, .string t.name, .int .i64 t.low, .slice p nn cap] 25 (0, 0)) := by rw [hW1]; exact World.alloc_heap_new W _
    have h21 := hk1.2 b2 _ _ _ hm.1 h2
    have h31 := hk1.2 b3 _ _ _ hm.2 h3'
    have c2 := cell_of (i := 0) h21 rfl
    have n0 := cell_of (i := 0) hnew rfl
    have n1 := cell_of (i := 1) hnew rfl
    have n2 := cell_of (i := 2) hnew rfl
    have n3 := cell_of (i := 3) hnew rfl
    have n4 := cell_of (i := 4) hnew rfl
    have n5 := cell_of (i := 5) hnew rfl
    have hms : m₀ ≤ W.heap.size := by omega
    obtain ⟨fn, tmps, assign, body, hy, hR⟩ := YieldAt.mono (R' := fun e W' => (e = .returned (.bool true) ∧ J (pre ++ [x]) W' ∧ Kp n₀ m₀ W1 W' ∧ W'.cell? ⟨W.heap.size, 5, none⟩ = some (.slice p nn cap)) ∨ (e = .returned (.bool false) ∧ Jx (pre ++ [x]) W'))
      (hY (n - 1) pre x W1 (by rw [hW1]; exact hJ _ _ _ h0) (by rw [Tm.sz_eq] at hN; omega)) (fun e W' h => h.elim (fun ⟨he, hj, hk⟩ => .inl ⟨he, hj, hk, cell_of (i := 5) (hk.2 _ _ _ _ hms hnew) rfl⟩) .inr)
    rw [hxe] at hy
    have HX := Lib.hid hx
    have HW1 := Lib.hid hW1
    refine callsIn_of_wp Tryz.func139 rfl h3 ?_ hro
    simp only [Tryz.ntmps139, Tm.cells, List.size_toArray, List.length_cons, List.length_nil, Nat.reduceAdd, Nat.reduceSub, Array.replicate_succ, Array.replicate_zero, List.push_toArray, List.append_toArray, List.nil_append, List.cons_append]
    rw [hW1] at c2 n0 n1 n2 n3 n4 n5 hy hR hk1
    have HK1 := Lib.hid hk1
    clear hx hW1 hk1
    gi_wp2_with ((try refine ⟨hroom _, ?_⟩); refine hR.mono ?_; clear hR; rintro e W2 (⟨rfl, hJ2, hk2, c5⟩ | ⟨rfl, hx2⟩))
    · have HK2 := Lib.hid hk2
      have HJ2 := Lib.hid hJ2
      clear hk2 hJ2 c2 n0 n1 n2 n3 n4 n5 hy
      gi_loopw [17] (fun vi wr => ∃ k : Nat, vi = .int .i64 k ∧ k ≤ nn ∧ Hid (∃ q : List (El w0 n₀), q.map El.at = Tm.pres (d + 1) (t.sub.take k) ∧ J (pre ++ [x] ++ q) wr) ∧ Kp n₀ m₀ W2 wr) (fun vi _ => nn - (intOf vi).toNat)
      case atStart => exact ⟨0, rfl, by omega, Lib.hid ⟨[], by simp [Tm.pres_nil], by simpa using HJ2.out⟩, Kp.refl _ _ _⟩
      case round =>
        obtain ⟨k, rfl, hkn, HQ, hkp⟩ := hrel
        have HKP := Lib.hid hkp
        clear hkp
        by_cases hlt : k < nn
        · obtain ⟨u, hu⟩ : ∃ u, t.sub[k]? = some u := ⟨_, List.getElem?_eq_getElem (by omega)⟩
          obtain ⟨b, o, rfl, hbn, a0, a1, a2, a3, a4, a5⟩ := hcells k u hu
          have hsk := hsubs k u hu
          obtain ⟨p', n', cap', _, hSk, _⟩ := hsk.inv
          rw [hSk] at hsk a5
          have hKW : Kp n₀ m₀ W wr := HK1.out.trans (HK2.out.trans HKP.out)
          have hB0 : Below n₀ w0 wr := hW.trans hKW.1
          rw [← hB0.cell hbn] at a0 a1 a2 a3 a4 a5
          have hn1 : n₀ ≤ wr.heap.size := Nat.le_trans hn0 hKW.1.size
          have hum : u ∈ t.sub := List.mem_of_getElem? hu
          have hsz := Tm.sz_mem hum
          have hdp := Tm.dp_mem hum
          have hszt := Tm.sz_eq t
          have hdpt := Tm.dp_eq t
          obtain ⟨q, hq, hJq⟩ := HQ.out
          have hmaxk : k < 9223372036854775807 := by unfold maxLen at hmax; omega
          have hql : q.length = Tm.szs (t.sub.take k) := by rw [← List.length_map (f := El.at), hq, Tm.pres_length]
          have hsplit : Tm.szs (t.sub.take k) + u.sz ≤ Tm.szs t.sub := by
            have e : t.sub.take k ++ u :: t.sub.drop (k + 1) = t.sub := by
              have h1 : t.sub.drop k = u :: t.sub.drop (k + 1) := by
                have e0 := Option.some.inj ((List.getElem?_eq_getElem (by omega)).symm.trans hu)
                rw [List.drop_eq_getElem_cons (by omega), e0]
              rw [← h1, List.take_append_drop]
            have e2 := congrArg Tm.szs e
            rw [Tm.szs_append, Tm.szs_cons] at e2
            omega
          have h22 := hKW.2 b2 _ _ _ hm.1 h2
          have h32 := hKW.2 b3 _ _ _ hm.2 h3'
          obtain ⟨W3, hW3⟩ : ∃ W3, W3 = wr.alloc (Obj.cells #[.int .u8 u.kind, .int .i64 u.width, .int .u64 u.bits, .string u.name, .int .i64 u.low, .slice p' n' cap'] 25) := ⟨_, rfl⟩
          have hk3 : Kp n₀ m₀ wr W3 := by rw [hW3]; exact (Kp.refl _ _ _).alloc hn1 _
          have h33 := hk3.2 b3 _ _ _ hm.2 h32
          have c3 := cell_of (i := 0) h33 rfl
          rw [hW3] at c3
          have hC := ih u (by omega) (n - 1) (d + 1) (.slice p' n' cap') (pre ++ [x] ++ q) W3 (by omega) (hB0.trans hk3.1) (Nat.le_trans hn1 hk3.1.size) hsk (hfits k u hu) (Tm.longs_mem hum HLS.out) (by rw [hW3]; exact hJ _ _ _ hJq)
            (by simp only [List.length_append, List.length_cons, List.length_nil]; omega) ⟨_, _, hk3.2 b2 _ _ _ hm.1 h22⟩ ⟨_, _, h33⟩
          rw [hW3] at hC
          have hd1 : d ≤ 10000 := by omega
          have HC := Lib.hid hC
          have HR := Lib.hid (And.intro hq (And.intro hu (And.intro hW3 (And.intro hk3 (And.intro hd1 hlen)))))
          clear hC hB0 hbn hn1 hum hsz hdp hszt hdpt hq hJq hSk hsk hql hsplit h22 h32 hW3 hk3 h33 hKW hu hlen
          simp only [Tm.cells] at HC
          gi_wp2_with ((try refine ⟨hroom _, ?_⟩); gi_at_call 139; refine HC.out.mono ?_; rintro e W4 (⟨rfl, hq4, hk4⟩ | ⟨rfl, hx4⟩))
          · obtain ⟨hq, hu, hW3, hk3, hd1, hlen⟩ := HR.out
            obtain ⟨q4, hq4m, hJ4⟩ := hq4
            rw [← hW3] at hk4
            go_roundw
            case rel =>
              refine ⟨k + 1, by first | rfl | (rw [wrap64_small _ (by omega) (by omega)]; rfl), by omega, Lib.hid ⟨q ++ q4, ?_, by simpa [List.append_assoc] using hJ4⟩, HKP.out.trans (hk3.trans hk4)⟩
              rw [List.map_append, hq, hq4m, List.take_add_one, hu, Option.toList_some, Tm.pres_append, Tm.pres_cons, Tm.pres_nil, List.append_nil]
            case measure => (try rw [wrap64_small _ (by unfold maxLen at hmax; omega) (by unfold maxLen at hmax; omega)]); simp only [intOf]; omega
          · go_ret
            obtain ⟨hq, hu, hW3, hk3, hd1, hlen⟩ := HR.out
            obtain ⟨q4, ⟨r, hq4m⟩, hJ4⟩ := hx4
            refine .inr ⟨rfl, x :: (q ++ q4), ⟨r ++ Tm.pres (d + 1) (t.sub.drop (k + 1)), ?_⟩, by simpa [List.append_assoc] using hJ4⟩
            have h1 : t.sub.drop k = u :: t.sub.drop (k + 1) := by
              have e0 := Option.some.inj ((List.getElem?_eq_getElem (by omega)).symm.trans hu)
              rw [List.drop_eq_getElem_cons (by omega), e0]
            have e2 : Tm.pres (d + 1) t.sub = Tm.pres (d + 1) (t.sub.take k) ++ (u.pre (d + 1) ++ Tm.pres (d + 1) (t.sub.drop (k + 1))) := by
              rw [← Tm.pres_cons, ← h1, ← Tm.pres_append, List.take_append_drop]
            rw [List.map_cons, hxat, List.map_append, hq, Tm.pre_eq d t, e2, ← hq4m]
            simp [List.append_assoc]
        · obtain rfl : k = nn := by omega
          gi_wp2
          go_ret
          obtain ⟨q, hq, hJq⟩ := HQ.out
          exact .inl ⟨rfl, ⟨x :: q, by rw [List.map_cons, hxat, hq, List.take_of_length_le (by omega), Tm.pre_eq], by simpa using hJq⟩, HK1.out.trans (HK2.out.trans HKP.out)⟩
    · go_ret
      exact .inr ⟨rfl, [x], by rw [List.map_cons, hxat, Tm.pre_eq]; exact ⟨_, rfl⟩, hx2⟩

set_option maxRecDepth 100000 in
set_option maxHeartbeats 2000000 in
theorem nodes1_in (F : Fence) (hd : F.depth = none) (n : Nat) (h2 : F.fn 138) (h3 : F.fn 139) (hro : F.round = none) (w0 : World) (l Bt n₀ m₀ : Nat) (J Jx : List (El w0 n₀) → World → Prop)
    (hJ : ∀ s W o, J s W → J s (W.alloc o)) (t : Tm) (sv : Value) (hdp : t.dp ≤ 9000) (hs : SubAt w0 n₀ sv t.sub) (hfit : t.fit) (hsh : t.long = false)
    (hY : ∀ m pre x W, J pre W → pre.length < t.sz → YieldAt F m Tryz.prog l x.encs W fun e W' =>
      (e = .returned (.bool true) ∧ J (pre ++ [x]) W' ∧ Kp n₀ m₀ W W') ∨ (e = .returned (.bool false) ∧ Jx (pre ++ [x]) W'))
    (W : World) (hW : Below n₀ w0 W) (hn0 : n₀ ≤ W.heap.size) (hm0 : m₀ ≤ W.heap.size) (hB : W.heap[Bt]? = some (.cells (Tm.cells t sv).toArray 25 (0, 0))) (h0 : J [] W) :
    CallsIn F n Tryz.prog 138 #[.func (.yield l) #[] #[], .pointer (some ⟨Bt, 0, none⟩)] W fun e W' => (∃ v, e = .returned v) ∧
      ((∃ ys : List (El w0 n₀), ys.map El.at = t.pre 1 ∧ J ys W') ∨ (∃ pre : List (El w0 n₀), pre.map El.at <+: t.pre 1 ∧ Jx pre W')) := by
  have hroom : ∀ k : Nat, (F.depth.isSome = true → 1 ≤ k) := fun k h => by rw [hd] at h; cases h
  obtain ⟨p, nn, cap, S, rfl, _⟩ := hs.inv
  have hBt : Bt < W.heap.size := (Array.getElem?_eq_some_iff.1 hB).1
  obtain ⟨W2, hW2⟩ : ∃ W2, W2 = (W.alloc (.cells #[.func (.yield l) #[] #[]] 160)).alloc (.cells #[.func (.func 139) #[] #[.pointer (some ⟨W.heap.size, 0, none⟩), .pointer (some ⟨W.heap.size + 1, 0, none⟩)]] 160) := ⟨_, rfl⟩
  have hk1 : Kp n₀ m₀ W (W.alloc (.cells #[.func (.yield l) #[] #[]] 160)) := (Kp.refl _ _ _).alloc hn0 _
  have hk2 : Kp n₀ m₀ W W2 := by rw [hW2]; exact hk1.alloc hn0 _
  have hq2 : W2.heap[W.heap.size]? = some (.cells #[.func (.yield l) #[] #[]] 160 (0, 0)) := by
    rw [hW2]
    exact (Below.heap_alloc _ _ _ (by simp)).trans (World.alloc_heap_new W _)
  have hq3 : W2.heap[W.heap.size + 1]? = some (.cells #[.func (.func 139) #[] #[.pointer (some ⟨W.heap.size, 0, none⟩), .pointer (some ⟨W.heap.size + 1, 0, none⟩)]] 160 (0, 0)) := by
    rw [hW2]
    have := World.alloc_heap_new (W.alloc (.cells #[.func (.yield l) #[] #[]] 160)) (.cells #[.func (.func 139) #[] #[.pointer (some ⟨W.heap.size, 0, none⟩), .pointer (some ⟨W.heap.size + 1, 0, none⟩)]] 160)
    rwa [World.size_alloc] at this
  have hB2 : W2.heap[Bt]? = some (.cells (Tm.cells t (.slice p nn cap)).toArray 25 (0, 0)) := by
    rw [hW2]
    exact (Below.heap_alloc _ _ _ (by simp; omega)).trans ((Below.heap_alloc _ _ _ hBt).trans hB)
  have t0 := cell_of (i := 0) hB2 rfl
  have t1 := cell_of (i := 1) hB2 rfl
  have t2 := cell_of (i := 2) hB2 rfl
  have t3 := cell_of (i := 3) hB2 rfl
  have t4 := cell_of (i := 4) hB2 rfl
  have t5 := cell_of (i := 5) hB2 rfl
  have HC := Lib.hid (visit_in F hd h3 hro w0 l n₀ m₀ t.sz (W.heap.size) (W.heap.size + 1) J Jx ⟨hm0, by omega⟩ hJ hY t.sz t (Nat.le_refl _) (n - 1) 1 (.slice p nn cap) [] W2 (by omega) (hW.trans hk2.1) (Nat.le_trans hn0 hk2.1.size) hs hfit hsh (by rw [hW2]; exact hJ _ _ _ (hJ _ _ _ h0)) (by simp) ⟨_, _, hq2⟩ ⟨_, _, hq3⟩)
  rw [hW2] at t0 t1 t2 t3 t4 t5 HC
  simp only [Tm.cells] at HC
  clear hk1 hk2 hq2 hq3 hB2 hW2 hB hY hJ h0
  refine callsIn_of_wp Tryz.func138 rfl h2 ?_ hro
  simp only [Tryz.ntmps138, List.size_toArray, List.length_cons, List.length_nil, Nat.reduceAdd, Nat.reduceSub, Array.replicate_succ, Array.replicate_zero, List.push_toArray, List.append_toArray, List.nil_append, List.cons_append]
  gi_wp2_with ((try refine ⟨hroom _, ?_⟩); gi_at_call 139; refine HC.out.mono ?_; rintro e W4 (⟨rfl, ⟨q, hq, hj⟩, hk4⟩ | ⟨rfl, q, hq, hj⟩))
  · go_end0
    exact ⟨⟨_, rfl⟩, .inl ⟨q, hq, by simpa using hj⟩⟩
  · go_end0
    exact ⟨⟨_, rfl⟩, .inr ⟨q, hq, by simpa using hj⟩⟩

set_option maxHeartbeats 1000000 in
/-- nodes hands back its iterator: t lies in a box of its own. -/
theorem nodes_in (F : Fence) (n : Nat) (h1 : F.fn 81) (hro : F.round = none) (t : Tm) (p : Option Addr) (nn cap : Nat) (w : World) :
    CallsIn F n Tryz.prog 81 #[.agg (Tm.cells t (.slice p nn cap)).toArray] w fun e w' => e = .returned (.func (.func 138) #[] #[.pointer (some ⟨w.heap.size, 0, none⟩)]) ∧ w' = w.alloc (.cells (Tm.cells t (.slice p nn cap)).toArray 25) := by
  refine callsIn_of_wp Tryz.func81 rfl h1 ?_ hro
  simp only [Tryz.ntmps81, Tm.cells, List.size_toArray, List.length_cons, List.length_nil, Nat.reduceAdd, Nat.reduceSub, Array.replicate_succ, Array.replicate_zero, List.push_toArray, List.append_toArray, List.nil_append, List.cons_append]
  gi_wp2
  go_ret
  exact ⟨rfl, rfl⟩

/-- The iterator's contract, as a range over it wants it. -/
theorem nodes_stops (F : Fence) (hd : F.depth = none) (n : Nat) (h2 : F.fn 138) (h3 : F.fn 139) (hro : F.round = none) (w0 : World) (Bt n₀ m₀ : Nat) (t : Tm) (sv : Value) (hdp : t.dp ≤ 9000) (hs : SubAt w0 n₀ sv t.sub) (hfit : t.fit) (hsh : t.long = false)
    (w : World) (hw : Below n₀ w0 w) (hn0 : n₀ ≤ w.heap.size) (hm0 : m₀ ≤ w.heap.size) (hBt : Bt < w.heap.size) (hB : w.heap[Bt]? = some (.cells (Tm.cells t sv).toArray 25 (0, 0))) :
    SeqStopsK F n Tryz.prog 138 #[.pointer (some ⟨Bt, 0, none⟩)] (El.encs (w0 := w0) (n₀ := n₀)) (Kp n₀ m₀) (fun ys => ys.map El.at = t.pre 1) (fun pre => pre.map El.at <+: t.pre 1) t.sz w := fun l J Jx W hW hJ _ hY h0 =>
  nodes1_in F hd n h2 h3 hro w0 l Bt n₀ m₀ J Jx (fun s W' o hs => hJ s W' _ none hs (World.grownBy_alloc W' o none) (fun r e => by cases e)) t sv hdp hs hfit hsh (fun m pre x W hj hl => YieldAt.anyDepth hd m (hY pre x W hj hl)) W (hw.trans (hW.mono hn0)) (Nat.le_trans hn0 hW.size) (Nat.le_trans hm0 hW.size) ((hW.block Bt hBt).trans hB) h0
end Go.Proofs.YthogpmddijbigaaGreatDoor
