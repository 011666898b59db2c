import Derived.Test.YtdmadnfadgggcaaGreatDoorGa
import Derived.RangeFuncKeeps
import Derived.RangeFuncBound
import Derived.RangeFuncLeaves
import Derived.Shelf.Abstract
import Derived.OwnWalkIn
import Derived.TacticsInMore
import Derived.LoopIn
import Derived.Laws.EntriesVeiled
import Derived.Test.YtdmadnfadgggcaaGreatDoorGb
import Derived.Maps.OwnIn
set_option linter.unusedVariables false
set_option linter.unusedSimpArgs false
set_option warningAsError false
set_option maxHeartbeats 2000000
open Go.Lib (hid)
open Go.Proofs.Tryz (prog)
noncomputable section
namespace Go.Proofs.YtdmadnfadgggcaaGreatDoor
open Go.RowKit
mutual
def Tm.long : Tm -> Bool | .mk _ _ _ s _ l => Tm.longs l || decide (200 < s.size)
def Tm.longs : List Tm -> Bool | [] => false | t :: l => t.long || Tm.longs l
end
theorem Tm.long_eq (t : Tm) : t.long = (Tm.longs t.sub || decide (200 < t.name.size)) := by cases t; rw [Tm.long]; rfl
theorem Tm.longs_append (a b : List Tm) : Tm.longs (a ++ b) = (Tm.longs a || Tm.longs b) := by
 induction a with
 | nil => simp [Tm.longs]
 | cons t a ih => simp only [List.cons_append, Tm.longs, ih, Bool.or_assoc]
theorem Tm.longs_mem {t : Tm} {l : List Tm} (h : t ∈ l) (hl : Tm.longs l = false) : t.long = false := by
 induction l with
 | nil => cases h
 | cons u l ih =>
   simp only [Tm.longs, Bool.or_eq_false_iff] at hl
   cases h with
   | head => exact hl.1
   | tail _ h => exact ih h hl.2
theorem z1f {l : List Tm} {k : Nat} {u : Tm} (h : l[k]? = some u) : l.take (k + 1) = l.take k ++ [u] := by rw [List.take_add_one, h]; rfl
theorem Tm.longs_split {l : List Tm} {k : Nat} {u : Tm} (h : l[k]? = some u) (hu : u.long = true) : Tm.longs l = true := by have e : l = l.take (k + 1) ++ l.drop (k + 1) := (List.take_append_drop _ _).symm;rw [e, Tm.longs_append, z1f h, Tm.longs_append];simp [Tm.longs, hu]
set_option maxRecDepth 100000 in
theorem zfr : ∀ (z : Nat) (t : Tm), t.sz <= z -> ∀ (sv : Value) (B : Nat) (W : World), B <= W.heap.size -> SubAt W B sv t.sub ->
 Calls prog 72 #[.agg (Tm.cells t sv).toArray] W fun e w' => e = .returned (.bool t.long) /\ Below W.heap.size W w' := by
 intro z
 induction z with
 | zero => intro t ht; rw [Tm.sz_eq] at ht; omega
 | succ z ih =>
   intro t ht sv B W hB hs;obtain ⟨p, nn, cap, S, rfl, hlen, hmax, _, hcells, hsubs⟩ := hs.inv;obtain ⟨W1, hW1⟩ : ∃ W1, W1 = W.alloc (.cells #[.int .u8 t.kind, .int .i64 t.width, .int .u64 t.bits, .string t.name, .int .i64 t.low, .slice p nn cap] 90) := ⟨_, rfl⟩;have hb1 : Below W.heap.size W W1 := by rw [hW1]; exact (Below.refl _ _).alloc (Nat.le_refl _) _
   have hnew : W1.heap[W.heap.size]? = some (.cells #[.int .u8 t.kind, .int .i64 t.width, .int .u64 t.bits, .string t.name, .int .i64 t.low, .slice p nn cap] 90 (0, 0)) := by rw [hW1]; show (W.heap.push _)[W.heap.size]? = _; simp
   have hsz1 : W1.heap.size = W.heap.size + 1 := by rw [hW1]; simp
   have H1 := hid (And.intro hb1 (And.intro hnew (And.intro hsz1 (And.intro hcells hsubs))));have HW := hid hW1;have HE := hid (Tm.long_eq t);clear hb1 hnew hsz1 hcells hsubs hs;simp only [Tm.cells];go_enter Tryz.func72, Tryz.ntmps72
   go_wp2
   rw [<- HW.out];clear hW1;go_loopw [3] (fun vi wr => ∃ k : Nat, vi = .int .i64 k /\ k <= nn /\ Tm.longs (t.sub.take k) = false /\ Below W1.heap.size W1 wr) (fun vi _ => nn - (intOf vi).toNat)
   case atStart => exact ⟨0, rfl, by omega, by simp [Tm.longs], Below.refl _ _⟩
   case round =>
    obtain ⟨k, rfl, hk, hl, hb⟩ := hrel;have HL := hid hl;have HB := hid hb;clear hl hb;obtain ⟨hb1, hnew, hsz1, hcells, hsubs⟩ := H1.out;have b5 : wr.cell? ⟨W.heap.size, 5, none⟩ = some (.slice p nn cap) := (by rw [HB.out.cell (by simp [hsz1])]; simp [World.cell?, hnew]);have b3 : wr.cell? ⟨W.heap.size, 3, none⟩ = some (.string t.name) := (by rw [HB.out.cell (by simp [hsz1])]; simp [World.cell?, hnew]);have hWB : Below W.heap.size W wr := hb1.trans (HB.out.mono hb1.size);by_cases hlt : k < nn
    ·obtain ⟨u, hu⟩ : ∃ u, t.sub[k]? = some u := ⟨_, List.getElem?_eq_getElem (by omega)⟩;obtain ⟨b, o, rfl, hbn, a0, a1, a2, a3, a4, a5⟩ := hcells k u hu;rw [<- hWB.cell (Nat.lt_of_lt_of_le hbn hB)] at a0 a1 a2 a3 a4 a5;have hsz := Tm.sz_mem (List.mem_of_getElem? hu);have hszt := Tm.sz_eq t;have hC := ih u (by omega) (S k) B wr (Nat.le_trans hB hWB.size) ((hsubs k u hu).kept (hWB.mono hB));simp only [Tm.cells] at hC;have HC := hid hC;have HU := hid hu
     cases hul : u.long with
     | true =>
       rw [hul] at HC;have HT := hid (Tm.longs_split hu hul);clear hC hu hul hsz hszt hWB hbn hcells hsubs hb1 hnew hsz1 b3;go_wp2_with (go_at_call 72; (with_reducible refine HC.out.mono ?_); rintro e w2 ⟨rfl, hb2⟩)
       go_ret
       refine ⟨by rw [HE.out, HT.out]; rfl, ?_⟩;have := H1.out.1
       exact this.trans ((HB.out.trans (hb2.mono HB.out.size)).mono this.size)
     | false =>
       rw [hul] at HC;have HUL := hid hul;clear hC hu hul hsz hszt hWB hbn hcells hsubs hb1 hnew hsz1 b3;go_wp2_with (go_at_call 72; (with_reducible refine HC.out.mono ?_); rintro e w2 ⟨rfl, hb2⟩)
       go_roundw
       case rel => exact ⟨k + 1, by first | rfl | (rw [zd _ (by unfold maxLen at hmax; omega) (by unfold maxLen at hmax; omega)]; rfl), by omega, by rw [z1f HU.out, Tm.longs_append, HL.out]; simp [Tm.longs, HUL.out], HB.out.trans (hb2.mono HB.out.size)⟩
       case measure => (try rw [zd _ (by unfold maxLen at hmax; omega) (by unfold maxLen at hmax; omega)]); simp only [intOf]; omega
    ·obtain rfl : k = nn := by omega
     clear hcells hsubs hnew hsz1;go_wp2
     go_ret
     refine ⟨?_, hWB⟩;have hl := HL.out;rw [List.take_of_length_le (by omega)] at hl;rw [HE.out, hl, Bool.false_or];show Ending.returned (.bool _) = _
     congr 2
     first | rfl | (simp; omega)
def z9z (t : Tm) (lim : Int) (dee : Nat) (n : Nat) (is : Bool) : Prop := 1 <= n /\ (n : Int) <= lim + 1 /\ (is = true -> (n : Int) <= lim -> t.sz = n /\ t.dp <= dee)
theorem Tm.dps_append (a b : List Tm) : Tm.dps (a ++ b) = max (Tm.dps a) (Tm.dps b) := by
 induction a with
 | nil => simp [Tm.dps]
 | cons t a ih => simp only [List.cons_append, Tm.dps, ih]; omega
set_option maxRecDepth 100000 in
theorem zdb : ∀ (dee : Nat) (t : Tm) (lim : Int) (sv : Value) (B : Nat) (W : World), dee <= 100 -> 0 <= lim -> lim <= 1000 -> B <= W.heap.size -> SubAt W B sv t.sub ->
 Calls prog 71 #[.agg (Tm.cells t sv).toArray, .int .i64 lim, .int .i64 dee] W fun e w' => (∃ n is, e = .returned (.tuple #[.int .i64 (n : Nat), .bool is]) /\ z9z t lim dee n is) /\ Below W.heap.size W w' := by
 intro dee
 induction dee with
 | zero =>
   intro t lim sv B W _ h0 h1 hB hs;obtain ⟨p, nn, cap, S, rfl, _⟩ := hs.inv;simp only [Tm.cells];clear hs;go_enter Tryz.func71, Tryz.ntmps71
   go_wp2
   go_ret2
   exact ⟨⟨1, false, rfl, by omega, by omega, fun h => by cases h⟩, (Below.refl _ _).alloc (Nat.le_refl _) _⟩
 | succ dee ih =>
   intro t lim sv B W hd h0 h1 hB hs;obtain ⟨p, nn, cap, S, rfl, hlen, hmax, _, hcells, hsubs⟩ := hs.inv;obtain ⟨W1, hW1⟩ : ∃ W1, W1 = W.alloc (.cells #[.int .u8 t.kind, .int .i64 t.width, .int .u64 t.bits, .string t.name, .int .i64 t.low, .slice p nn cap] 90) := ⟨_, rfl⟩;have hb1 : Below W.heap.size W W1 := by rw [hW1]; exact (Below.refl _ _).alloc (Nat.le_refl _) _
   have hnew : W1.heap[W.heap.size]? = some (.cells #[.int .u8 t.kind, .int .i64 t.width, .int .u64 t.bits, .string t.name, .int .i64 t.low, .slice p nn cap] 90 (0, 0)) := by rw [hW1]; show (W.heap.push _)[W.heap.size]? = _; simp
   have hsz1 : W1.heap.size = W.heap.size + 1 := by rw [hW1]; simp
   have H1 := hid (And.intro hb1 (And.intro hnew (And.intro hsz1 (And.intro hcells hsubs))));have HW := hid hW1;obtain ⟨D, hD⟩ : ∃ D : Nat, D = dee + 1 := ⟨_, rfl⟩;have hdd : ((D : Int) == 0) = false := by simp; omega
   have hd1 : (D : Int) - 1 = (dee : Int) := by omega
   have HDD := hid hD;rw [<- hD];clear hb1 hnew hsz1 hcells hsubs hs hD;simp only [Tm.cells];go_enter Tryz.func71, Tryz.ntmps71
   go_wp2
   rw [<- HW.out];clear hW1;go_loopw [8, 9] (fun vn vi wr => ∃ k n : Nat, vn = .int .i64 n /\ vi = .int .i64 k /\ k <= nn /\ 1 <= n /\ (n : Int) <= lim + 1 /\ Hid ((n : Int) <= lim -> n = 1 + Tm.szs (t.sub.take k) /\ Tm.dps (t.sub.take k) <= dee) /\ Below W1.heap.size W1 wr) (fun vn vi _ => nn - (intOf vi).toNat)
   case atStart => exact ⟨0, 1, rfl, rfl, by omega, by omega, by omega, hid (fun _ => by simp [Tm.szs, Tm.dps]), Below.refl _ _⟩
   case round =>
    obtain ⟨k, n, rfl, rfl, hk, hn0, hn1, HN, hb⟩ := hrel;have HB := hid hb;clear hb;obtain ⟨hb1, hnew, hsz1, hcells, hsubs⟩ := H1.out;have b5 : wr.cell? ⟨W.heap.size, 5, none⟩ = some (.slice p nn cap) := (by rw [HB.out.cell (by simp [hsz1])]; simp [World.cell?, hnew]);have hWB : Below W.heap.size W wr := hb1.trans (HB.out.mono hb1.size);by_cases hgo : k < nn /\ (n : Int) <= lim
    ·obtain ⟨hlt, hnl⟩ := hgo;obtain ⟨u, hu⟩ : ∃ u, t.sub[k]? = some u := ⟨_, List.getElem?_eq_getElem (by omega)⟩;obtain ⟨b, o, rfl, hbn, a0, a1, a2, a3, a4, a5⟩ := hcells k u hu;rw [<- hWB.cell (Nat.lt_of_lt_of_le hbn hB)] at a0 a1 a2 a3 a4 a5;have hC := ih u (lim - n) (S k) B wr (by omega) (by omega) (by omega) (Nat.le_trans hB hWB.size) ((hsubs k u hu).kept (hWB.mono hB));simp only [Tm.cells] at hC;have HC := hid hC;have HU := hid hu;clear hC hu hWB hbn hcells hsubs hb1 hnew hsz1;go_wp2_with (go_at_call 71; (with_reducible refine HC.out.mono ?_); rintro e w2 ⟨⟨m, is, rfl, hm⟩, hb2⟩; have HM := hid hm; clear hm)
     ·go_ret2
      refine ⟨⟨n, false, rfl, hn0, hn1, fun h => by cases h⟩, ?_⟩;have := H1.out.1;exact this.trans ((HB.out.trans (hb2.mono HB.out.size)).mono this.size)
     ·obtain ⟨m0, m1, m2⟩ := HM.out;go_roundw
      case rel => refine ⟨k + 1, n + m, by first | rfl | (rw [zd _ (by omega) (by omega)]; rfl), by first | rfl | (rw [zd _ (by unfold maxLen at hmax; omega) (by unfold maxLen at hmax; omega)]; rfl), by omega, by omega, by omega, hid fun hle => ?_, HB.out.trans (hb2.mono HB.out.size)⟩;obtain ⟨e1, e2⟩ := HN.out hnl;obtain ⟨e3, e4⟩ := m2 (by cases is with | true => rfl | false => simp_all) (by omega);rw [z1f HU.out, Tm.szs_append, Tm.dps_append, Tm.szs_cons, Tm.szs_nil];refine ⟨by omega, ?_⟩;simp only [Tm.dps];omega
      case measure => (try rw [zd _ (by unfold maxLen at hmax; omega) (by unfold maxLen at hmax; omega)]); simp only [intOf]; omega
    ·have hfin : z9z t lim D n true := ⟨hn0, hn1, fun _ hle => by
      have hkn : k = nn := by
       by_cases h : k < nn
       ·exact absurd ⟨h, hle⟩ hgo
       ·omega
      obtain ⟨e1, e2⟩ := HN.out hle;rw [List.take_of_length_le (by omega)] at e1 e2;rw [Tm.sz_eq, Tm.dp_eq, HDD.out];omega⟩
     have HF := hid hfin;clear hfin hcells hsubs hnew hsz1;by_cases hkn : k < nn
     ·have hnl : ¬ (n : Int) <= lim := fun h => hgo ⟨hkn, h⟩;clear hgo;go_wp2
      go_ret2
      first
       | exact ⟨⟨n, true, rfl, HF.out⟩, hWB⟩
       | exact ⟨⟨n, .inr ⟨rfl, HF.out⟩⟩, hWB⟩
     ·have hkn' : decide ((k : Int) < (nn : Int)) = false := (by simp; omega);clear hgo;go_wp2
      go_ret2
      first
       | exact ⟨⟨n, true, rfl, HF.out⟩, hWB⟩
       | exact ⟨⟨n, .inr ⟨rfl, HF.out⟩⟩, hWB⟩
set_option maxRecDepth 100000 in
theorem zdq (t : Tm) (sv : Value) (B : Nat) (W : World) (hB : B <= W.heap.size) (hs : SubAt W B sv t.sub) :
 Calls prog 34 #[.agg (Tm.cells t sv).toArray] W fun e w' => (∃ g, e = .returned (.bool g) /\ (g = false -> t.sz <= 500 /\ t.dp <= 80 /\ t.long = false)) /\ Below W.heap.size W w' := by
 obtain ⟨p, nn, cap, S, rfl, _⟩ := hs.inv;obtain ⟨W1, hW1⟩ : ∃ W1, W1 = W.alloc (.cells #[.int .u8 t.kind, .int .i64 t.width, .int .u64 t.bits, .string t.name, .int .i64 t.low, .slice p nn cap] 90) := ⟨_, rfl⟩;have hb1 : Below W.heap.size W W1 := by rw [hW1]; exact (Below.refl _ _).alloc (Nat.le_refl _) _
 have hnew : W1.heap[W.heap.size]? = some (.cells #[.int .u8 t.kind, .int .i64 t.width, .int .u64 t.bits, .string t.name, .int .i64 t.low, .slice p nn cap] 90 (0, 0)) := by rw [hW1]; show (W.heap.push _)[W.heap.size]? = _; simp
 have hsz1 : W1.heap.size = W.heap.size + 1 := by rw [hW1]; simp
 have HC : Hid (Calls prog 71 #[.agg #[.int .u8 t.kind, .int .i64 t.width, .int .u64 t.bits, .string t.name, .int .i64 t.low, .slice p nn cap], .int .i64 500, .int .i64 80] W1 fun e w' => (∃ n is, e = .returned (.tuple #[.int .i64 (n : Nat), .bool is]) /\ z9z t 500 80 n is) /\ Below W1.heap.size W1 w') :=
  hid (zdb 80 t 500 (.slice p nn cap) B W1 (by omega) (by omega) (by omega) (Nat.le_trans hB hb1.size) (hs.kept (hb1.mono hB)))
 have HL : Hid (∀ w, Below W1.heap.size W1 w -> Calls prog 72 #[.agg #[.int .u8 t.kind, .int .i64 t.width, .int .u64 t.bits, .string t.name, .int .i64 t.low, .slice p nn cap]] w fun e w' => e = .returned (.bool t.long) /\ Below w.heap.size w w') :=
  hid (fun w hb => by have hWB : Below W.heap.size W w := hb1.trans (hb.mono hb1.size);exact zfr t.sz t (Nat.le_refl _) (.slice p nn cap) B w (Nat.le_trans hB hWB.size) (hs.kept (hWB.mono hB)))
 have HS := hid (And.intro hb1 (And.intro hnew hsz1));simp only [Tm.cells];rw [hW1] at HC;have HW := hid hW1;clear hs hb1 hnew hsz1 hW1;have n0 : ∀ w : World, Below W1.heap.size W1 w -> w.cell? ⟨W.heap.size, 0, none⟩ = some (.int .u8 t.kind) /\ w.cell? ⟨W.heap.size, 1, none⟩ = some (.int .i64 t.width) /\ w.cell? ⟨W.heap.size, 2, none⟩ = some (.int .u64 t.bits) /\ w.cell? ⟨W.heap.size, 3, none⟩ = some (.string t.name) /\ w.cell? ⟨W.heap.size, 4, none⟩ = some (.int .i64 t.low) /\ w.cell? ⟨W.heap.size, 5, none⟩ = some (.slice p nn cap) := fun w hb => by obtain ⟨hb1, hnew, hsz1⟩ := HS.out;refine ⟨?_, ?_, ?_, ?_, ?_, ?_⟩ <;> (rw [hb.cell (by simp [hsz1])]; simp [World.cell?, hnew])
 have HN := hid n0;clear n0;go_enter Tryz.func34, Tryz.ntmps34
 go_wp2_with (first
  | (go_at_call 71; (with_reducible refine HC.out.mono ?_); rintro e w2 ⟨⟨n, is, rfl, hm⟩, hb2⟩; have HM := hid hm; rw [<- HW.out] at hb2; have HB2 := hid hb2; clear hm hb2; obtain ⟨c0, c1, c2, c3, c4, c5⟩ := HN.out w2 HB2.out)
  | (go_at_call 72; (with_reducible refine (HL.out _ HB2.out).mono ?_); rintro e w3 ⟨rfl, hb3⟩))
 ·rename_i hn;go_ret
  obtain ⟨m0, m1, m2⟩ := HM.out;obtain ⟨e1, e2⟩ := m2 (by assumption) hn;exact ⟨⟨decide (500 < (n : Int)) || t.long, rfl, fun h => ⟨by omega, e2, (Bool.or_eq_false_iff.1 h).2⟩⟩, HS.out.1.trans ((HB2.out.trans (hb3.mono HB2.out.size)).mono HS.out.1.size)⟩
 ·go_ret
  exact ⟨.inr rfl, HS.out.1.trans (HB2.out.mono HS.out.1.size)⟩
 ·rename_i hi;go_ret
  refine ⟨⟨true, ?_, fun h => by cases h⟩, HS.out.1.trans (HB2.out.mono HS.out.1.size)⟩;have : is = false := by cases is with | true => exact absurd rfl hi | false => rfl
  subst this;rfl
end Go.Proofs.YtdmadnfadgggcaaGreatDoor
namespace Go.Proofs.YtdmadnfadgggcaaGreatDoor
open Go.RowKit Go.Shelf
attribute [local go_sem] Oper.semAt_some
theorem z9q {F : Fence} (hd : F.depth = none) (k : Nat) : F.room k := fun d h => by rw [hd] at h; cases h
theorem RoundIn.anyDepth {F : Fence} (hd : F.depth = none) {m m' : Nat} {P : Program} {l : Nat} {f : FuncId} {tmps : Array Value} {assign body : Code} {w : World} {R : Ending -> World -> Prop}
 (h : RoundIn F m P l f tmps assign body w R) : RoundIn F m' P l f tmps assign body w R := ⟨h.1, fun c cs _ => h.2 c cs (z9q hd _)⟩
theorem YieldAt.anyDepth {F : Fence} (hd : F.depth = none) {m : Nat} (m' : Nat) {P : Program} {l : Nat} {args : Array Value} {W : World} {R : Ending -> World -> Prop} (h : YieldAt F m P l args W R) : YieldAt F m' P l args W R := by obtain ⟨fn, tmps, assign, body, hy, hR⟩ := h;exact ⟨fn, tmps, assign, body, hy, RoundIn.anyDepth hd hR⟩
mutual
def Tm.pre (d : Nat) : Tm -> List (Nat × Tm) | .mk k w b s lo l => (d, .mk k w b s lo l) :: Tm.pres (d + 1) l
def Tm.pres (d : Nat) : List Tm -> List (Nat × Tm) | [] => [] | t :: l => t.pre d ++ Tm.pres d l
end
theorem Tm.pre_eq (d : Nat) (t : Tm) : t.pre d = (d, t) :: Tm.pres (d + 1) t.sub := by cases t; simp [Tm.pre, Tm.sub]
theorem Tm.pres_nil (d : Nat) : Tm.pres d [] = [] := by simp [Tm.pres]
theorem Tm.pres_cons (d : Nat) (t : Tm) (l : List Tm) : Tm.pres d (t :: l) = t.pre d ++ Tm.pres d l := by simp [Tm.pres]
theorem Tm.pres_append (d : Nat) (a b : List Tm) : Tm.pres d (a ++ b) = Tm.pres d a ++ Tm.pres d b := by
 induction a with
 | nil => simp [Tm.pres_nil]
 | cons t a ih => rw [List.cons_append, Tm.pres_cons, Tm.pres_cons, ih, List.append_assoc]
mutual
theorem Tm.pre_length (d : Nat) : ∀ t : Tm, (t.pre d).length = t.sz
 | .mk k w b s lo l => by simp [Tm.pre, Tm.sz, Tm.pres_length (d + 1) l]
theorem Tm.pres_length (d : Nat) : ∀ l : List Tm, (Tm.pres d l).length = Tm.szs l
 | [] => by simp [Tm.pres, Tm.szs]
 | t :: l => by simp [Tm.pres, Tm.szs, Tm.pre_length d t, Tm.pres_length d l]
end
abbrev El (w0 : World) (n₀ : Nat) : Type := { x : Nat × Tm × Value // SubAt w0 n₀ x.2.2 x.2.1.sub /\ x.2.1.fit /\ x.2.1.long = false }
def El.at {w0 : World} {n₀ : Nat} (x : El w0 n₀) : Nat × Tm := (x.1.1, x.1.2.1)
def El.encs {w0 : World} {n₀ : Nat} (x : El w0 n₀) : Array Value := #[.int .i64 x.1.1, .agg (Tm.cells x.1.2.1 x.1.2.2).toArray]
def Kp (n₀ m₀ : Nat) (W W' : World) : Prop := Below n₀ W W' /\ ∀ k c e f, m₀ <= k -> W.heap[k]? = some (.cells c e f) -> W'.heap[k]? = some (.cells c e f)
theorem Kp.refl (n₀ m₀ : Nat) (W : World) : Kp n₀ m₀ W W := ⟨Below.refl _ _, fun _ _ _ _ _ h => h⟩
theorem Kp.trans {n₀ m₀ : Nat} {A B C : World} (h : Kp n₀ m₀ A B) (k : Kp n₀ m₀ B C) : Kp n₀ m₀ A C := ⟨h.1.trans k.1, fun i c e f hi hc => k.2 i c e f hi (h.2 i c e f hi hc)⟩
theorem Kp.alloc {n₀ m₀ : Nat} {A W : World} (h : Kp n₀ m₀ A W) (hn : n₀ <= A.heap.size) (o : Obj) : Kp n₀ m₀ A (W.alloc o) :=
 ⟨h.1.alloc (Nat.le_trans hn h.1.size) o, fun i c e f hi hc => by have := h.2 i c e f hi hc;exact (Below.heap_alloc W o i (by have := (Array.getElem?_eq_some_iff.1 this).1; omega)).trans this⟩
theorem Kp.cell {n₀ m₀ : Nat} {A W : World} (h : Kp n₀ m₀ A W) {k j : Nat} {c : Array Value} {e : TypeId} {f : Nat × Nat} (hk : m₀ <= k) (hc : A.heap[k]? = some (.cells c e f)) : W.heap[k]? = some (.cells c e f) := h.2 k c e f hk hc
theorem zb {W : World} {B i : Nat} {c : Array Value} {v : Value} {t : TypeId} {f : Nat × Nat} (h : W.heap[B]? = some (.cells c t f)) (hv : c[i]? = some v) : W.cell? ⟨B, i, none⟩ = some v := by simp [World.cell?, h, hv]
set_option maxRecDepth 100000 in
theorem zgg (F : Fence) (hd : F.depth = none) (h3 : F.fn 196) (hro : F.round = none) (w0 : World) (l n₀ m₀ N b2 b3 : Nat) (J Jx : List (El w0 n₀) -> World -> Prop) (hm : m₀ <= b2 /\ m₀ <= b3)
 (hJ : ∀ s W o, J s W -> J s (W.alloc o))
 (hY : ∀ m pre x W, J pre W -> pre.length < N -> YieldAt F m prog l x.encs W fun e W' =>
   (e = .returned (.bool true) /\ J (pre ++ [x]) W' /\ Kp n₀ m₀ W W') ∨ (e = .returned (.bool false) /\ Jx (pre ++ [x]) W')) :
 ∀ (z : Nat) (t : Tm), t.sz <= z -> ∀ (n d : Nat) (sv : Value) (pre : List (El w0 n₀)) (W : World), d + t.dp <= 10000 -> Below n₀ w0 W -> n₀ <= W.heap.size -> SubAt w0 n₀ sv t.sub -> t.fit -> t.long = false -> J pre W -> pre.length + t.sz <= N ->
  (∃ e f, W.heap[b2]? = some (.cells #[.func (.yield l) #[] #[]] e f)) -> (∃ e f, W.heap[b3]? = some (.cells #[.func (.func 196) #[] #[.pointer (some ⟨b2, 0, none⟩), .pointer (some ⟨b3, 0, none⟩)]] e f)) ->
  CallsIn F n prog 196 #[.int .i64 d, .agg (Tm.cells t sv).toArray, .pointer (some ⟨b2, 0, none⟩), .pointer (some ⟨b3, 0, none⟩)] W fun e W' =>
   (e = .returned (.bool true) /\ (∃ q : List (El w0 n₀), q.map El.at = t.pre d /\ J (pre ++ q) W') /\ Kp n₀ m₀ W W') ∨ (e = .returned (.bool false) /\ ∃ q : List (El w0 n₀), q.map El.at <+: t.pre d /\ Jx (pre ++ q) W') := by
 intro z
 induction z with
 | zero => intro t ht; rw [Tm.sz_eq] at ht; omega
 | succ z ih =>
   intro t ht n d sv pre W hdd hW hn0 hs hfit hsh h0 hN h2 h3';obtain ⟨e2, f2, h2⟩ := h2;obtain ⟨e3, f3, h3'⟩ := h3';have hb2 : b2 < W.heap.size := (Array.getElem?_eq_some_iff.1 h2).1;have hb3 : b3 < W.heap.size := (Array.getElem?_eq_some_iff.1 h3').1;obtain ⟨p, nn, cap, S, rfl, hlen, hmax, hfits, hcells, hsubs⟩ := hs.inv;obtain ⟨x, hx⟩ : ∃ x : El w0 n₀, x = ⟨(d, t, .slice p nn cap), hs, hfit, hsh⟩ := ⟨_, rfl⟩;have HLS := hid (show Tm.longs t.sub = false by rw [Tm.long_eq] at hsh; exact (Bool.or_eq_false_iff.1 hsh).1);have hxat : El.at x = (d, t) := by rw [hx]; rfl
   have hxe : x.encs = #[.int .i64 d, .agg #[.int .u8 t.kind, .int .i64 t.width, .int .u64 t.bits, .string t.name, .int .i64 t.low, .slice p nn cap]] := by rw [hx]; rfl
   have hroom : ∀ k : Nat, (F.depth.isSome = true -> 1 <= k) := fun k h => by rw [hd] at h; cases h
   obtain ⟨W1, hW1⟩ : ∃ W1, W1 = W.alloc (Obj.cells #[.int .u8 t.kind, .int .i64 t.width, .int .u64 t.bits, .string t.name, .int .i64 t.low, .slice p nn cap] 90) := ⟨_, rfl⟩;have hk1 : Kp n₀ m₀ W W1 := by rw [hW1]; exact (Kp.refl _ _ _).alloc hn0 _
   have hnew : W1.heap[W.heap.size]? = some (.cells #[.int .u8 t.kind, .int .i64 t.width, .int .u64 t.bits, .string t.name, .int .i64 t.low, .slice p nn cap] 90 (0, 0)) := by rw [hW1]; exact World.alloc_heap_new W _
   have h21 := hk1.2 b2 _ _ _ hm.1 h2;have h31 := hk1.2 b3 _ _ _ hm.2 h3';have c2 := zb (i := 0) h21 rfl;have n0 := zb (i := 0) hnew rfl;have n1 := zb (i := 1) hnew rfl;have n2 := zb (i := 2) hnew rfl;have n3 := zb (i := 3) hnew rfl;have n4 := zb (i := 4) hnew rfl;have n5 := zb (i := 5) hnew rfl;have hms : m₀ <= W.heap.size := by omega
   obtain ⟨fn, tmps, assign, body, hy, hR⟩ := YieldAt.mono (R' := fun e W' => (e = .returned (.bool true) /\ J (pre ++ [x]) W' /\ Kp n₀ m₀ W1 W' /\ W'.cell? ⟨W.heap.size, 5, none⟩ = some (.slice p nn cap)) ∨ (e = .returned (.bool false) /\ Jx (pre ++ [x]) W'))
    (hY (n - 1) pre x W1 (by rw [hW1]; exact hJ _ _ _ h0) (by rw [Tm.sz_eq] at hN; omega)) (fun e W' h => h.elim (fun ⟨he, hj, hk⟩ => .inl ⟨he, hj, hk, zb (i := 5) (hk.2 _ _ _ _ hms hnew) rfl⟩) .inr)
   rw [hxe] at hy;have HX := hid hx;have HW1 := hid hW1;refine callsIn_of_wp Tryz.func196 rfl h3 ?_ hro;simp only [Tryz.ntmps196, Tm.cells, List.size_toArray, List.length_cons, List.length_nil, Nat.reduceAdd, Nat.reduceSub, Array.replicate_succ, Array.replicate_zero, List.push_toArray, List.append_toArray, List.nil_append, List.cons_append];rw [hW1] at c2 n0 n1 n2 n3 n4 n5 hy hR hk1;have HK1 := hid hk1;clear hx hW1 hk1;gi_wp2_with ((try refine ⟨hroom _, ?_⟩); refine hR.mono ?_; clear hR; rintro e W2 (⟨rfl, hJ2, hk2, c5⟩ | ⟨rfl, hx2⟩))
   ·have HK2 := hid hk2;have HJ2 := hid hJ2;clear hk2 hJ2 c2 n0 n1 n2 n3 n4 n5 hy;gi_loopw [17] (fun vi wr => ∃ k : Nat, vi = .int .i64 k /\ k <= nn /\ Hid (∃ q : List (El w0 n₀), q.map El.at = Tm.pres (d + 1) (t.sub.take k) /\ J (pre ++ [x] ++ q) wr) /\ Kp n₀ m₀ W2 wr) (fun vi _ => nn - (intOf vi).toNat)
    case atStart => exact ⟨0, rfl, by omega, hid ⟨[], by simp [Tm.pres_nil], by simpa using HJ2.out⟩, Kp.refl _ _ _⟩
    case round =>
     obtain ⟨k, rfl, hkn, HQ, hkp⟩ := hrel;have HKP := hid hkp;clear hkp;by_cases hlt : k < nn
     ·obtain ⟨u, hu⟩ : ∃ u, t.sub[k]? = some u := ⟨_, List.getElem?_eq_getElem (by omega)⟩;obtain ⟨b, o, rfl, hbn, a0, a1, a2, a3, a4, a5⟩ := hcells k u hu;have hsk := hsubs k u hu;obtain ⟨p', n', cap', _, hSk, _⟩ := hsk.inv;rw [hSk] at hsk a5;have hKW : Kp n₀ m₀ W wr := HK1.out.trans (HK2.out.trans HKP.out);have hB0 : Below n₀ w0 wr := hW.trans hKW.1;rw [<- hB0.cell hbn] at a0 a1 a2 a3 a4 a5;have hn1 : n₀ <= wr.heap.size := Nat.le_trans hn0 hKW.1.size;have hum : u ∈ t.sub := List.mem_of_getElem? hu;have hsz := Tm.sz_mem hum;have hdp := Tm.dp_mem hum;have hszt := Tm.sz_eq t;have hdpt := Tm.dp_eq t;obtain ⟨q, hq, hJq⟩ := HQ.out;have hmaxk : k < 9223372036854775807 := (by unfold maxLen at hmax; omega);have hql : q.length = Tm.szs (t.sub.take k) := (by rw [<- List.length_map (f := El.at), hq, Tm.pres_length]);have hsplit : Tm.szs (t.sub.take k) + u.sz <= Tm.szs t.sub := by
       have e : t.sub.take k ++ u :: t.sub.drop (k + 1) = t.sub := by
        have h1 : t.sub.drop k = u :: t.sub.drop (k + 1) := by have e0 := Option.some.inj ((List.getElem?_eq_getElem (by omega)).symm.trans hu);rw [List.drop_eq_getElem_cons (by omega), e0]
        rw [<- h1, List.take_append_drop]
       have e2 := congrArg Tm.szs e;rw [Tm.szs_append, Tm.szs_cons] at e2;omega
      have h22 := hKW.2 b2 _ _ _ hm.1 h2;have h32 := hKW.2 b3 _ _ _ hm.2 h3';obtain ⟨W3, hW3⟩ : ∃ W3, W3 = wr.alloc (Obj.cells #[.int .u8 u.kind, .int .i64 u.width, .int .u64 u.bits, .string u.name, .int .i64 u.low, .slice p' n' cap'] 90) := ⟨_, rfl⟩;have hk3 : Kp n₀ m₀ wr W3 := (by rw [hW3]; exact (Kp.refl _ _ _).alloc hn1 _);have h33 := hk3.2 b3 _ _ _ hm.2 h32;have c3 := zb (i := 0) h33 rfl;rw [hW3] at c3
      have hC := ih u (by omega) (n - 1) (d + 1) (.slice p' n' cap') (pre ++ [x] ++ q) W3 (by omega) (hB0.trans hk3.1) (Nat.le_trans hn1 hk3.1.size) hsk (hfits k u hu) (Tm.longs_mem hum HLS.out) (by rw [hW3]; exact hJ _ _ _ hJq)
       (by simp only [List.length_append, List.length_cons, List.length_nil]; omega) ⟨_, _, hk3.2 b2 _ _ _ hm.1 h22⟩ ⟨_, _, h33⟩
      rw [hW3] at hC;have hd1 : d <= 10000 := (by omega);have HC := hid hC;have HR := hid (And.intro hq (And.intro hu (And.intro hW3 (And.intro hk3 (And.intro hd1 hlen)))));clear hC hB0 hbn hn1 hum hsz hdp hszt hdpt hq hJq hSk hsk hql hsplit h22 h32 hW3 hk3 h33 hKW hu hlen;simp only [Tm.cells] at HC;gi_wp2_with ((try refine ⟨hroom _, ?_⟩); gi_at_call 196; refine HC.out.mono ?_; rintro e W4 (⟨rfl, hq4, hk4⟩ | ⟨rfl, hx4⟩))
      ·obtain ⟨hq, hu, hW3, hk3, hd1, hlen⟩ := HR.out;obtain ⟨q4, hq4m, hJ4⟩ := hq4;rw [<- hW3] at hk4;go_roundw
       case rel => refine ⟨k + 1, by first | rfl | (rw [zd _ (by omega) (by omega)]; rfl), by omega, hid ⟨q ++ q4, ?_, by simpa [List.append_assoc] using hJ4⟩, HKP.out.trans (hk3.trans hk4)⟩;rw [List.map_append, hq, hq4m, List.take_add_one, hu, Option.toList_some, Tm.pres_append, Tm.pres_cons, Tm.pres_nil, List.append_nil]
       case measure => (try rw [zd _ (by unfold maxLen at hmax; omega) (by unfold maxLen at hmax; omega)]); simp only [intOf]; omega
      ·go_ret
       obtain ⟨hq, hu, hW3, hk3, hd1, hlen⟩ := HR.out;obtain ⟨q4, ⟨r, hq4m⟩, hJ4⟩ := hx4;refine .inr ⟨rfl, x :: (q ++ q4), ⟨r ++ Tm.pres (d + 1) (t.sub.drop (k + 1)), ?_⟩, by simpa [List.append_assoc] using hJ4⟩;have h1 : t.sub.drop k = u :: t.sub.drop (k + 1) := by have e0 := Option.some.inj ((List.getElem?_eq_getElem (by omega)).symm.trans hu);rw [List.drop_eq_getElem_cons (by omega), e0]
       have e2 : Tm.pres (d + 1) t.sub = Tm.pres (d + 1) (t.sub.take k) ++ (u.pre (d + 1) ++ Tm.pres (d + 1) (t.sub.drop (k + 1))) := by rw [<- Tm.pres_cons, <- h1, <- Tm.pres_append, List.take_append_drop]
       rw [List.map_cons, hxat, List.map_append, hq, Tm.pre_eq d t, e2, <- hq4m];simp [List.append_assoc]
     ·obtain rfl : k = nn := by omega
      gi_wp2
      go_ret
      obtain ⟨q, hq, hJq⟩ := HQ.out;exact .inl ⟨rfl, ⟨x :: q, by rw [List.map_cons, hxat, hq, List.take_of_length_le (by omega), Tm.pre_eq], by simpa using hJq⟩, HK1.out.trans (HK2.out.trans HKP.out)⟩
   ·go_ret
    exact .inr ⟨rfl, [x], by rw [List.map_cons, hxat, Tm.pre_eq]; exact ⟨_, rfl⟩, hx2⟩
set_option maxRecDepth 100000 in
theorem zeb (F : Fence) (hd : F.depth = none) (n : Nat) (h2 : F.fn 195) (h3 : F.fn 196) (hro : F.round = none) (w0 : World) (l Bt n₀ m₀ : Nat) (J Jx : List (El w0 n₀) -> World -> Prop)
 (hJ : ∀ s W o, J s W -> J s (W.alloc o)) (t : Tm) (sv : Value) (hdp : t.dp <= 9000) (hs : SubAt w0 n₀ sv t.sub) (hfit : t.fit) (hsh : t.long = false)
 (hY : ∀ m pre x W, J pre W -> pre.length < t.sz -> YieldAt F m prog l x.encs W fun e W' =>
   (e = .returned (.bool true) /\ J (pre ++ [x]) W' /\ Kp n₀ m₀ W W') ∨ (e = .returned (.bool false) /\ Jx (pre ++ [x]) W'))
 (W : World) (hW : Below n₀ w0 W) (hn0 : n₀ <= W.heap.size) (hm0 : m₀ <= W.heap.size) (hB : W.heap[Bt]? = some (.cells (Tm.cells t sv).toArray 90 (0, 0))) (h0 : J [] W) :
 CallsIn F n prog 195 #[.func (.yield l) #[] #[], .pointer (some ⟨Bt, 0, none⟩)] W fun e W' => (∃ v, e = .returned v) /\
  ((∃ ys : List (El w0 n₀), ys.map El.at = t.pre 1 /\ J ys W') ∨ (∃ pre : List (El w0 n₀), pre.map El.at <+: t.pre 1 /\ Jx pre W')) := by
 have hroom : ∀ k : Nat, (F.depth.isSome = true -> 1 <= k) := fun k h => by rw [hd] at h; cases h
 obtain ⟨p, nn, cap, S, rfl, _⟩ := hs.inv;have hBt : Bt < W.heap.size := (Array.getElem?_eq_some_iff.1 hB).1;obtain ⟨W2, hW2⟩ : ∃ W2, W2 = (W.alloc (.cells #[.func (.yield l) #[] #[]] 230)).alloc (.cells #[.func (.func 196) #[] #[.pointer (some ⟨W.heap.size, 0, none⟩), .pointer (some ⟨W.heap.size + 1, 0, none⟩)]] 230) := ⟨_, rfl⟩;have hk1 : Kp n₀ m₀ W (W.alloc (.cells #[.func (.yield l) #[] #[]] 230)) := (Kp.refl _ _ _).alloc hn0 _;have hk2 : Kp n₀ m₀ W W2 := by rw [hW2]; exact hk1.alloc hn0 _
 have hq2 : W2.heap[W.heap.size]? = some (.cells #[.func (.yield l) #[] #[]] 230 (0, 0)) := by rw [hW2];exact (Below.heap_alloc _ _ _ (by simp)).trans (World.alloc_heap_new W _)
 have hq3 : W2.heap[W.heap.size + 1]? = some (.cells #[.func (.func 196) #[] #[.pointer (some ⟨W.heap.size, 0, none⟩), .pointer (some ⟨W.heap.size + 1, 0, none⟩)]] 230 (0, 0)) := by
  rw [hW2];have := World.alloc_heap_new (W.alloc (.cells #[.func (.yield l) #[] #[]] 230)) (.cells #[.func (.func 196) #[] #[.pointer (some ⟨W.heap.size, 0, none⟩), .pointer (some ⟨W.heap.size + 1, 0, none⟩)]] 230)
  rwa [World.size_alloc] at this
 have hB2 : W2.heap[Bt]? = some (.cells (Tm.cells t (.slice p nn cap)).toArray 90 (0, 0)) := by rw [hW2];exact (Below.heap_alloc _ _ _ (by simp; omega)).trans ((Below.heap_alloc _ _ _ hBt).trans hB)
 have t0 := zb (i := 0) hB2 rfl;have t1 := zb (i := 1) hB2 rfl;have t2 := zb (i := 2) hB2 rfl;have t3 := zb (i := 3) hB2 rfl;have t4 := zb (i := 4) hB2 rfl;have t5 := zb (i := 5) hB2 rfl;have HC := hid (zgg F hd h3 hro w0 l n₀ m₀ t.sz (W.heap.size) (W.heap.size + 1) J Jx ⟨hm0, by omega⟩ hJ hY t.sz t (Nat.le_refl _) (n - 1) 1 (.slice p nn cap) [] W2 (by omega) (hW.trans hk2.1) (Nat.le_trans hn0 hk2.1.size) hs hfit hsh (by rw [hW2]; exact hJ _ _ _ (hJ _ _ _ h0)) (by simp) ⟨_, _, hq2⟩ ⟨_, _, hq3⟩);rw [hW2] at t0 t1 t2 t3 t4 t5 HC;simp only [Tm.cells] at HC;clear hk1 hk2 hq2 hq3 hB2 hW2 hB hY hJ h0;refine callsIn_of_wp Tryz.func195 rfl h2 ?_ hro;simp only [Tryz.ntmps195, List.size_toArray, List.length_cons, List.length_nil, Nat.reduceAdd, Nat.reduceSub, Array.replicate_succ, Array.replicate_zero, List.push_toArray, List.append_toArray, List.nil_append, List.cons_append];gi_wp2_with ((try refine ⟨hroom _, ?_⟩); gi_at_call 196; refine HC.out.mono ?_; rintro e W4 (⟨rfl, ⟨q, hq, hj⟩, hk4⟩ | ⟨rfl, q, hq, hj⟩))
 ·go_end0
  exact ⟨⟨_, rfl⟩, .inl ⟨q, hq, by simpa using hj⟩⟩
 ·go_end0
  exact ⟨⟨_, rfl⟩, .inr ⟨q, hq, by simpa using hj⟩⟩
theorem zfy (F : Fence) (n : Nat) (h1 : F.fn 192) (hro : F.round = none) (t : Tm) (p : Option Addr) (nn cap : Nat) (w : World) :
 CallsIn F n prog 192 #[.agg (Tm.cells t (.slice p nn cap)).toArray] w fun e w' => e = .returned (.func (.func 195) #[] #[.pointer (some ⟨w.heap.size, 0, none⟩)]) /\ w' = w.alloc (.cells (Tm.cells t (.slice p nn cap)).toArray 90) := by
 refine callsIn_of_wp Tryz.func192 rfl h1 ?_ hro;simp only [Tryz.ntmps192, Tm.cells, List.size_toArray, List.length_cons, List.length_nil, Nat.reduceAdd, Nat.reduceSub, Array.replicate_succ, Array.replicate_zero, List.push_toArray, List.append_toArray, List.nil_append, List.cons_append];gi_wp2
 go_ret
 exact ⟨rfl, rfl⟩
theorem zaj (F : Fence) (hd : F.depth = none) (n : Nat) (h2 : F.fn 195) (h3 : F.fn 196) (hro : F.round = none) (w0 : World) (Bt n₀ m₀ : Nat) (t : Tm) (sv : Value) (hdp : t.dp <= 9000) (hs : SubAt w0 n₀ sv t.sub) (hfit : t.fit) (hsh : t.long = false)
 (w : World) (hw : Below n₀ w0 w) (hn0 : n₀ <= w.heap.size) (hm0 : m₀ <= w.heap.size) (hBt : Bt < w.heap.size) (hB : w.heap[Bt]? = some (.cells (Tm.cells t sv).toArray 90 (0, 0))) :
 SeqStopsK F n prog 195 #[.pointer (some ⟨Bt, 0, none⟩)] (El.encs (w0 := w0) (n₀ := n₀)) (Kp n₀ m₀) (fun ys => ys.map El.at = t.pre 1) (fun pre => pre.map El.at <+: t.pre 1) t.sz w := fun l J Jx W hW hJ _ hY h0 =>
 zeb F hd n h2 h3 hro w0 l Bt n₀ m₀ J Jx (fun s W' o hs => hJ s W' _ none hs (World.grownBy_alloc W' o none) (fun r e => by cases e)) t sv hdp hs hfit hsh (fun m pre x W hj hl => YieldAt.anyDepth hd m (hY pre x W hj hl)) W (hw.trans (hW.mono hn0)) (Nat.le_trans hn0 hW.size) (Nat.le_trans hm0 hW.size) ((hW.block Bt hBt).trans hB) h0
def Tm.nodes (t : Tm) : List Tm := (t.pre 1).map (·.2)
mutual
theorem Tm.pre_snd (d e : Nat) : ∀ t : Tm, (t.pre d).map (·.2) = (t.pre e).map (·.2)
 | .mk k w b s lo l => by simp only [Tm.pre, List.map_cons]; rw [Tm.pres_snd (d + 1) (e + 1) l]
theorem Tm.pres_snd (d e : Nat) : ∀ l : List Tm, (Tm.pres d l).map (·.2) = (Tm.pres e l).map (·.2)
 | [] => by simp [Tm.pres]
 | t :: l => by simp only [Tm.pres, List.map_append]; rw [Tm.pre_snd d e t, Tm.pres_snd d e l]
end
theorem Tm.pres_map (d : Nat) (l : List Tm) : (Tm.pres d l).map (·.2) = l.flatMap Tm.nodes := by
 induction l with
 | nil => simp [Tm.pres_nil]
 | cons t l ih => rw [Tm.pres_cons, List.map_append, ih, List.flatMap_cons, Tm.pre_snd d 1 t]; rfl
theorem Tm.nodes_eq (t : Tm) : t.nodes = t :: t.sub.flatMap Tm.nodes := by unfold Tm.nodes;rw [Tm.pre_eq, List.map_cons, Tm.pres_map]; rfl
theorem Tm.nodes_self (t : Tm) : t ∈ t.nodes := by rw [Tm.nodes_eq]; exact List.mem_cons_self
theorem Tm.nodes_sub {t u v : Tm} (hu : u ∈ t.sub) (hv : v ∈ u.nodes) : v ∈ t.nodes := by rw [Tm.nodes_eq];exact List.mem_cons_of_mem _ (List.mem_flatMap.2 ⟨u, hu, hv⟩)
theorem Tm.nodes_length (t : Tm) : t.nodes.length = t.sz := by unfold Tm.nodes; rw [List.length_map, Tm.pre_length]
mutual
theorem Tm.pre_depth (d : Nat) : ∀ (t : Tm) (x : Nat × Tm), x ∈ t.pre d -> d <= x.1 /\ x.1 < d + t.dp
 | .mk k w b s lo l, x, h => by
   simp only [Tm.pre, List.mem_cons] at h;simp only [Tm.dp];rcases h with rfl | h
   ·exact ⟨Nat.le_refl _, by simp only; omega⟩
   ·have := Tm.pres_depth (d + 1) l x h; omega
theorem Tm.pres_depth (d : Nat) : ∀ (l : List Tm) (x : Nat × Tm), x ∈ Tm.pres d l -> d <= x.1 /\ x.1 < d + Tm.dps l
 | [], x, h => by simp [Tm.pres] at h
 | t :: l, x, h => by
   simp only [Tm.pres, List.mem_append] at h;simp only [Tm.dps];rcases h with h | h
   ·have := Tm.pre_depth d t x h; omega
   ·have := Tm.pres_depth d l x h; omega
end
mutual
theorem Tm.pre_deepest (d : Nat) : ∀ t : Tm, ∃ x ∈ t.pre d, x.1 + 1 = d + t.dp
 | .mk k w b s lo l => by
   by_cases h : l = []
   ·subst h;exact ⟨_, by simp only [Tm.pre]; exact List.mem_cons_self, by simp [Tm.dp, Tm.dps]⟩
   ·obtain ⟨x, hx, e⟩ := Tm.pres_deepest (d + 1) l h;exact ⟨x, by simp only [Tm.pre]; exact List.mem_cons_of_mem _ hx, by simp only [Tm.dp]; omega⟩
theorem Tm.pres_deepest (d : Nat) : ∀ l : List Tm, l ≠ [] -> ∃ x ∈ Tm.pres d l, x.1 + 1 = d + Tm.dps l
 | [], h => absurd rfl h
 | t :: l, _ => by
   obtain ⟨x, hx, e⟩ := Tm.pre_deepest d t;by_cases h : l = []
   ·subst h;exact ⟨x, by simp only [Tm.pres, List.append_nil]; exact hx, by simp only [Tm.dps]; omega⟩
   ·obtain ⟨y, hy, f⟩ := Tm.pres_deepest d l h;rcases Nat.le_total t.dp (Tm.dps l) with hl | hl
    ·exact ⟨y, by simp only [Tm.pres]; exact List.mem_append_right _ hy, by simp only [Tm.dps]; omega⟩
    ·exact ⟨x, by simp only [Tm.pres]; exact List.mem_append_left _ hx, by simp only [Tm.dps]; omega⟩
end
theorem z57 {α : Type} {P : List α -> Prop} (h0 : P []) (hs : ∀ l a, P l -> P (l ++ [a])) (l : List α) : P l := by
 rw [<- List.reverse_reverse l]
 induction l.reverse with
 | nil => exact h0
 | cons a r ih => rw [List.reverse_cons]; exact hs _ _ ih
def z1b (s : ByteArray) : Lit := .string s.data.toList
theorem z4p {a b : ByteArray} (h : z1b a = z1b b) : a = b := by
 unfold z1b at h;cases a; cases b;simp only [Lit.string.injEq] at h
 congr 1
 exact Array.toList_inj.1 h
theorem z5i (s : ByteArray) : WideAt.IsKeyLit (z1b s) := by simp [WideAt.IsKeyLit, z1b]
def z24 (s : ByteArray) (t : Tm) : Bool := decide (t.kind = 2 /\ t.name = s)
def metR (l : List Tm) (s : ByteArray) : Bool := l.any (z24 s)
def z83 (l : List Tm) (s : ByteArray) : Int := l.foldl (fun w t => if z24 s t then t.width else w) 0
theorem z6f (l : List Tm) (t : Tm) (s : ByteArray) : metR (l ++ [t]) s = (metR l s || z24 s t) := by simp [metR]
theorem z5m (l : List Tm) (t : Tm) (s : ByteArray) : z83 (l ++ [t]) s = if z24 s t then t.width else z83 l s := by simp [z83]
theorem z6d (l : List Tm) (s : ByteArray) : metR l s = true -> ∃ t ∈ l, z24 s t = true /\ z83 l s = t.width := by
 induction l using z57 with
 | h0 => intro h; simp [metR] at h
 | hs l t ih =>
   intro h;rw [z5m];by_cases hv : z24 s t = true
   ·exact ⟨t, by simp, hv, by rw [if_pos hv]⟩
   ·rw [z6f] at h;obtain ⟨u, hu, h1, h2⟩ := ih (by simpa [hv] using h);exact ⟨u, List.mem_append_left _ hu, h1, by rw [if_neg hv]; exact h2⟩
def Knows {H : Type} (l : List Tm) (D : DataW H) : Prop := Maps.IsMap D /\ ∀ s : ByteArray, Maps.has D (z1b s) = metR l s /\ D.atKey (z1b s) (.lit (.int .i64 0)) = .lit (.int .i64 (z83 l s))
theorem Knows.none {H : Type} : Knows (H := H) [] (.map []) := ⟨⟨[], rfl⟩, fun s => ⟨rfl, rfl⟩⟩
theorem Knows.skip {H : Type} {l : List Tm} {D : DataW H} (h : Knows l D) {t : Tm} (ht : t.kind ≠ 2) : Knows (l ++ [t]) D := ⟨h.1, fun s => by
 have e : z24 s t = false := by simp [z24, ht]
 rw [z6f, z5m, e, Bool.or_false];exact h.2 s⟩
theorem Knows.put {H : Type} {l : List Tm} {D : DataW H} (h : Knows l D) {t : Tm} (ht : t.kind = 2) : Knows (l ++ [t]) (D.put (z1b t.name) (.lit (.int .i64 t.width))) := ⟨h.1.put _ _, fun s => by
 rw [z6f, z5m];by_cases hs : t.name = s
 ·have e : z24 s t = true := by simp [z24, ht, hs]
  rw [e, Bool.or_true, <- hs];exact ⟨Maps.has_put_same h.1 (z5i _) _, by rw [Maps.atKey_put_same h.1 (z5i _)]; simp⟩
 ·have e : z24 s t = false := by simp [z24, hs]
  have hne : z1b s ≠ z1b t.name := fun q => hs (z4p q).symm;rw [e, Bool.or_false, Maps.has_put_other hne, Maps.atKey_put_other hne];exact h.2 s⟩
def zax (c : Bool × List Tm) (t : Tm) : Bool × List Tm := (c.1 || decide (t.kind = 2) && (metR c.2 t.name && z83 c.2 t.name != t.width), c.2 ++ [t])
def z4w (l : List Tm) : Bool := (l.foldl zax (false, [])).1
theorem zd3 (l : List Tm) : (l.foldl zax (false, [])).2 = l := by
 induction l using z57 with
 | h0 => rfl
 | hs l t ih => simp [zax, ih]
theorem z4o (l : List Tm) (t : Tm) : z4w (l ++ [t]) = (z4w l || decide (t.kind = 2) && (metR l t.name && z83 l t.name != t.width)) := by unfold z4w;rw [List.foldl_append, List.foldl_cons, List.foldl_nil];simp only [zax];rw [zd3]
def Agrees (l : List Tm) : Prop := ∀ t ∈ l, ∀ u ∈ l, t.kind = 2 -> u.kind = 2 -> t.name = u.name -> t.width = u.width
theorem z5v (l : List Tm) : z4w l = false ↔ Agrees l := by
 induction l using z57 with
 | h0 => exact ⟨fun _ t ht => (by cases ht), fun _ => rfl⟩
 | hs l t ih =>
   rw [z4o, Bool.or_eq_false_iff, ih];constructor
   ·rintro ⟨ha, hb⟩;have key : ∀ u ∈ l, u.kind = 2 -> t.kind = 2 -> u.name = t.name -> u.width = t.width := by
     intro u hu k1 k2 e;have hm : metR l t.name = true := List.any_eq_true.2 ⟨u, hu, by simp [z24, k1, e]⟩;obtain ⟨v, hv, h1, h2⟩ := z6d l t.name hm;simp only [z24, decide_eq_true_eq] at h1;rw [hm, k2, h2] at hb;simp at hb;rw [ha u hu v hv k1 h1.1 (by rw [e, h1.2]), hb]
    intro a ha' b hb' k1 k2 e;rcases List.mem_append.1 ha' with h1 | h1 <;> rcases List.mem_append.1 hb' with h2 | h2
    ·exact ha a h1 b h2 k1 k2 e
    ·obtain rfl := List.mem_singleton.1 h2; exact key a h1 k1 k2 e
    ·obtain rfl := List.mem_singleton.1 h1; exact (key b h2 k2 k1 e.symm).symm
    ·obtain rfl := List.mem_singleton.1 h1; obtain rfl := List.mem_singleton.1 h2; rfl
   ·intro h;refine ⟨fun a ha b hb => h a (List.mem_append_left _ ha) b (List.mem_append_left _ hb), ?_⟩;by_cases k : t.kind = 2
    ·by_cases hm : metR l t.name = true
     ·obtain ⟨v, hv, h1, h2⟩ := z6d l t.name hm;simp only [z24, decide_eq_true_eq] at h1;rw [hm, h2, h v (List.mem_append_left _ hv) t (by simp) h1.1 k h1.2];simp
     ·simp [hm]
    ·simp [k]
def Tm.Valid (t : Tm) : Prop := t.sz <= 400 /\ t.dp <= 60 /\ (∀ u ∈ t.nodes, zp u = true) /\ Agrees t.nodes
theorem Tm.Valid.sub {t u : Tm} (h : t.Valid) (hu : u ∈ t.sub) : u.Valid := by obtain ⟨h1, h2, h3, h4⟩ := h;have a := Tm.sz_mem hu;have b := Tm.dp_mem hu;rw [Tm.sz_eq] at h1;rw [Tm.dp_eq] at h2;exact ⟨by omega, by omega, fun v hv => h3 v (Tm.nodes_sub hu hv), fun v hv w hw => h4 v (Tm.nodes_sub hu hv) w (Tm.nodes_sub hu hw)⟩
def z1r (t : Tm) : Nat := open Classical in if ¬(t.sz <= 400 /\ t.dp <= 60) then 4 else if ¬(∀ u ∈ t.nodes, zp u = true) then 8 else if ¬(Agrees t.nodes) then 14 else 0
theorem z2l (t : Tm) : z1r t = 0 ↔ t.Valid := by
 unfold z1r Tm.Valid;by_cases h1 : t.sz <= 400 /\ t.dp <= 60
 ·rw [if_neg (by simpa using h1)];by_cases h2 : ∀ u ∈ t.nodes, zp u = true
  ·rw [if_neg (fun q => q h2)];by_cases h3 : Agrees t.nodes
   ·rw [if_neg (fun q => q h3)]; exact ⟨fun _ => ⟨h1.1, h1.2, h2, h3⟩, fun _ => rfl⟩
   ·rw [if_pos h3]; exact ⟨fun q => (by cases q), fun q => absurd q.2.2.2 h3⟩
  ·rw [if_pos h2]; exact ⟨fun q => (by cases q), fun q => absurd q.2.2.1 h2⟩
 ·rw [if_pos h1]; exact ⟨fun q => (by cases q), fun q => absurd ⟨q.1, q.2.1⟩ h1⟩
theorem Tm.Valid.width {t v : Tm} (h : t.Valid) (hv : v ∈ t.nodes) (k : v.kind = 2) : metR t.nodes v.name = true /\ z83 t.nodes v.name = v.width := by have hm : metR t.nodes v.name = true := List.any_eq_true.2 ⟨v, hv, by simp [z24, k]⟩;obtain ⟨u, hu, h1, h2⟩ := z6d _ _ hm;simp only [z24, decide_eq_true_eq] at h1;exact ⟨hm, by rw [h2]; exact h.2.2.2 u hu v hv h1.1 k h1.2⟩
end Go.Proofs.YtdmadnfadgggcaaGreatDoor
