import Derived.Test.YtdmadnfadgggcaaGreatDoorGa
import Derived.Deep.Light
import Derived.Lib.QuietBelow
set_option linter.unusedVariables false
set_option linter.unusedSimpArgs false
set_option warningAsError false
set_option maxHeartbeats 4000000
open Go.Lib (hid)
open Go.Proofs.Tryz (prog)
noncomputable section
namespace Go.Proofs.YtdmadnfadgggcaaGreatDoor
open Go.RowKit
def wdAt (l : List Tm) (i : Nat) : Int := match l[i]? with | some u => u.width | none => 0
def z27 (k : Nat) (w x y z lo : Int) (b : Nat) (s : ByteArray) : Bool :=
 if k = 1 then okW w b else if k = 2 then varR s else if k = 3 ∨ k = 4 then x == w else if k = 16 ∨ k = 17 ∨ k = 18 then w == 1 && x == y
 else if k = 19 then x == 1 && (y == w && z == w) else if k = 20 then wrap64 (x + y) == w else if k = 21 then decide (0 <= lo) && decide (lo <= wrap64 (x - w))
 else if k = 22 ∨ k = 23 then decide (x <= w) else if k = 24 then z95 w else x == w && y == w
def z1i (t : Tm) : Bool := z27 t.kind t.width (wdAt t.sub 0) (wdAt t.sub 1) (wdAt t.sub 2) t.low t.bits t.name
theorem z4c {W : World} {a : Addr} {v : Value} (h : W.cell? a = some v) (A B : Obj) : ((W.alloc A).alloc B).cell? a = some v := by have hl := z3y h;have hb : Below W.heap.size W ((W.alloc A).alloc B) := ((Below.refl _ W).alloc (Nat.le_refl _) A).alloc (by simp) B;rw [hb.cell hl];exact h
set_option maxRecDepth 100000 in
theorem zdp (k : Nat) (wd lo : Int) (b : Nat) (s : ByteArray) (p : Option Addr) (cap : Nat) (W : World) (hm : s.size <= 1000) (hk : k = 1 ∨ k = 2) (r : Bool) (hr : r = z27 k wd 0 0 0 lo b s) :
 Calls prog 200 #[.agg #[.int .u8 k, .int .i64 wd, .int .u64 b, .string s, .int .i64 lo, .slice p 0 cap]] W fun e w' => e = .returned (.bool r) /\ Below W.heap.size W w' := by
 have HO := hid (fun W => z6j wd b W);have HV := hid (fun W => z2q s W hm);have HL := hid (fun W => z38 wd W);have E := hid hr;clear hm hr;rcases hk with rfl | rfl
 all_goals
  go_enter Tryz.func200, Tryz.ntmps200
  go_wp2
  refine wp_loop_rounds 1 ?_;iterate 1 (try (rw [rounds_succ]; go_wp2))
  go_quiet (fail)
  go_wp2_with (first
   | (go_at_call 52; (with_reducible refine (HO.out _).mono ?_); rintro e w' ⟨rfl, rfl⟩)
   | (go_at_call 201; (with_reducible refine (HV.out _).mono ?_); rintro e w' ⟨rfl, hb⟩)
   | (go_at_call 202; (with_reducible refine (HL.out _).mono ?_); rintro e w' ⟨rfl, rfl⟩))
  all_goals
   go_ret
   refine ⟨by rw [E.out]; rfl, ?_⟩;have base : ∀ (a b : Obj) (m : Nat), Below W.heap.size W (((W.alloc a).alloc b).drewN m) := fun a b m => (((Below.refl _ W).alloc (Nat.le_refl _) a).alloc (by simp) b).trans ⟨rfl, rfl, rfl, Nat.le_refl _, fun _ _ => rfl⟩
   first
    | exact base _ _ _
    | exact (base _ _ _).trans (hb.mono (by simp; omega))
set_option maxRecDepth 100000 in
theorem zfj (k : Nat) (wd lo : Int) (b : Nat) (s : ByteArray) (bk o : Nat) (x : Int) (cap : Nat) (W : World) (hm : s.size <= 1000) (a0 : W.cell? ⟨bk, o + 1, none⟩ = some (.int .i64 x)) (hk : k = 3 ∨ k = 4 ∨ k = 21 ∨ k = 22 ∨ k = 23 ∨ k = 24) (r : Bool) (hr : r = z27 k wd x 0 0 lo b s) :
 Calls prog 200 #[.agg #[.int .u8 k, .int .i64 wd, .int .u64 b, .string s, .int .i64 lo, .slice (some ⟨bk, o, none⟩) 1 cap]] W fun e w' => e = .returned (.bool r) /\ Below W.heap.size W w' := by
 have a0 := z4c a0;have HO := hid (fun W => z6j wd b W);have HV := hid (fun W => z2q s W hm);have HL := hid (fun W => z38 wd W);have E := hid hr;clear hm hr;rcases hk with rfl | rfl | rfl | rfl | rfl | rfl
 all_goals
  go_enter Tryz.func200, Tryz.ntmps200
  go_wp2
  refine wp_loop_rounds 2 ?_;iterate 2 (try (rw [rounds_succ]; go_wp2))
  go_quiet (fail)
  go_wp2_with (first
   | (go_at_call 52; (with_reducible refine (HO.out _).mono ?_); rintro e w' ⟨rfl, rfl⟩)
   | (go_at_call 201; (with_reducible refine (HV.out _).mono ?_); rintro e w' ⟨rfl, hb⟩)
   | (go_at_call 202; (with_reducible refine (HL.out _).mono ?_); rintro e w' ⟨rfl, rfl⟩))
  all_goals
   go_ret
   refine ⟨by rw [E.out]; first | rfl | (refine congrArg (fun q => Ending.returned (Value.bool q)) (?_ : (_ : Bool) = _); clear E HO HV HL; go_light; simp_all [z27]; (try (intros; omega))), ?_⟩;have base : ∀ (a b : Obj) (m : Nat), Below W.heap.size W (((W.alloc a).alloc b).drewN m) := fun a b m => (((Below.refl _ W).alloc (Nat.le_refl _) a).alloc (by simp) b).trans ⟨rfl, rfl, rfl, Nat.le_refl _, fun _ _ => rfl⟩
   first
    | exact base _ _ _
    | exact (base _ _ _).trans (hb.mono (by simp; omega))
set_option maxRecDepth 100000 in
theorem zfk (k : Nat) (wd lo : Int) (b : Nat) (s : ByteArray) (bk o : Nat) (x y : Int) (cap : Nat) (W : World) (hm : s.size <= 1000) (a0 : W.cell? ⟨bk, o + 1, none⟩ = some (.int .i64 x)) (a1 : W.cell? ⟨bk, o + 6 + 1, none⟩ = some (.int .i64 y)) (hk : k = 5 ∨ k = 6 ∨ k = 7 ∨ k = 8 ∨ k = 9 ∨ k = 10 ∨ k = 11 ∨ k = 12 ∨ k = 13 ∨ k = 14 ∨ k = 15 ∨ k = 16 ∨ k = 17 ∨ k = 18 ∨ k = 20) (r : Bool) (hr : r = z27 k wd x y 0 lo b s) :
 Calls prog 200 #[.agg #[.int .u8 k, .int .i64 wd, .int .u64 b, .string s, .int .i64 lo, .slice (some ⟨bk, o, none⟩) 2 cap]] W fun e w' => e = .returned (.bool r) /\ Below W.heap.size W w' := by
 have a0 := z4c a0;have a1 := z4c a1;have HO := hid (fun W => z6j wd b W);have HV := hid (fun W => z2q s W hm);have HL := hid (fun W => z38 wd W);have E := hid hr;clear hm hr;rcases hk with rfl | rfl | rfl | rfl | rfl | rfl | rfl | rfl | rfl | rfl | rfl | rfl | rfl | rfl | rfl
 all_goals
  go_enter Tryz.func200, Tryz.ntmps200
  go_wp2
  refine wp_loop_rounds 3 ?_;iterate 3 (try (rw [rounds_succ]; go_wp2))
  go_quiet (fail)
  go_wp2_with (first
   | (go_at_call 52; (with_reducible refine (HO.out _).mono ?_); rintro e w' ⟨rfl, rfl⟩)
   | (go_at_call 201; (with_reducible refine (HV.out _).mono ?_); rintro e w' ⟨rfl, hb⟩)
   | (go_at_call 202; (with_reducible refine (HL.out _).mono ?_); rintro e w' ⟨rfl, rfl⟩))
  all_goals
   go_ret
   refine ⟨by rw [E.out]; first | rfl | (refine congrArg (fun q => Ending.returned (Value.bool q)) (?_ : (_ : Bool) = _); clear E HO HV HL; go_light; simp_all [z27]; (try (intros; omega))), ?_⟩;have base : ∀ (a b : Obj) (m : Nat), Below W.heap.size W (((W.alloc a).alloc b).drewN m) := fun a b m => (((Below.refl _ W).alloc (Nat.le_refl _) a).alloc (by simp) b).trans ⟨rfl, rfl, rfl, Nat.le_refl _, fun _ _ => rfl⟩
   first
    | exact base _ _ _
    | exact (base _ _ _).trans (hb.mono (by simp; omega))
set_option maxRecDepth 100000 in
theorem zbu (k : Nat) (wd lo : Int) (b : Nat) (s : ByteArray) (bk o : Nat) (x y z : Int) (cap : Nat) (W : World) (hm : s.size <= 1000) (a0 : W.cell? ⟨bk, o + 1, none⟩ = some (.int .i64 x)) (a1 : W.cell? ⟨bk, o + 6 + 1, none⟩ = some (.int .i64 y)) (a2 : W.cell? ⟨bk, o + 12 + 1, none⟩ = some (.int .i64 z)) (hk : k = 19) (r : Bool) (hr : r = z27 k wd x y z lo b s) :
 Calls prog 200 #[.agg #[.int .u8 k, .int .i64 wd, .int .u64 b, .string s, .int .i64 lo, .slice (some ⟨bk, o, none⟩) 3 cap]] W fun e w' => e = .returned (.bool r) /\ Below W.heap.size W w' := by
 have a0 := z4c a0;have a1 := z4c a1;have a2 := z4c a2;have HO := hid (fun W => z6j wd b W);have HV := hid (fun W => z2q s W hm);have HL := hid (fun W => z38 wd W);have E := hid hr;clear hm hr;subst hk
 all_goals
  go_enter Tryz.func200, Tryz.ntmps200
  go_wp2
  refine wp_loop_rounds 4 ?_;iterate 4 (try (rw [rounds_succ]; go_wp2))
  go_quiet (fail)
  go_wp2_with (first
   | (go_at_call 52; (with_reducible refine (HO.out _).mono ?_); rintro e w' ⟨rfl, rfl⟩)
   | (go_at_call 201; (with_reducible refine (HV.out _).mono ?_); rintro e w' ⟨rfl, hb⟩)
   | (go_at_call 202; (with_reducible refine (HL.out _).mono ?_); rintro e w' ⟨rfl, rfl⟩))
  all_goals
   go_ret
   refine ⟨by rw [E.out]; first | rfl | (refine congrArg (fun q => Ending.returned (Value.bool q)) (?_ : (_ : Bool) = _); clear E HO HV HL; go_light; simp_all [z27]; (try (intros; omega))), ?_⟩;have base : ∀ (a b : Obj) (m : Nat), Below W.heap.size W (((W.alloc a).alloc b).drewN m) := fun a b m => (((Below.refl _ W).alloc (Nat.le_refl _) a).alloc (by simp) b).trans ⟨rfl, rfl, rfl, Nat.le_refl _, fun _ _ => rfl⟩
   first
    | exact base _ _ _
    | exact (base _ _ _).trans (hb.mono (by simp; omega))
end Go.Proofs.YtdmadnfadgggcaaGreatDoor
namespace Go.Proofs.YtdmadnfadgggcaaGreatDoor
open Go.RowKit Go.Sort
def zm (k : Nat) : Nat := if k <= 2 then 0 else if k <= 4 then 1 else if k <= 18 then 2 else if k = 19 then 3 else if k = 20 then 2 else 1
theorem zfi (t : Tm) (sv : Value) (B : Nat) (W : World) (hs : SubAt W B sv t.sub) (hm : t.name.size <= 1000) (h0 : 1 <= t.kind) (h1 : t.kind <= 24) (hp : t.sub.length = zm t.kind) :
 Calls prog 200 #[.agg (Tm.cells t sv).toArray] W fun e w' => e = .returned (.bool (z1i t)) /\ Below W.heap.size W w' := by
 obtain ⟨p, nn, cap, S, rfl, hn, _, _, hc, _⟩ := hs.inv;obtain ⟨k, wd, b, s, lo, l⟩ := t;simp only [Tm.sub, Tm.kind, Tm.name] at *;have wds : ∀ (i : Nat) (u : Tm), l[i]? = some u -> wdAt l i = u.width := fun i u h => by unfold wdAt; rw [h]
 have non : ∀ i, l.length <= i -> wdAt l i = 0 := fun i h => by unfold wdAt; rw [List.getElem?_eq_none h]
 rcases (by unfold zm; split <;> (try split) <;> (try split) <;> (try split) <;> (try split) <;> omega : (zm k = 0 /\ (k = 1 ∨ k = 2)) ∨ (zm k = 1 /\ (k = 3 ∨ k = 4 ∨ k = 21 ∨ k = 22 ∨ k = 23 ∨ k = 24)) ∨
  (zm k = 2 /\ (k = 5 ∨ k = 6 ∨ k = 7 ∨ k = 8 ∨ k = 9 ∨ k = 10 ∨ k = 11 ∨ k = 12 ∨ k = 13 ∨ k = 14 ∨ k = 15 ∨ k = 16 ∨ k = 17 ∨ k = 18 ∨ k = 20)) ∨ (zm k = 3 /\ k = 19)) with ⟨e, hk⟩ | ⟨e, hk⟩ | ⟨e, hk⟩ | ⟨e, hk⟩
 ·obtain rfl : nn = 0 := by omega
  exact zdp k wd lo b s p cap W hm hk _ (by unfold z1i; rw [show wdAt (Tm.sub (.mk k wd b s lo l)) 0 = 0 from non 0 (by omega), show wdAt (Tm.sub (.mk k wd b s lo l)) 1 = 0 from non 1 (by omega), show wdAt (Tm.sub (.mk k wd b s lo l)) 2 = 0 from non 2 (by omega)]; rfl)
 ·obtain rfl : nn = 1 := by omega
  obtain ⟨u, hu⟩ : ∃ u, l[0]? = some u := ⟨_, List.getElem?_eq_getElem (by omega)⟩;obtain ⟨bk, o, rfl, _, _, c1, _⟩ := hc 0 u hu;rw [Nat.zero_mul, Nat.add_zero] at c1;exact zfj k wd lo b s bk o u.width cap W hm c1 hk _ (by unfold z1i; rw [show wdAt (Tm.sub (.mk k wd b s lo l)) 0 = u.width from wds 0 u hu, show wdAt (Tm.sub (.mk k wd b s lo l)) 1 = 0 from non 1 (by omega), show wdAt (Tm.sub (.mk k wd b s lo l)) 2 = 0 from non 2 (by omega)]; rfl)
 ·obtain rfl : nn = 2 := by omega
  obtain ⟨u, hu⟩ : ∃ u, l[0]? = some u := ⟨_, List.getElem?_eq_getElem (by omega)⟩;obtain ⟨v, hv⟩ : ∃ u, l[1]? = some u := ⟨_, List.getElem?_eq_getElem (by omega)⟩;obtain ⟨bk, o, rfl, _, _, c1, _⟩ := hc 0 u hu;obtain ⟨bk', o', e', _, _, d1, _⟩ := hc 1 v hv;cases e';rw [Nat.zero_mul, Nat.add_zero] at c1;rw [Nat.one_mul] at d1;exact zfk k wd lo b s bk o u.width v.width cap W hm c1 d1 hk _ (by unfold z1i; rw [show wdAt (Tm.sub (.mk k wd b s lo l)) 0 = u.width from wds 0 u hu, show wdAt (Tm.sub (.mk k wd b s lo l)) 1 = v.width from wds 1 v hv, show wdAt (Tm.sub (.mk k wd b s lo l)) 2 = 0 from non 2 (by omega)]; rfl)
 ·obtain rfl : nn = 3 := by omega
  obtain ⟨u, hu⟩ : ∃ u, l[0]? = some u := ⟨_, List.getElem?_eq_getElem (by omega)⟩;obtain ⟨v, hv⟩ : ∃ u, l[1]? = some u := ⟨_, List.getElem?_eq_getElem (by omega)⟩;obtain ⟨y, hy⟩ : ∃ u, l[2]? = some u := ⟨_, List.getElem?_eq_getElem (by omega)⟩;obtain ⟨bk, o, rfl, _, _, c1, _⟩ := hc 0 u hu;obtain ⟨bk', o', e', _, _, d1, _⟩ := hc 1 v hv;cases e';obtain ⟨bk', o', e', _, _, f1, _⟩ := hc 2 y hy;cases e';rw [Nat.zero_mul, Nat.add_zero] at c1;rw [Nat.one_mul] at d1;exact zbu k wd lo b s bk o u.width v.width y.width cap W hm c1 d1 f1 hk _ (by unfold z1i; rw [show wdAt (Tm.sub (.mk k wd b s lo l)) 0 = u.width from wds 0 u hu, show wdAt (Tm.sub (.mk k wd b s lo l)) 1 = v.width from wds 1 v hv, show wdAt (Tm.sub (.mk k wd b s lo l)) 2 = y.width from wds 2 y hy]; rfl)
def zs (W : World) : Prop := ∀ k, k <= 24 -> W.cell? ⟨0, k * 2 + 1, none⟩ = some (.int .i64 (zm k))
def zp (t : Tm) : Bool := decide (1 <= t.kind) && (decide (t.kind <= 24) && (okW t.width 0 && (t.sub.length == zm t.kind && (z58 t && z1i t))))
theorem z3c {W : World} {o : Obj} (dq : Nat) (osq : Array Obj) : Below W.heap.size W (grow (redrawn (W.alloc o) dq) osq) :=
 ((Below.refl _ _).alloc (Nat.le_refl _) _).trans ((below_regrown _ dq osq).mono (by simp))
set_option maxRecDepth 100000 in
theorem za6 (t : Tm) (p : Option Addr) (nn cap pc : Nat) (W : World) (q1 q2 q3 q4 q5 r : Bool) (hn : nn <= maxLen)
 (C1 : (decide (1 <= t.kind) && decide (t.kind <= 24)) = q1) (C2 : okW t.width 0 = q2) (C3 : ((nn : Int) == (pc : Int)) = q3) (C4 : z58 t = q4)
 (C5 : q1 = true -> q2 = true -> q3 = true -> q4 = true -> ∀ w, Below W.heap.size W w -> Calls prog 200 #[.agg (Tm.cells t (.slice p nn cap)).toArray] w fun e w' => e = .returned (.bool q5) /\ Below w.heap.size w w')
 (hT : q1 = true -> t.kind < 25 /\ W.cell? ⟨0, t.kind * 2 + 1, none⟩ = some (.int .i64 pc)) (hr : r = (q1 && (q2 && (q3 && (q4 && q5))))) :
 Calls prog 193 #[.agg (Tm.cells t (.slice p nn cap)).toArray] W fun e w' => e = .returned (.bool r) /\ Below W.heap.size W w' := by
 obtain ⟨W1, hW1⟩ : ∃ W1, W1 = W.alloc (.cells #[.int .u8 t.kind, .int .i64 t.width, .int .u64 t.bits, .string t.name, .int .i64 t.low, .slice p nn cap] 90) := ⟨_, rfl⟩;have hb1 : Below W.heap.size W W1 := by rw [hW1]; exact (Below.refl _ _).alloc (Nat.le_refl _) _
 have cK : ∀ d os, Calls prog 197 #[.int .u8 t.kind] (grow (redrawn W1 d) os) fun e w'' => e = .returned (.bool q1) /\ ∃ p : Regrown, w'' = grow (redrawn W1 p.d) p.os :=
  fun d os => Calls.regrown_of ((zby t.kind _).mono fun e w' ⟨he, hw⟩ => ⟨by rw [he, C1], hw ▸ Below.refl _ _⟩)
 have cW : ∀ d os, Calls prog 198 #[.int .i64 t.width] (grow (redrawn W1 d) os) fun e w'' => e = .returned (.bool q2) /\ ∃ p : Regrown, w'' = grow (redrawn W1 p.d) p.os :=
  fun d os => Calls.regrown_of ((z92 t.width _).mono fun e w' ⟨he, hw⟩ => ⟨by rw [he, C2], hw ▸ Below.refl _ _⟩)
 have cT : ∀ d os, Calls prog 199 #[.agg #[.int .u8 t.kind, .int .i64 t.width, .int .u64 t.bits, .string t.name, .int .i64 t.low, .slice p nn cap]] (grow (redrawn W1 d) os) fun e w'' => e = .returned (.bool q4) /\ ∃ p : Regrown, w'' = grow (redrawn W1 p.d) p.os :=
  fun d os => Calls.regrown_of ((zgc t p nn cap _).mono fun e w' ⟨he, hw⟩ => ⟨by rw [he, C4], hw⟩)
 have hnew : W1.heap[W.heap.size]? = some (.cells #[.int .u8 t.kind, .int .i64 t.width, .int .u64 t.bits, .string t.name, .int .i64 t.low, .slice p nn cap] 90 (0, 0)) := by rw [hW1]; show (W.heap.push _)[W.heap.size]? = _; simp
 have K0 := fun d os => cell_regrown (show W1.cell? ⟨W.heap.size, 0, none⟩ = some (.int .u8 t.kind) by simp [World.cell?, hnew]) d os;have K1 := fun d os => cell_regrown (show W1.cell? ⟨W.heap.size, 1, none⟩ = some (.int .i64 t.width) by simp [World.cell?, hnew]) d os;have K2 := fun d os => cell_regrown (show W1.cell? ⟨W.heap.size, 2, none⟩ = some (.int .u64 t.bits) by simp [World.cell?, hnew]) d os;have K3 := fun d os => cell_regrown (show W1.cell? ⟨W.heap.size, 3, none⟩ = some (.string t.name) by simp [World.cell?, hnew]) d os;have K4 := fun d os => cell_regrown (show W1.cell? ⟨W.heap.size, 4, none⟩ = some (.int .i64 t.low) by simp [World.cell?, hnew]) d os;have K5 := fun d os => cell_regrown (show W1.cell? ⟨W.heap.size, 5, none⟩ = some (.slice p nn cap) by simp [World.cell?, hnew]) d os;have HR := hid hr
 cases q1 with
 | false =>
   obtain rfl : r = false := by rw [hr]; rfl
   have CK := hid cK;rw [hW1] at CK K0 K1 K2 K3 K4 K5;clear cK cW cT hnew hW1 hb1 C1 C2 C3 C4 C5 hT hr;simp only [Tm.cells];go_enter Tryz.func193, Tryz.ntmps193
   go_wp2
   refine wp_region_quiet_below (by kernel_rfl) (by kernel_rfl) ?_;repeat (first | go_big_quiet_step (first | (with_reducible exact CK.out _ _)) | quiet_step (first | (with_reducible exact CK.out _ _)))
   refine wpQuiet_nil ?_;intro _ hw';obtain ⟨⟨dq, osq⟩, hw''⟩ := hw';subst hw'';go_wp2
   go_ret
   exact ⟨rfl, z3c dq osq⟩
 | true =>
   obtain ⟨hk25, hsh⟩ := hT rfl;have KS := fun d os => cell_regrown (hb1.cell (p := ⟨0, t.kind * 2 + 1, none⟩) (z3y hsh) ▸ hsh : W1.cell? ⟨0, t.kind * 2 + 1, none⟩ = some (.int .i64 pc)) d os;have hk' : ((t.kind : Int)) < 25 := by omega
   have KS0 : W1.cell? ⟨0, t.kind * 2 + 1, none⟩ = some (.int .i64 pc) := by rw [hb1.cell (p := ⟨0, t.kind * 2 + 1, none⟩) (z3y hsh)]; exact hsh
   clear KS;have KS := cell_regrown KS0;have CK := hid cK;have CW := hid cW;have CT := hid cT;rw [hW1] at CK CW CT K0 K1 K2 K3 K4 K5 KS
   cases q2 with
   | false =>
     obtain rfl : r = false := by rw [hr]; rfl
     clear cK cW cT hnew hW1 hb1 C2 C3 C4 C5 hT hr hsh KS0 C1;simp only [Tm.cells];go_enter Tryz.func193, Tryz.ntmps193
     go_wp2
     refine wp_region_quiet_below (by kernel_rfl) (by kernel_rfl) ?_;repeat (first | go_big_quiet_step (first | (with_reducible exact CK.out _ _) | (with_reducible exact CW.out _ _)) | quiet_step (first | (with_reducible exact CK.out _ _) | (with_reducible exact CW.out _ _)))
     refine wpQuiet_nil ?_;intro _ hw';obtain ⟨⟨dq, osq⟩, hw''⟩ := hw';subst hw'';go_wp2
     go_ret
     exact ⟨rfl, z3c dq osq⟩
   | true =>
     cases q3 with
     | false =>
       obtain rfl : r = false := by rw [hr]; rfl
       clear cK cW cT hnew hW1 hb1 C2 C4 C5 hT hr hsh KS0 C1;simp only [Tm.cells];go_enter Tryz.func193, Tryz.ntmps193
       go_wp2
       refine wp_region_quiet_below (by kernel_rfl) (by kernel_rfl) ?_;repeat (first | go_big_quiet_step (first | (with_reducible exact CK.out _ _) | (with_reducible exact CW.out _ _)) | quiet_step (first | (with_reducible exact CK.out _ _) | (with_reducible exact CW.out _ _)))
       refine wpQuiet_nil ?_;intro _ hw';obtain ⟨⟨dq, osq⟩, hw''⟩ := hw';subst hw'';go_wp2
       go_ret
       exact ⟨rfl, z3c dq osq⟩
     | true =>
       cases q4 with
       | false =>
         obtain rfl : r = false := by rw [hr]; rfl
         clear cK cW cT hnew hW1 hb1 C2 C4 C5 hT hr hsh KS0 C1;simp only [Tm.cells];go_enter Tryz.func193, Tryz.ntmps193
         go_wp2
         refine wp_region_quiet_below (by kernel_rfl) (by kernel_rfl) ?_;repeat (first | go_big_quiet_step (first | (with_reducible exact CK.out _ _) | (with_reducible exact CW.out _ _) | (with_reducible exact CT.out _ _)) | quiet_step (first | (with_reducible exact CK.out _ _) | (with_reducible exact CW.out _ _) | (with_reducible exact CT.out _ _)))
         refine wpQuiet_nil ?_;intro _ hw';obtain ⟨⟨dq, osq⟩, hw''⟩ := hw';subst hw'';go_wp2
         go_ret
         exact ⟨rfl, z3c dq osq⟩
       | true =>
         obtain rfl : r = q5 := by rw [hr]; rfl
         have cF : ∀ d os, Calls prog 200 #[.agg #[.int .u8 t.kind, .int .i64 t.width, .int .u64 t.bits, .string t.name, .int .i64 t.low, .slice p nn cap]] (grow (redrawn W1 d) os) fun e w'' => e = .returned (.bool r) /\ ∃ p : Regrown, w'' = grow (redrawn W1 p.d) p.os :=
          fun d os => Calls.regrown_of (C5 rfl rfl rfl rfl _ (by rw [hW1]; exact z3c d os))
         have CF := hid cF;rw [hW1] at CF;clear cK cW cT cF hnew hW1 hb1 C2 C4 C5 hT hr hsh KS0 C1;simp only [Tm.cells];go_enter Tryz.func193, Tryz.ntmps193
         go_wp2
         refine wp_region_quiet_below (by kernel_rfl) (by kernel_rfl) ?_;repeat (first | go_big_quiet_step (first | (with_reducible exact CK.out _ _) | (with_reducible exact CW.out _ _) | (with_reducible exact CT.out _ _) | (with_reducible exact CF.out _ _)) | quiet_step (first | (with_reducible exact CK.out _ _) | (with_reducible exact CW.out _ _) | (with_reducible exact CT.out _ _) | (with_reducible exact CF.out _ _)))
         refine wpQuiet_nil ?_;intro _ hw';obtain ⟨⟨dq, osq⟩, hw''⟩ := hw';subst hw'';go_wp2
         go_ret
         exact ⟨rfl, z3c dq osq⟩
theorem zbv (t : Tm) (sv : Value) (B : Nat) (W : World) (hB : B <= W.heap.size) (hs : SubAt W B sv t.sub) (hm : t.name.size <= 1000) (hT : zs W) :
 Calls prog 193 #[.agg (Tm.cells t sv).toArray] W fun e w' => e = .returned (.bool (zp t)) /\ Below W.heap.size W w' := by
 obtain ⟨p, nn, cap, S, rfl, hn, hmx, _, _, _⟩ := hs.inv;have e3 : (((nn : Nat) : Int) == ((zm t.kind : Nat) : Int)) = (t.sub.length == zm t.kind) := by rw [hn, Bool.eq_iff_iff, beq_iff_eq, beq_iff_eq]; omega
 refine za6 t p nn cap (zm t.kind) W _ _ _ _ (z1i t) _ hmx rfl rfl e3 rfl (fun h1 _ h3 _ w hb => ?_) (fun h => ?_) ?_
 ·simp only [Bool.and_eq_true, decide_eq_true_eq] at h1;exact zfi t _ B w (hs.kept (hb.mono hB)) hm h1.1 h1.2 (by simpa using h3)
 ·simp only [Bool.and_eq_true, decide_eq_true_eq] at h;exact ⟨by omega, hT t.kind h.2⟩
 ·unfold zp;rw [Bool.and_assoc]
end Go.Proofs.YtdmadnfadgggcaaGreatDoor
