import Derived.Test.YtdmadnfadgggcaaGreatDoorGd
import Derived.Test.YtdmadnfadgggcaaGreatDoorQR8TBase
import Derived.Test.YtdmadnfadgggcaaGreatDoorGc
set_option linter.unusedVariables false
set_option linter.unusedSimpArgs false
set_option warningAsError false
set_option maxHeartbeats 40000000
open Go.Lib (hid)
open Go.Proofs.Tryz (prog)
noncomputable section
namespace Go.Proofs.YtdmadnfadgggcaaGreatDoor
open Go.RowKit Go.Sort
theorem Tm.nodes_short : ∀ (z : Nat) (t : Tm), t.sz <= z -> t.long = false -> ∀ u ∈ t.nodes, u.name.size <= 200 := by
 intro z
 induction z with
 | zero => intro t ht; rw [Tm.sz_eq] at ht; omega
 | succ z ih =>
   intro t ht hl u hu;rw [Tm.long_eq, Bool.or_eq_false_iff] at hl;rw [Tm.nodes_eq] at hu;rcases List.mem_cons.1 hu with rfl | hu
   ·simpa using hl.2
   ·obtain ⟨v, hv, hu2⟩ := List.mem_flatMap.1 hu;have h1 := Tm.sz_mem hv;have h2 := Tm.sz_eq t;exact ih v (by omega) (Tm.longs_mem hv hl.1) u hu2
theorem zey {l : List Tm} {i : Nat} {u : Tm} (h : l[i]? = some u) : wdAt l i = u.width := by unfold wdAt; rw [h]
theorem z89 (w : Int) (x : Nat) : okW w x = true ↔ (1 <= w /\ w <= 64) /\ x < 2 ^ w.toNat := by
 unfold okW;by_cases h : 1 <= w /\ w <= 64
 ·rw [if_pos h, zak]; exact ⟨fun q => ⟨h, q⟩, fun q => q.2⟩
 ·rw [if_neg h]; exact ⟨fun q => (by cases q), fun q => absurd q.1 h⟩
theorem z3j {t : Tm} (h : zp t = true) : 1 <= t.kind /\ t.kind <= 24 /\ (1 <= t.width /\ t.width <= 64) /\ t.sub.length = zm t.kind /\ z58 t = true /\ z1i t = true := by unfold zp at h;simp only [Bool.and_eq_true, decide_eq_true_eq, beq_iff_eq] at h;obtain ⟨a, b, c, d, e, f⟩ := h;exact ⟨a, b, ((z89 _ _).1 c).1, d, e, f⟩
def allF (t : Tm) : Bool := t.nodes.all zp
def z7v (l : List Tm) : Bool := l.all allF
theorem zgo (t : Tm) : allF t = (zp t && z7v t.sub) := by
 unfold allF z7v;rw [Tm.nodes_eq, List.all_cons]
 congr 1
 induction t.sub with
 | nil => rfl
 | cons u l ih => rw [List.flatMap_cons, List.all_append, ih, List.all_cons]; rfl
theorem z7u (t : Tm) : allF t = true ↔ ∀ u ∈ t.nodes, zp u = true := by unfold allF; rw [List.all_eq_true]
theorem zcu {l : List Tm} {u : Tm} (h : z7v l = true) (hu : u ∈ l) : zp u = true := by have h1 := List.all_eq_true.1 h u hu;exact (z7u u).1 h1 u u.nodes_self
set_option maxRecDepth 100000 in
theorem z8c : ∀ (z : Nat) (t : Tm), t.sz <= z -> t.fit -> t.long = false -> ∀ (sv : Value) (B : Nat) (W : World), B <= W.heap.size -> SubAt W B sv t.sub ->
 Calls prog 167 #[.agg (Tm.cells t sv).toArray] W fun e w' => e = .returned (.bool (allF t)) /\ Below W.heap.size W w' := by
 intro z
 induction z with
 | zero => intro t ht; rw [Tm.sz_eq] at ht; omega
 | succ z ih =>
   intro t ht hfit hlong sv B W hB hs;obtain ⟨p, nn, cap, S, rfl, hlen, hmax, hfits, hcells, hsubs⟩ := hs.inv;obtain ⟨W1, hW1⟩ : ∃ W1, W1 = W.alloc (.cells #[.int .u8 t.kind, .int .i64 t.width, .int .u64 t.bits, .string t.name, .int .i64 t.low, .slice p nn cap] 90) := ⟨_, rfl⟩;have hb1 : Below W.heap.size W W1 := by rw [hW1]; exact (Below.refl _ _).alloc (Nat.le_refl _) _
   have hnew : W1.heap[W.heap.size]? = some (.cells #[.int .u8 t.kind, .int .i64 t.width, .int .u64 t.bits, .string t.name, .int .i64 t.low, .slice p nn cap] 90 (0, 0)) := by rw [hW1]; exact z5p rfl _
   have hsz1 : W1.heap.size = W.heap.size + 1 := by rw [hW1]; simp
   have hls : Tm.longs t.sub = false := by rw [Tm.long_eq] at hlong; exact (Bool.or_eq_false_iff.1 hlong).1
   have hnm : t.name.size <= 200 := Tm.nodes_short _ t (Nat.le_refl _) hlong t t.nodes_self;have H1 := hid (And.intro hb1 (And.intro hnew (And.intro hsz1 (And.intro hcells hsubs))));have HW := hid hW1;have HE := hid (zgo t);have HFS := hid hfits;have HLS := hid hls;have HFT := hid hfit;have HT := hid ht;generalize allF t = rv at HE ⊢;clear hb1 hnew hsz1 hcells hsubs hs hls hfits hfit ht hlong;simp only [Tm.cells];go_enter Tryz.func167, Tryz.ntmps167
   go_wp2
   rw [<- HW.out];clear hW1;go_loopw [3] (fun vi wr => ∃ k : Nat, vi = .int .i64 k /\ k <= nn /\ z7v (t.sub.take k) = true /\ Below W1.heap.size W1 wr) (fun vi _ => nn - (intOf vi).toNat)
   case atStart => exact ⟨0, rfl, by omega, by simp [z7v], Below.refl _ _⟩
   case round =>
    obtain ⟨k, rfl, hk, hl, hb⟩ := hrel;have HL := hid hl;have HB := hid hb;clear hl hb;obtain ⟨hb1, hnew, hsz1, hcells, hsubs⟩ := H1.out;have KT := hid (fun (i : Nat) (v : Value) (h : ((#[.int .u8 t.kind, .int .i64 t.width, .int .u64 t.bits, .string t.name, .int .i64 t.low, .slice p nn cap] : Array Value)[i]? = some v)) => (by rw [HB.out.cell (by rw [hsz1]; show W.heap.size < W.heap.size + 1; omega)]; exact zb (i := i) hnew h : wr.cell? ⟨W.heap.size, i, none⟩ = some v));have b5 := KT.out 5 _ rfl;have hWB : Below W.heap.size W wr := hb1.trans (HB.out.mono hb1.size);by_cases hlt : k < nn
    ·obtain ⟨u, hu⟩ : ∃ u, t.sub[k]? = some u := ⟨_, List.getElem?_eq_getElem (by omega)⟩;obtain ⟨b, o, rfl, hbn, a0, a1, a2, a3, a4, a5⟩ := hcells k u hu;rw [<- hWB.cell (Nat.lt_of_lt_of_le hbn hB)] at a0 a1 a2 a3 a4 a5;have hum := List.mem_of_getElem? hu;have hsz := Tm.sz_mem hum;have hszt := Tm.sz_eq t;have ht := HT.out;have hC := ih u (by omega) (HFS.out k u hu) (Tm.longs_mem hum HLS.out) (S k) B wr (Nat.le_trans hB hWB.size) ((hsubs k u hu).kept (hWB.mono hB));simp only [Tm.cells] at hC;have HC := hid hC;have HU := hid hu;have HUM := hid hum
     cases hul : allF u with
     | false =>
       rw [hul] at HC;have HF : Hid (rv = false) := hid (by rw [HE.out, show z7v t.sub = false by (cases h : z7v t.sub with | false => rfl | true => exact absurd (List.all_eq_true.1 h u hum) (by rw [hul]; simp)), Bool.and_false])
       clear hC hu hul hsz hszt hWB hbn hcells hsubs hb1 hnew hsz1 hum ht;go_wp2_with (go_at_call 167; (with_reducible refine HC.out.mono ?_); rintro e w2 ⟨rfl, hb2⟩)
       go_ret
       refine ⟨by rw [HF.out]; rfl, ?_⟩;have := H1.out.1
       exact this.trans ((HB.out.trans (hb2.mono HB.out.size)).mono this.size)
     | true =>
       rw [hul] at HC;have HUL := hid hul;clear hC hu hul hsz hszt hWB hbn hcells hsubs hb1 hnew hsz1 hum ht;go_wp2_with (go_at_call 167; (with_reducible refine HC.out.mono ?_); rintro e w2 ⟨rfl, hb2⟩)
       go_roundw
       case rel => exact ⟨k + 1, by first | rfl | (rw [zd _ (by unfold maxLen at hmax; omega) (by unfold maxLen at hmax; omega)]; rfl), by omega, by rw [z1f HU.out]; unfold z7v; rw [List.all_append, show (t.sub.take k).all allF = true from HL.out]; simp [HUL.out], HB.out.trans (hb2.mono HB.out.size)⟩
       case measure => (try rw [zd _ (by unfold maxLen at hmax; omega) (by unfold maxLen at hmax; omega)]); simp only [intOf]; omega
    ·obtain rfl : k = nn := by omega
     have hall : z7v t.sub = true := (by have h := HL.out; rwa [List.take_of_length_le (by omega)] at h);have HV : Hid (rv = zp t) := hid (by rw [HE.out, hall, Bool.and_true]);have b0 := KT.out 0 _ rfl;have b1 := KT.out 1 _ rfl;have b2 := KT.out 2 _ rfl;have b3 := KT.out 3 _ rfl;have b4 := KT.out 4 _ rfl;have hwv : ∀ i, i < k -> ∃ b o, p = some ⟨b, o, none⟩ /\ wr.cell? ⟨b, o + i * 6 + 1, none⟩ = some (.int .i64 (wdAt t.sub i)) /\ 1 <= wdAt t.sub i /\ wdAt t.sub i <= 64 := fun i hi => by have hu : t.sub[i]? = some (t.sub[i]'(by omega)) := List.getElem?_eq_getElem (by omega);obtain ⟨b, o, hp, hbn, _, c1, _⟩ := hcells i _ hu;rw [<- hWB.cell (Nat.lt_of_lt_of_le hbn hB)] at c1;rw [zey hu];have h1 := (z3j (zcu hall (List.mem_of_getElem? hu))).2.2.1;exact ⟨b, o, hp, c1, h1.1, h1.2⟩
     have HWV := hid hwv;have HWB := hid hWB;have HWI := hid (fun X => zap t.width X);clear hcells hsubs hnew hsz1 hb1 hwv hWB hall;by_cases hwd : 1 <= t.width /\ t.width <= 64
     ·rw [decide_eq_true hwd] at HWI;generalize hkk : t.kind = kk at *;obtain ⟨qn, hqn⟩ : ∃ q, (t.name.toList == []) = q := ⟨_, rfl⟩;have HQN := hid hqn;by_cases c1 : kk = 1
      ·obtain ⟨q0, hq0⟩ : ∃ q, ((k : Int) == 0) = q := ⟨_, rfl⟩;obtain ⟨ql, hql⟩ : ∃ q, (t.low == 0) = q := ⟨_, rfl⟩;obtain ⟨qo, hqo⟩ : ∃ q, okW t.width t.bits = q := ⟨_, rfl⟩;have HOK := hid (fun X => zcj t.width t.bits X HFT.out.2.2.1);rw [hqo] at HOK;have HR : Hid (rv = (q0 && (qn && (ql && qo)))) := hid (by
        rw [HV.out];have e0 : (t.sub.length == zm t.kind) = q0 := by rw [hkk, c1, <- hq0, hlen];show (k == 0) = _;rw [Bool.eq_iff_iff, beq_iff_eq, beq_iff_eq]; omega
        have e1 : okW t.width 0 = true := (z89 _ _).2 ⟨hwd, z55 _⟩;have e2 : z58 t = (qn && ql) := (by unfold z58; rw [hkk, c1, hqn, hql]; simp);have e3 : z1i t = qo := (by unfold z1i z27; rw [hkk, c1, if_pos rfl, hqo]);unfold zp;rw [e0, e1, e2, e3, hkk, c1];cases q0 <;> cases qn <;> cases ql <;> cases qo <;> rfl)
       have d1 : ((kk : Int) == 1) = true := (by rw [beq_iff_eq]; omega);have d2 : ((kk : Int) == 2) = false := (by rw [beq_eq_false_iff_ne]; omega);have d3 : ((kk : Int) == 3) = false := (by rw [beq_eq_false_iff_ne]; omega);have d4 : ((kk : Int) == 4) = false := (by rw [beq_eq_false_iff_ne]; omega);have d16 : ((kk : Int) == 16) = false := (by rw [beq_eq_false_iff_ne]; omega);have d17 : ((kk : Int) == 17) = false := (by rw [beq_eq_false_iff_ne]; omega);have d18 : ((kk : Int) == 18) = false := (by rw [beq_eq_false_iff_ne]; omega);have d19 : ((kk : Int) == 19) = false := (by rw [beq_eq_false_iff_ne]; omega);have d20 : ((kk : Int) == 20) = false := (by rw [beq_eq_false_iff_ne]; omega);have d21 : ((kk : Int) == 21) = false := (by rw [beq_eq_false_iff_ne]; omega);have d22 : ((kk : Int) == 22) = false := (by rw [beq_eq_false_iff_ne]; omega);have d23 : ((kk : Int) == 23) = false := (by rw [beq_eq_false_iff_ne]; omega);have d24 : ((kk : Int) == 24) = false := (by rw [beq_eq_false_iff_ne]; omega);clear hwd hqo hkk;cases q0 <;> cases qn <;> cases ql
       all_goals
        go_wp2_with fail
        go_quiet (fail)
        go_wp2_with first
         | (go_at_call 179; (with_reducible refine (HWI.out _).mono ?_); rintro e w2 ⟨rfl, rfl⟩)
         | (go_at_call 180; (with_reducible refine (HOK.out _).mono ?_); rintro e w3 ⟨rfl, rfl⟩)
        go_ret
        exact ⟨by rw [HR.out]; rfl, HWB.out.trans ⟨rfl, rfl, rfl, Nat.le_refl _, fun _ _ => rfl⟩⟩
      by_cases c2 : kk = 2
      ·obtain ⟨q0, hq0⟩ : ∃ q, ((k : Int) == 0) = q := ⟨_, rfl⟩;obtain ⟨ql, hql⟩ : ∃ q, (t.low == 0) = q := ⟨_, rfl⟩;obtain ⟨qb, hqb⟩ : ∃ q, ((t.bits : Int) == 0) = q := ⟨_, rfl⟩;obtain ⟨qo, hqo⟩ : ∃ q, varR t.name = q := ⟨_, rfl⟩;have HOK := hid (fun X => zck t.name X (by omega));rw [hqo] at HOK;have HR : Hid (rv = (q0 && (qb && (ql && qo)))) := hid (by
        rw [HV.out];have e0 : (t.sub.length == zm t.kind) = q0 := by rw [hkk, c2, <- hq0, hlen];show (k == 0) = _;rw [Bool.eq_iff_iff, beq_iff_eq, beq_iff_eq]; omega
        have e1 : okW t.width 0 = true := (z89 _ _).2 ⟨hwd, z55 _⟩;have e4 : (t.bits == 0) = qb := (by rw [<- hqb, Bool.eq_iff_iff, beq_iff_eq, beq_iff_eq]; omega);have e2 : z58 t = (qb && ql) := (by unfold z58; rw [hkk, c2, e4, hql]; simp);have e3 : z1i t = qo := (by unfold z1i z27; rw [hkk, c2, if_neg (by decide), if_pos rfl, hqo]);unfold zp;rw [e0, e1, e2, e3, hkk, c2];cases q0 <;> cases qb <;> cases ql <;> cases qo <;> rfl)
       have d1 : ((kk : Int) == 1) = false := (by rw [beq_eq_false_iff_ne]; omega);have d2 : ((kk : Int) == 2) = true := (by rw [beq_iff_eq]; omega);have d3 : ((kk : Int) == 3) = false := (by rw [beq_eq_false_iff_ne]; omega);have d4 : ((kk : Int) == 4) = false := (by rw [beq_eq_false_iff_ne]; omega);have d16 : ((kk : Int) == 16) = false := (by rw [beq_eq_false_iff_ne]; omega);have d17 : ((kk : Int) == 17) = false := (by rw [beq_eq_false_iff_ne]; omega);have d18 : ((kk : Int) == 18) = false := (by rw [beq_eq_false_iff_ne]; omega);have d19 : ((kk : Int) == 19) = false := (by rw [beq_eq_false_iff_ne]; omega);have d20 : ((kk : Int) == 20) = false := (by rw [beq_eq_false_iff_ne]; omega);have d21 : ((kk : Int) == 21) = false := (by rw [beq_eq_false_iff_ne]; omega);have d22 : ((kk : Int) == 22) = false := (by rw [beq_eq_false_iff_ne]; omega);have d23 : ((kk : Int) == 23) = false := (by rw [beq_eq_false_iff_ne]; omega);have d24 : ((kk : Int) == 24) = false := (by rw [beq_eq_false_iff_ne]; omega);clear hwd hqo hkk hqn;cases q0 <;> cases qb <;> cases ql
       all_goals
        go_wp2_with fail
        go_quiet (fail)
        go_wp2_with first
         | (go_at_call 179; (with_reducible refine (HWI.out _).mono ?_); rintro e w2 ⟨rfl, rfl⟩)
         | (go_at_call 181; (with_reducible refine (HOK.out _).mono ?_); rintro e w3 ⟨rfl, hb3⟩)
        go_ret
        first
         | exact ⟨by rw [HR.out]; rfl, HWB.out.trans ⟨rfl, rfl, rfl, Nat.le_refl _, fun _ _ => rfl⟩⟩
         | exact ⟨by rw [HR.out]; rfl, HWB.out.trans (Below.trans (b := wr.drewN nq) ⟨rfl, rfl, rfl, Nat.le_refl _, fun _ _ => rfl⟩ (hb3.mono HWB.out.size))⟩
      have hl3 : decide ((kk : Int) < 3) = decide (kk < 3) := (by rw [Bool.eq_iff_iff]; simp; omega);have hg24 : decide ((24 : Int) < (kk : Int)) = decide (24 < kk) := (by rw [Bool.eq_iff_iff]; simp; omega);by_cases c0 : kk < 3 ∨ 24 < kk
      ·have HR : Hid (rv = false) := hid (by
        rw [HV.out]
        cases h : zp t with
        | false => rfl
        | true => have := z3j h; rw [hkk] at this; omega)
       have d1 : ((kk : Int) == 1) = false := (by rw [beq_eq_false_iff_ne]; omega);have d2 : ((kk : Int) == 2) = false := (by rw [beq_eq_false_iff_ne]; omega);have d3 : ((kk : Int) == 3) = false := (by rw [beq_eq_false_iff_ne]; omega);have d4 : ((kk : Int) == 4) = false := (by rw [beq_eq_false_iff_ne]; omega);have d16 : ((kk : Int) == 16) = false := (by rw [beq_eq_false_iff_ne]; omega);have d17 : ((kk : Int) == 17) = false := (by rw [beq_eq_false_iff_ne]; omega);have d18 : ((kk : Int) == 18) = false := (by rw [beq_eq_false_iff_ne]; omega);have d19 : ((kk : Int) == 19) = false := (by rw [beq_eq_false_iff_ne]; omega);have d20 : ((kk : Int) == 20) = false := (by rw [beq_eq_false_iff_ne]; omega);have d21 : ((kk : Int) == 21) = false := (by rw [beq_eq_false_iff_ne]; omega);have d22 : ((kk : Int) == 22) = false := (by rw [beq_eq_false_iff_ne]; omega);have d23 : ((kk : Int) == 23) = false := (by rw [beq_eq_false_iff_ne]; omega);have d24 : ((kk : Int) == 24) = false := (by rw [beq_eq_false_iff_ne]; omega);clear hwd hkk hqn;rcases c0 with c0 | c0
       ·have z3 : decide ((kk : Int) < 3) = true := (by rw [hl3]; simp [c0]);clear hl3 hg24;go_wp2_with fail
        go_quiet (fail)
        go_wp2_with (go_at_call 179; (with_reducible refine (HWI.out _).mono ?_); rintro e w2 ⟨rfl, rfl⟩)
        go_ret
        exact ⟨by rw [HR.out]; rfl, HWB.out.trans ⟨rfl, rfl, rfl, Nat.le_refl _, fun _ _ => rfl⟩⟩
       ·have z3 : decide ((kk : Int) < 3) = false := (by rw [hl3]; simp; omega);have z4 : decide ((24 : Int) < (kk : Int)) = true := (by rw [hg24]; simp [c0]);clear hl3 hg24;go_wp2_with fail
        go_quiet (fail)
        go_wp2_with (go_at_call 179; (with_reducible refine (HWI.out _).mono ?_); rintro e w2 ⟨rfl, rfl⟩)
        go_ret
        exact ⟨by rw [HR.out]; rfl, HWB.out.trans ⟨rfl, rfl, rfl, Nat.le_refl _, fun _ _ => rfl⟩⟩
      have z3 : decide ((kk : Int) < 3) = false := (by rw [hl3]; simp; omega);have z4 : decide ((24 : Int) < (kk : Int)) = false := (by rw [hg24]; simp; omega);clear hl3 hg24;have htf : zp t = ((t.sub.length == zm kk) && (z58 t && z1i t)) := by unfold zp;rw [hkk, (z89 _ _).2 ⟨hwd, z55 _⟩, decide_eq_true (by omega), decide_eq_true (by omega)];simp
      have htd : z58 t = ((t.bits == 0) && (qn && (t.low == 0 || kk == 21))) := by unfold z58;rw [hkk, hqn, show (kk == 1) = false by simpa using c1, show (kk == 2) = false by simpa using c2];simp [Bool.and_assoc]
      have hne1 : ((kk : Int) != 21) = !(kk == 21) := (by rw [Bool.eq_iff_iff]; simp; omega);by_cases hb : t.bits = 0
      ·have hb0 : ((t.bits : Int) != 0) = false := (by simp [hb]);cases qn
       ·have hqn2 : (t.name.toList != []) = true := (by simp [bne, hqn]);have HR : Hid (rv = false) := hid (by rw [HV.out, htf, htd]; simp);have d1 : ((kk : Int) == 1) = false := (by rw [beq_eq_false_iff_ne]; omega);have d2 : ((kk : Int) == 2) = false := (by rw [beq_eq_false_iff_ne]; omega);clear hwd hkk htf htd;go_wp2_with fail
        go_quiet (fail)
        go_wp2_with (go_at_call 179; (with_reducible refine (HWI.out _).mono ?_); rintro e w2 ⟨rfl, rfl⟩)
        go_ret
        exact ⟨by rw [HR.out]; rfl, HWB.out.trans ⟨rfl, rfl, rfl, Nat.le_refl _, fun _ _ => rfl⟩⟩
       ·have hqn2 : (t.name.toList != []) = false := (by simp [bne, hqn]);by_cases hlow : t.low = 0 ∨ kk = 21
        ·have htd2 : z58 t = true := (by rw [htd, hb]; rcases hlow with h | h <;> simp [h]);by_cases hk0 : k = 0
         ·have hk1 : ((k : Int) == 0) = true := (by rw [beq_iff_eq]; omega);have hp0 : zm kk ≠ 0 := (by unfold zm; rw [if_neg (by omega)]; (repeat' split) <;> omega);have HR : Hid (rv = false) := hid (by rw [HV.out, htf, show (t.sub.length == zm kk) = false by rw [beq_eq_false_iff_ne, hlen, hk0]; exact fun e => hp0 e.symm]; rfl);have d1 : ((kk : Int) == 1) = false := (by rw [beq_eq_false_iff_ne]; omega);have d2 : ((kk : Int) == 2) = false := (by rw [beq_eq_false_iff_ne]; omega);rcases hlow with hlow | hlow
          ·have hl0 : (t.low != 0) = false := (by simp [hlow]);clear hwd hkk htf htd htd2;go_wp2_with fail
           go_quiet (fail)
           go_wp2_with (go_at_call 179; (with_reducible refine (HWI.out _).mono ?_); rintro e w2 ⟨rfl, rfl⟩)
           go_ret
           exact ⟨by rw [HR.out]; rfl, HWB.out.trans ⟨rfl, rfl, rfl, Nat.le_refl _, fun _ _ => rfl⟩⟩
          ·have h21 : ((kk : Int) != 21) = false := (by rw [hne1, hlow]; rfl);cases hl0 : (t.low != 0)
           all_goals
            clear hwd hkk htf htd htd2;go_wp2_with fail
            go_quiet (fail)
            go_wp2_with (go_at_call 179; (with_reducible refine (HWI.out _).mono ?_); rintro e w2 ⟨rfl, rfl⟩)
            go_ret
            exact ⟨by rw [HR.out]; rfl, HWB.out.trans ⟨rfl, rfl, rfl, Nat.le_refl _, fun _ _ => rfl⟩⟩
         ·have hk1 : ((k : Int) == 0) = false := (by rw [beq_eq_false_iff_ne]; omega);have hkp : 0 < k := (by omega);obtain ⟨b, o, rfl, hx0, hx1, hx2⟩ := HWV.out 0 hkp;rw [Nat.zero_mul, Nat.add_zero] at hx0;have hwv : ∀ i, i < k -> wr.cell? ⟨b, o + i * 6 + 1, none⟩ = some (.int .i64 (wdAt t.sub i)) /\ 1 <= wdAt t.sub i /\ wdAt t.sub i <= 64 := fun i hi => by
           obtain ⟨b', o', e, h1, h2, h3⟩ := HWV.out i hi;cases e;exact ⟨h1, h2, h3⟩
          have HRF : Hid (rv = ((t.sub.length == zm kk) && z1i t)) := hid (by rw [HV.out, htf, htd2, Bool.true_and]);have HWW := hid hwv;have hlo2 : (t.low != 0) = true -> ((kk : Int) != 21) = false := fun h => by
           rcases hlow with h1 | h1
           ·rw [h1] at h; simp at h
           ·rw [hne1, h1]; rfl
          clear htf htd htd2 hwv HWV;by_cases c3 : kk = 3
          ·have d1 : ((kk : Int) == 1) = false := (by rw [beq_eq_false_iff_ne]; omega);have d2 : ((kk : Int) == 2) = false := (by rw [beq_eq_false_iff_ne]; omega);have d3 : ((kk : Int) == 3) = true := (by rw [beq_iff_eq]; omega);have d4 : ((kk : Int) == 4) = false := (by rw [beq_eq_false_iff_ne]; omega);have d16 : ((kk : Int) == 16) = false := (by rw [beq_eq_false_iff_ne]; omega);have d17 : ((kk : Int) == 17) = false := (by rw [beq_eq_false_iff_ne]; omega);have d18 : ((kk : Int) == 18) = false := (by rw [beq_eq_false_iff_ne]; omega);have d19 : ((kk : Int) == 19) = false := (by rw [beq_eq_false_iff_ne]; omega);have d20 : ((kk : Int) == 20) = false := (by rw [beq_eq_false_iff_ne]; omega);have d21 : ((kk : Int) == 21) = false := (by rw [beq_eq_false_iff_ne]; omega);have d22 : ((kk : Int) == 22) = false := (by rw [beq_eq_false_iff_ne]; omega);have d23 : ((kk : Int) == 23) = false := (by rw [beq_eq_false_iff_ne]; omega);have d24 : ((kk : Int) == 24) = false := (by rw [beq_eq_false_iff_ne]; omega);have hl0 : (t.low != 0) = false := (by rcases hlow with h | h <;> first | omega | (simp [h]; done));have hpk : zm kk = 1 := (by rw [c3]; rfl);by_cases hm : k = 1
           ·have hmI : ((k : Int) == 1) = true := (by rw [beq_iff_eq]; omega);have hRF : rv = z1i t := (by rw [HRF.out, show (t.sub.length == zm kk) = true by rw [beq_iff_eq, hlen, hm, hpk], Bool.true_and]);have hK0 : z1i t = z27 kk t.width (wdAt t.sub 0) (wdAt t.sub 1) (wdAt t.sub 2) t.low t.bits t.name := (by unfold z1i; rw [hkk]);rw [hK0] at hRF;unfold z27 at hRF;rw [if_neg c1, if_neg c2, if_pos (by omega)] at hRF;have HR : Hid (rv = (wdAt t.sub 0 == t.width)) := hid (by exact hRF);clear hRF hK0 hwd hlow hlo2 hne1 hkk hpk;go_wp2_with fail
            go_quiet (fail)
            go_wp2_with (go_at_call 179; (with_reducible refine (HWI.out _).mono ?_); rintro e w2 ⟨rfl, rfl⟩)
            go_ret
            exact ⟨by rw [HR.out]; rfl, HWB.out.trans ⟨rfl, rfl, rfl, Nat.le_refl _, fun _ _ => rfl⟩⟩
           ·have hmI : ((k : Int) == 1) = false := (by rw [beq_eq_false_iff_ne]; omega);have HR : Hid (rv = false) := hid (by rw [HRF.out, show (t.sub.length == zm kk) = false by rw [beq_eq_false_iff_ne, hlen, hpk]; exact hm, Bool.false_and]);clear hwd hlow hlo2 hne1 hkk hpk;go_wp2_with fail
            go_quiet (fail)
            go_wp2_with (go_at_call 179; (with_reducible refine (HWI.out _).mono ?_); rintro e w2 ⟨rfl, rfl⟩)
            go_ret
            exact ⟨by rw [HR.out]; rfl, HWB.out.trans ⟨rfl, rfl, rfl, Nat.le_refl _, fun _ _ => rfl⟩⟩
          by_cases c4 : kk = 4
          ·have d1 : ((kk : Int) == 1) = false := (by rw [beq_eq_false_iff_ne]; omega);have d2 : ((kk : Int) == 2) = false := (by rw [beq_eq_false_iff_ne]; omega);have d3 : ((kk : Int) == 3) = false := (by rw [beq_eq_false_iff_ne]; omega);have d4 : ((kk : Int) == 4) = true := (by rw [beq_iff_eq]; omega);have d16 : ((kk : Int) == 16) = false := (by rw [beq_eq_false_iff_ne]; omega);have d17 : ((kk : Int) == 17) = false := (by rw [beq_eq_false_iff_ne]; omega);have d18 : ((kk : Int) == 18) = false := (by rw [beq_eq_false_iff_ne]; omega);have d19 : ((kk : Int) == 19) = false := (by rw [beq_eq_false_iff_ne]; omega);have d20 : ((kk : Int) == 20) = false := (by rw [beq_eq_false_iff_ne]; omega);have d21 : ((kk : Int) == 21) = false := (by rw [beq_eq_false_iff_ne]; omega);have d22 : ((kk : Int) == 22) = false := (by rw [beq_eq_false_iff_ne]; omega);have d23 : ((kk : Int) == 23) = false := (by rw [beq_eq_false_iff_ne]; omega);have d24 : ((kk : Int) == 24) = false := (by rw [beq_eq_false_iff_ne]; omega);have hl0 : (t.low != 0) = false := (by rcases hlow with h | h <;> first | omega | (simp [h]; done));have hpk : zm kk = 1 := (by rw [c4]; rfl);by_cases hm : k = 1
           ·have hmI : ((k : Int) == 1) = true := (by rw [beq_iff_eq]; omega);have hRF : rv = z1i t := (by rw [HRF.out, show (t.sub.length == zm kk) = true by rw [beq_iff_eq, hlen, hm, hpk], Bool.true_and]);have hK0 : z1i t = z27 kk t.width (wdAt t.sub 0) (wdAt t.sub 1) (wdAt t.sub 2) t.low t.bits t.name := (by unfold z1i; rw [hkk]);rw [hK0] at hRF;unfold z27 at hRF;rw [if_neg c1, if_neg c2, if_pos (by omega)] at hRF;have HR : Hid (rv = (wdAt t.sub 0 == t.width)) := hid (by exact hRF);clear hRF hK0 hwd hlow hlo2 hne1 hkk hpk;go_wp2_with fail
            go_quiet (fail)
            go_wp2_with (go_at_call 179; (with_reducible refine (HWI.out _).mono ?_); rintro e w2 ⟨rfl, rfl⟩)
            go_ret
            exact ⟨by rw [HR.out]; rfl, HWB.out.trans ⟨rfl, rfl, rfl, Nat.le_refl _, fun _ _ => rfl⟩⟩
           ·have hmI : ((k : Int) == 1) = false := (by rw [beq_eq_false_iff_ne]; omega);have HR : Hid (rv = false) := hid (by rw [HRF.out, show (t.sub.length == zm kk) = false by rw [beq_eq_false_iff_ne, hlen, hpk]; exact hm, Bool.false_and]);clear hwd hlow hlo2 hne1 hkk hpk;go_wp2_with fail
            go_quiet (fail)
            go_wp2_with (go_at_call 179; (with_reducible refine (HWI.out _).mono ?_); rintro e w2 ⟨rfl, rfl⟩)
            go_ret
            exact ⟨by rw [HR.out]; rfl, HWB.out.trans ⟨rfl, rfl, rfl, Nat.le_refl _, fun _ _ => rfl⟩⟩
          by_cases c16 : kk = 16
          ·have d1 : ((kk : Int) == 1) = false := (by rw [beq_eq_false_iff_ne]; omega);have d2 : ((kk : Int) == 2) = false := (by rw [beq_eq_false_iff_ne]; omega);have d3 : ((kk : Int) == 3) = false := (by rw [beq_eq_false_iff_ne]; omega);have d4 : ((kk : Int) == 4) = false := (by rw [beq_eq_false_iff_ne]; omega);have d16 : ((kk : Int) == 16) = true := (by rw [beq_iff_eq]; omega);have d17 : ((kk : Int) == 17) = false := (by rw [beq_eq_false_iff_ne]; omega);have d18 : ((kk : Int) == 18) = false := (by rw [beq_eq_false_iff_ne]; omega);have d19 : ((kk : Int) == 19) = false := (by rw [beq_eq_false_iff_ne]; omega);have d20 : ((kk : Int) == 20) = false := (by rw [beq_eq_false_iff_ne]; omega);have d21 : ((kk : Int) == 21) = false := (by rw [beq_eq_false_iff_ne]; omega);have d22 : ((kk : Int) == 22) = false := (by rw [beq_eq_false_iff_ne]; omega);have d23 : ((kk : Int) == 23) = false := (by rw [beq_eq_false_iff_ne]; omega);have d24 : ((kk : Int) == 24) = false := (by rw [beq_eq_false_iff_ne]; omega);have hl0 : (t.low != 0) = false := (by rcases hlow with h | h <;> first | omega | (simp [h]; done));have hpk : zm kk = 2 := (by rw [c16]; rfl);by_cases hm : k = 2
           ·have hmI : ((k : Int) == 2) = true := (by rw [beq_iff_eq]; omega);have hRF : rv = z1i t := (by rw [HRF.out, show (t.sub.length == zm kk) = true by rw [beq_iff_eq, hlen, hm, hpk], Bool.true_and]);have hK0 : z1i t = z27 kk t.width (wdAt t.sub 0) (wdAt t.sub 1) (wdAt t.sub 2) t.low t.bits t.name := (by unfold z1i; rw [hkk]);rw [hK0] at hRF;unfold z27 at hRF;rw [if_neg c1, if_neg c2, if_neg (by omega), if_pos (by omega)] at hRF;obtain ⟨hy0, hy1, hy2⟩ := HWW.out 1 (by omega);rw [Nat.one_mul] at hy0;obtain ⟨q1, hq1⟩ : ∃ q, (t.width == 1) = q := ⟨_, rfl⟩;obtain ⟨q2, hq2⟩ : ∃ q, (wdAt t.sub 1 == wdAt t.sub 0) = q := ⟨_, rfl⟩;have HR : Hid (rv = (q1 && q2)) := hid (by rw [hRF, hq1]; congr 1; rw [<- hq2, Bool.eq_iff_iff, beq_iff_eq, beq_iff_eq]; exact eq_comm);clear hRF hK0 hwd hlow hlo2 hne1 hkk hpk;cases q1
            all_goals
             go_wp2_with fail
             go_quiet (fail)
             go_wp2_with (go_at_call 179; (with_reducible refine (HWI.out _).mono ?_); rintro e w2 ⟨rfl, rfl⟩)
             go_ret
             exact ⟨by rw [HR.out]; rfl, HWB.out.trans ⟨rfl, rfl, rfl, Nat.le_refl _, fun _ _ => rfl⟩⟩
           ·have hmI : ((k : Int) == 2) = false := (by rw [beq_eq_false_iff_ne]; omega);have HR : Hid (rv = false) := hid (by rw [HRF.out, show (t.sub.length == zm kk) = false by rw [beq_eq_false_iff_ne, hlen, hpk]; exact hm, Bool.false_and]);clear hwd hlow hlo2 hne1 hkk hpk;go_wp2_with fail
            go_quiet (fail)
            go_wp2_with (go_at_call 179; (with_reducible refine (HWI.out _).mono ?_); rintro e w2 ⟨rfl, rfl⟩)
            go_ret
            exact ⟨by rw [HR.out]; rfl, HWB.out.trans ⟨rfl, rfl, rfl, Nat.le_refl _, fun _ _ => rfl⟩⟩
          by_cases c17 : kk = 17
          ·have d1 : ((kk : Int) == 1) = false := (by rw [beq_eq_false_iff_ne]; omega);have d2 : ((kk : Int) == 2) = false := (by rw [beq_eq_false_iff_ne]; omega);have d3 : ((kk : Int) == 3) = false := (by rw [beq_eq_false_iff_ne]; omega);have d4 : ((kk : Int) == 4) = false := (by rw [beq_eq_false_iff_ne]; omega);have d16 : ((kk : Int) == 16) = false := (by rw [beq_eq_false_iff_ne]; omega);have d17 : ((kk : Int) == 17) = true := (by rw [beq_iff_eq]; omega);have d18 : ((kk : Int) == 18) = false := (by rw [beq_eq_false_iff_ne]; omega);have d19 : ((kk : Int) == 19) = false := (by rw [beq_eq_false_iff_ne]; omega);have d20 : ((kk : Int) == 20) = false := (by rw [beq_eq_false_iff_ne]; omega);have d21 : ((kk : Int) == 21) = false := (by rw [beq_eq_false_iff_ne]; omega);have d22 : ((kk : Int) == 22) = false := (by rw [beq_eq_false_iff_ne]; omega);have d23 : ((kk : Int) == 23) = false := (by rw [beq_eq_false_iff_ne]; omega);have d24 : ((kk : Int) == 24) = false := (by rw [beq_eq_false_iff_ne]; omega);have hl0 : (t.low != 0) = false := (by rcases hlow with h | h <;> first | omega | (simp [h]; done));have hpk : zm kk = 2 := (by rw [c17]; rfl);by_cases hm : k = 2
           ·have hmI : ((k : Int) == 2) = true := (by rw [beq_iff_eq]; omega);have hRF : rv = z1i t := (by rw [HRF.out, show (t.sub.length == zm kk) = true by rw [beq_iff_eq, hlen, hm, hpk], Bool.true_and]);have hK0 : z1i t = z27 kk t.width (wdAt t.sub 0) (wdAt t.sub 1) (wdAt t.sub 2) t.low t.bits t.name := (by unfold z1i; rw [hkk]);rw [hK0] at hRF;unfold z27 at hRF;rw [if_neg c1, if_neg c2, if_neg (by omega), if_pos (by omega)] at hRF;obtain ⟨hy0, hy1, hy2⟩ := HWW.out 1 (by omega);rw [Nat.one_mul] at hy0;obtain ⟨q1, hq1⟩ : ∃ q, (t.width == 1) = q := ⟨_, rfl⟩;obtain ⟨q2, hq2⟩ : ∃ q, (wdAt t.sub 1 == wdAt t.sub 0) = q := ⟨_, rfl⟩;have HR : Hid (rv = (q1 && q2)) := hid (by rw [hRF, hq1]; congr 1; rw [<- hq2, Bool.eq_iff_iff, beq_iff_eq, beq_iff_eq]; exact eq_comm);clear hRF hK0 hwd hlow hlo2 hne1 hkk hpk;cases q1
            all_goals
             go_wp2_with fail
             go_quiet (fail)
             go_wp2_with (go_at_call 179; (with_reducible refine (HWI.out _).mono ?_); rintro e w2 ⟨rfl, rfl⟩)
             go_ret
             exact ⟨by rw [HR.out]; rfl, HWB.out.trans ⟨rfl, rfl, rfl, Nat.le_refl _, fun _ _ => rfl⟩⟩
           ·have hmI : ((k : Int) == 2) = false := (by rw [beq_eq_false_iff_ne]; omega);have HR : Hid (rv = false) := hid (by rw [HRF.out, show (t.sub.length == zm kk) = false by rw [beq_eq_false_iff_ne, hlen, hpk]; exact hm, Bool.false_and]);clear hwd hlow hlo2 hne1 hkk hpk;go_wp2_with fail
            go_quiet (fail)
            go_wp2_with (go_at_call 179; (with_reducible refine (HWI.out _).mono ?_); rintro e w2 ⟨rfl, rfl⟩)
            go_ret
            exact ⟨by rw [HR.out]; rfl, HWB.out.trans ⟨rfl, rfl, rfl, Nat.le_refl _, fun _ _ => rfl⟩⟩
          by_cases c18 : kk = 18
          ·have d1 : ((kk : Int) == 1) = false := (by rw [beq_eq_false_iff_ne]; omega);have d2 : ((kk : Int) == 2) = false := (by rw [beq_eq_false_iff_ne]; omega);have d3 : ((kk : Int) == 3) = false := (by rw [beq_eq_false_iff_ne]; omega);have d4 : ((kk : Int) == 4) = false := (by rw [beq_eq_false_iff_ne]; omega);have d16 : ((kk : Int) == 16) = false := (by rw [beq_eq_false_iff_ne]; omega);have d17 : ((kk : Int) == 17) = false := (by rw [beq_eq_false_iff_ne]; omega);have d18 : ((kk : Int) == 18) = true := (by rw [beq_iff_eq]; omega);have d19 : ((kk : Int) == 19) = false := (by rw [beq_eq_false_iff_ne]; omega);have d20 : ((kk : Int) == 20) = false := (by rw [beq_eq_false_iff_ne]; omega);have d21 : ((kk : Int) == 21) = false := (by rw [beq_eq_false_iff_ne]; omega);have d22 : ((kk : Int) == 22) = false := (by rw [beq_eq_false_iff_ne]; omega);have d23 : ((kk : Int) == 23) = false := (by rw [beq_eq_false_iff_ne]; omega);have d24 : ((kk : Int) == 24) = false := (by rw [beq_eq_false_iff_ne]; omega);have hl0 : (t.low != 0) = false := (by rcases hlow with h | h <;> first | omega | (simp [h]; done));have hpk : zm kk = 2 := (by rw [c18]; rfl);by_cases hm : k = 2
           ·have hmI : ((k : Int) == 2) = true := (by rw [beq_iff_eq]; omega);have hRF : rv = z1i t := (by rw [HRF.out, show (t.sub.length == zm kk) = true by rw [beq_iff_eq, hlen, hm, hpk], Bool.true_and]);have hK0 : z1i t = z27 kk t.width (wdAt t.sub 0) (wdAt t.sub 1) (wdAt t.sub 2) t.low t.bits t.name := (by unfold z1i; rw [hkk]);rw [hK0] at hRF;unfold z27 at hRF;rw [if_neg c1, if_neg c2, if_neg (by omega), if_pos (by omega)] at hRF;obtain ⟨hy0, hy1, hy2⟩ := HWW.out 1 (by omega);rw [Nat.one_mul] at hy0;obtain ⟨q1, hq1⟩ : ∃ q, (t.width == 1) = q := ⟨_, rfl⟩;obtain ⟨q2, hq2⟩ : ∃ q, (wdAt t.sub 1 == wdAt t.sub 0) = q := ⟨_, rfl⟩;have HR : Hid (rv = (q1 && q2)) := hid (by rw [hRF, hq1]; congr 1; rw [<- hq2, Bool.eq_iff_iff, beq_iff_eq, beq_iff_eq]; exact eq_comm);clear hRF hK0 hwd hlow hlo2 hne1 hkk hpk;cases q1
            all_goals
             go_wp2_with fail
             go_quiet (fail)
             go_wp2_with (go_at_call 179; (with_reducible refine (HWI.out _).mono ?_); rintro e w2 ⟨rfl, rfl⟩)
             go_ret
             exact ⟨by rw [HR.out]; rfl, HWB.out.trans ⟨rfl, rfl, rfl, Nat.le_refl _, fun _ _ => rfl⟩⟩
           ·have hmI : ((k : Int) == 2) = false := (by rw [beq_eq_false_iff_ne]; omega);have HR : Hid (rv = false) := hid (by rw [HRF.out, show (t.sub.length == zm kk) = false by rw [beq_eq_false_iff_ne, hlen, hpk]; exact hm, Bool.false_and]);clear hwd hlow hlo2 hne1 hkk hpk;go_wp2_with fail
            go_quiet (fail)
            go_wp2_with (go_at_call 179; (with_reducible refine (HWI.out _).mono ?_); rintro e w2 ⟨rfl, rfl⟩)
            go_ret
            exact ⟨by rw [HR.out]; rfl, HWB.out.trans ⟨rfl, rfl, rfl, Nat.le_refl _, fun _ _ => rfl⟩⟩
          by_cases c19 : kk = 19
          ·have d1 : ((kk : Int) == 1) = false := (by rw [beq_eq_false_iff_ne]; omega);have d2 : ((kk : Int) == 2) = false := (by rw [beq_eq_false_iff_ne]; omega);have d3 : ((kk : Int) == 3) = false := (by rw [beq_eq_false_iff_ne]; omega);have d4 : ((kk : Int) == 4) = false := (by rw [beq_eq_false_iff_ne]; omega);have d16 : ((kk : Int) == 16) = false := (by rw [beq_eq_false_iff_ne]; omega);have d17 : ((kk : Int) == 17) = false := (by rw [beq_eq_false_iff_ne]; omega);have d18 : ((kk : Int) == 18) = false := (by rw [beq_eq_false_iff_ne]; omega);have d19 : ((kk : Int) == 19) = true := (by rw [beq_iff_eq]; omega);have d20 : ((kk : Int) == 20) = false := (by rw [beq_eq_false_iff_ne]; omega);have d21 : ((kk : Int) == 21) = false := (by rw [beq_eq_false_iff_ne]; omega);have d22 : ((kk : Int) == 22) = false := (by rw [beq_eq_false_iff_ne]; omega);have d23 : ((kk : Int) == 23) = false := (by rw [beq_eq_false_iff_ne]; omega);have d24 : ((kk : Int) == 24) = false := (by rw [beq_eq_false_iff_ne]; omega);have hl0 : (t.low != 0) = false := (by rcases hlow with h | h <;> first | omega | (simp [h]; done));have hpk : zm kk = 3 := (by rw [c19]; rfl);by_cases hm : k = 3
           ·have hmI : ((k : Int) == 3) = true := (by rw [beq_iff_eq]; omega);have hRF : rv = z1i t := (by rw [HRF.out, show (t.sub.length == zm kk) = true by rw [beq_iff_eq, hlen, hm, hpk], Bool.true_and]);have hK0 : z1i t = z27 kk t.width (wdAt t.sub 0) (wdAt t.sub 1) (wdAt t.sub 2) t.low t.bits t.name := (by unfold z1i; rw [hkk]);rw [hK0] at hRF;unfold z27 at hRF;rw [if_neg c1, if_neg c2, if_neg (by omega), if_neg (by omega), if_pos c19] at hRF;obtain ⟨hy0, hy1, hy2⟩ := HWW.out 1 (by omega);rw [Nat.one_mul] at hy0;obtain ⟨hz0, hz1, hz2⟩ := HWW.out 2 (by omega);obtain ⟨q1, hq1⟩ : ∃ q, (wdAt t.sub 0 == 1) = q := ⟨_, rfl⟩;obtain ⟨q2, hq2⟩ : ∃ q, (wdAt t.sub 1 == t.width) = q := ⟨_, rfl⟩;obtain ⟨q3, hq3⟩ : ∃ q, (wdAt t.sub 2 == t.width) = q := ⟨_, rfl⟩;have HR : Hid (rv = (q1 && (q2 && q3))) := hid (by rw [hRF, hq1, hq2, hq3]);clear hRF hK0 hwd hlow hlo2 hne1 hkk hpk;cases q1 <;> cases q2
            all_goals
             go_wp2_with fail
             go_quiet (fail)
             go_wp2_with (go_at_call 179; (with_reducible refine (HWI.out _).mono ?_); rintro e w2 ⟨rfl, rfl⟩)
             go_ret
             exact ⟨by rw [HR.out]; rfl, HWB.out.trans ⟨rfl, rfl, rfl, Nat.le_refl _, fun _ _ => rfl⟩⟩
           ·have hmI : ((k : Int) == 3) = false := (by rw [beq_eq_false_iff_ne]; omega);have HR : Hid (rv = false) := hid (by rw [HRF.out, show (t.sub.length == zm kk) = false by rw [beq_eq_false_iff_ne, hlen, hpk]; exact hm, Bool.false_and]);clear hwd hlow hlo2 hne1 hkk hpk;go_wp2_with fail
            go_quiet (fail)
            go_wp2_with (go_at_call 179; (with_reducible refine (HWI.out _).mono ?_); rintro e w2 ⟨rfl, rfl⟩)
            go_ret
            exact ⟨by rw [HR.out]; rfl, HWB.out.trans ⟨rfl, rfl, rfl, Nat.le_refl _, fun _ _ => rfl⟩⟩
          by_cases c20 : kk = 20
          ·have d1 : ((kk : Int) == 1) = false := (by rw [beq_eq_false_iff_ne]; omega);have d2 : ((kk : Int) == 2) = false := (by rw [beq_eq_false_iff_ne]; omega);have d3 : ((kk : Int) == 3) = false := (by rw [beq_eq_false_iff_ne]; omega);have d4 : ((kk : Int) == 4) = false := (by rw [beq_eq_false_iff_ne]; omega);have d16 : ((kk : Int) == 16) = false := (by rw [beq_eq_false_iff_ne]; omega);have d17 : ((kk : Int) == 17) = false := (by rw [beq_eq_false_iff_ne]; omega);have d18 : ((kk : Int) == 18) = false := (by rw [beq_eq_false_iff_ne]; omega);have d19 : ((kk : Int) == 19) = false := (by rw [beq_eq_false_iff_ne]; omega);have d20 : ((kk : Int) == 20) = true := (by rw [beq_iff_eq]; omega);have d21 : ((kk : Int) == 21) = false := (by rw [beq_eq_false_iff_ne]; omega);have d22 : ((kk : Int) == 22) = false := (by rw [beq_eq_false_iff_ne]; omega);have d23 : ((kk : Int) == 23) = false := (by rw [beq_eq_false_iff_ne]; omega);have d24 : ((kk : Int) == 24) = false := (by rw [beq_eq_false_iff_ne]; omega);have hl0 : (t.low != 0) = false := (by rcases hlow with h | h <;> first | omega | (simp [h]; done));have hpk : zm kk = 2 := (by rw [c20]; rfl);by_cases hm : k = 2
           ·have hmI : ((k : Int) == 2) = true := (by rw [beq_iff_eq]; omega);have hRF : rv = z1i t := (by rw [HRF.out, show (t.sub.length == zm kk) = true by rw [beq_iff_eq, hlen, hm, hpk], Bool.true_and]);have hK0 : z1i t = z27 kk t.width (wdAt t.sub 0) (wdAt t.sub 1) (wdAt t.sub 2) t.low t.bits t.name := (by unfold z1i; rw [hkk]);rw [hK0] at hRF;unfold z27 at hRF;rw [if_neg c1, if_neg c2, if_neg (by omega), if_neg (by omega), if_neg c19, if_pos c20] at hRF;obtain ⟨hy0, hy1, hy2⟩ := HWW.out 1 (by omega);rw [Nat.one_mul] at hy0;have HR : Hid (rv = (wdAt t.sub 0 + wdAt t.sub 1 == t.width)) := hid (by rw [hRF, zd _ (by omega) (by omega)]);clear hRF hK0 hwd hlow hlo2 hne1 hkk hpk;go_wp2_with fail
            go_quiet (fail)
            go_wp2_with (go_at_call 179; (with_reducible refine (HWI.out _).mono ?_); rintro e w2 ⟨rfl, rfl⟩)
            go_ret
            exact ⟨by rw [HR.out]; rfl, HWB.out.trans ⟨rfl, rfl, rfl, Nat.le_refl _, fun _ _ => rfl⟩⟩
           ·have hmI : ((k : Int) == 2) = false := (by rw [beq_eq_false_iff_ne]; omega);have HR : Hid (rv = false) := hid (by rw [HRF.out, show (t.sub.length == zm kk) = false by rw [beq_eq_false_iff_ne, hlen, hpk]; exact hm, Bool.false_and]);clear hwd hlow hlo2 hne1 hkk hpk;go_wp2_with fail
            go_quiet (fail)
            go_wp2_with (go_at_call 179; (with_reducible refine (HWI.out _).mono ?_); rintro e w2 ⟨rfl, rfl⟩)
            go_ret
            exact ⟨by rw [HR.out]; rfl, HWB.out.trans ⟨rfl, rfl, rfl, Nat.le_refl _, fun _ _ => rfl⟩⟩
          by_cases c21 : kk = 21
          ·have d1 : ((kk : Int) == 1) = false := (by rw [beq_eq_false_iff_ne]; omega);have d2 : ((kk : Int) == 2) = false := (by rw [beq_eq_false_iff_ne]; omega);have d3 : ((kk : Int) == 3) = false := (by rw [beq_eq_false_iff_ne]; omega);have d4 : ((kk : Int) == 4) = false := (by rw [beq_eq_false_iff_ne]; omega);have d16 : ((kk : Int) == 16) = false := (by rw [beq_eq_false_iff_ne]; omega);have d17 : ((kk : Int) == 17) = false := (by rw [beq_eq_false_iff_ne]; omega);have d18 : ((kk : Int) == 18) = false := (by rw [beq_eq_false_iff_ne]; omega);have d19 : ((kk : Int) == 19) = false := (by rw [beq_eq_false_iff_ne]; omega);have d20 : ((kk : Int) == 20) = false := (by rw [beq_eq_false_iff_ne]; omega);have d21 : ((kk : Int) == 21) = true := (by rw [beq_iff_eq]; omega);have d22 : ((kk : Int) == 22) = false := (by rw [beq_eq_false_iff_ne]; omega);have d23 : ((kk : Int) == 23) = false := (by rw [beq_eq_false_iff_ne]; omega);have d24 : ((kk : Int) == 24) = false := (by rw [beq_eq_false_iff_ne]; omega);have h21 : ((kk : Int) != 21) = false := (by rw [hne1, c21]; rfl);have hpk : zm kk = 1 := (by rw [c21]; rfl);by_cases hm : k = 1
           ·have hmI : ((k : Int) == 1) = true := (by rw [beq_iff_eq]; omega);have hRF : rv = z1i t := (by rw [HRF.out, show (t.sub.length == zm kk) = true by rw [beq_iff_eq, hlen, hm, hpk], Bool.true_and]);have hK0 : z1i t = z27 kk t.width (wdAt t.sub 0) (wdAt t.sub 1) (wdAt t.sub 2) t.low t.bits t.name := (by unfold z1i; rw [hkk]);rw [hK0] at hRF;unfold z27 at hRF;rw [if_neg c1, if_neg c2, if_neg (by omega), if_neg (by omega), if_neg c19, if_neg c20, if_pos c21] at hRF;obtain ⟨q1, hq1⟩ : ∃ q, decide (0 <= t.low) = q := ⟨_, rfl⟩;obtain ⟨q2, hq2⟩ : ∃ q, decide (t.low <= wdAt t.sub 0) = q := ⟨_, rfl⟩;obtain ⟨q3, hq3⟩ : ∃ q, decide (wrap64 (t.low + t.width) <= wdAt t.sub 0) = q := ⟨_, rfl⟩;have HR : Hid (rv = (q1 && (q2 && q3))) := hid (by
             rw [hRF, hq1];cases q1
             ·rfl
             ·have h0 : 0 <= t.low := (by simpa using hq1);rw [Bool.true_and, Bool.true_and, zd _ (by omega) (by omega), <- hq2, <- hq3, Bool.eq_iff_iff];simp only [Bool.and_eq_true, decide_eq_true_eq];constructor
              ·intro h;refine ⟨by omega, ?_⟩;rw [zd _ (by omega) (by omega)];omega
              ·rintro ⟨h1, h2⟩;rw [zd _ (by omega) (by omega)] at h2;omega)
            clear hRF hK0 hwd hlow hlo2 hne1 hkk hpk;cases q1 <;> cases q2 <;> cases hl0 : (t.low != 0)
            all_goals
             go_wp2_with fail
             go_quiet (fail)
             go_wp2_with (go_at_call 179; (with_reducible refine (HWI.out _).mono ?_); rintro e w2 ⟨rfl, rfl⟩)
             go_ret
             exact ⟨by rw [HR.out]; rfl, HWB.out.trans ⟨rfl, rfl, rfl, Nat.le_refl _, fun _ _ => rfl⟩⟩
           ·have hmI : ((k : Int) == 1) = false := (by rw [beq_eq_false_iff_ne]; omega);have HR : Hid (rv = false) := hid (by rw [HRF.out, show (t.sub.length == zm kk) = false by rw [beq_eq_false_iff_ne, hlen, hpk]; exact hm, Bool.false_and]);clear hwd hlow hlo2 hne1 hkk hpk;cases hl0 : (t.low != 0)
            all_goals
             go_wp2_with fail
             go_quiet (fail)
             go_wp2_with (go_at_call 179; (with_reducible refine (HWI.out _).mono ?_); rintro e w2 ⟨rfl, rfl⟩)
             go_ret
             exact ⟨by rw [HR.out]; rfl, HWB.out.trans ⟨rfl, rfl, rfl, Nat.le_refl _, fun _ _ => rfl⟩⟩
          by_cases c22 : kk = 22
          ·have d1 : ((kk : Int) == 1) = false := (by rw [beq_eq_false_iff_ne]; omega);have d2 : ((kk : Int) == 2) = false := (by rw [beq_eq_false_iff_ne]; omega);have d3 : ((kk : Int) == 3) = false := (by rw [beq_eq_false_iff_ne]; omega);have d4 : ((kk : Int) == 4) = false := (by rw [beq_eq_false_iff_ne]; omega);have d16 : ((kk : Int) == 16) = false := (by rw [beq_eq_false_iff_ne]; omega);have d17 : ((kk : Int) == 17) = false := (by rw [beq_eq_false_iff_ne]; omega);have d18 : ((kk : Int) == 18) = false := (by rw [beq_eq_false_iff_ne]; omega);have d19 : ((kk : Int) == 19) = false := (by rw [beq_eq_false_iff_ne]; omega);have d20 : ((kk : Int) == 20) = false := (by rw [beq_eq_false_iff_ne]; omega);have d21 : ((kk : Int) == 21) = false := (by rw [beq_eq_false_iff_ne]; omega);have d22 : ((kk : Int) == 22) = true := (by rw [beq_iff_eq]; omega);have d23 : ((kk : Int) == 23) = false := (by rw [beq_eq_false_iff_ne]; omega);have d24 : ((kk : Int) == 24) = false := (by rw [beq_eq_false_iff_ne]; omega);have hl0 : (t.low != 0) = false := (by rcases hlow with h | h <;> first | omega | (simp [h]; done));have hpk : zm kk = 1 := (by rw [c22]; rfl);by_cases hm : k = 1
           ·have hmI : ((k : Int) == 1) = true := (by rw [beq_iff_eq]; omega);have hRF : rv = z1i t := (by rw [HRF.out, show (t.sub.length == zm kk) = true by rw [beq_iff_eq, hlen, hm, hpk], Bool.true_and]);have hK0 : z1i t = z27 kk t.width (wdAt t.sub 0) (wdAt t.sub 1) (wdAt t.sub 2) t.low t.bits t.name := (by unfold z1i; rw [hkk]);rw [hK0] at hRF;unfold z27 at hRF;rw [if_neg c1, if_neg c2, if_neg (by omega), if_neg (by omega), if_neg c19, if_neg c20, if_neg c21, if_pos (by omega)] at hRF;have HR : Hid (rv = decide (wdAt t.sub 0 <= t.width)) := hid (by exact hRF);clear hRF hK0 hwd hlow hlo2 hne1 hkk hpk;go_wp2_with fail
            go_quiet (fail)
            go_wp2_with (go_at_call 179; (with_reducible refine (HWI.out _).mono ?_); rintro e w2 ⟨rfl, rfl⟩)
            go_ret
            exact ⟨by rw [HR.out]; rfl, HWB.out.trans ⟨rfl, rfl, rfl, Nat.le_refl _, fun _ _ => rfl⟩⟩
           ·have hmI : ((k : Int) == 1) = false := (by rw [beq_eq_false_iff_ne]; omega);have HR : Hid (rv = false) := hid (by rw [HRF.out, show (t.sub.length == zm kk) = false by rw [beq_eq_false_iff_ne, hlen, hpk]; exact hm, Bool.false_and]);clear hwd hlow hlo2 hne1 hkk hpk;go_wp2_with fail
            go_quiet (fail)
            go_wp2_with (go_at_call 179; (with_reducible refine (HWI.out _).mono ?_); rintro e w2 ⟨rfl, rfl⟩)
            go_ret
            exact ⟨by rw [HR.out]; rfl, HWB.out.trans ⟨rfl, rfl, rfl, Nat.le_refl _, fun _ _ => rfl⟩⟩
          by_cases c23 : kk = 23
          ·have d1 : ((kk : Int) == 1) = false := (by rw [beq_eq_false_iff_ne]; omega);have d2 : ((kk : Int) == 2) = false := (by rw [beq_eq_false_iff_ne]; omega);have d3 : ((kk : Int) == 3) = false := (by rw [beq_eq_false_iff_ne]; omega);have d4 : ((kk : Int) == 4) = false := (by rw [beq_eq_false_iff_ne]; omega);have d16 : ((kk : Int) == 16) = false := (by rw [beq_eq_false_iff_ne]; omega);have d17 : ((kk : Int) == 17) = false := (by rw [beq_eq_false_iff_ne]; omega);have d18 : ((kk : Int) == 18) = false := (by rw [beq_eq_false_iff_ne]; omega);have d19 : ((kk : Int) == 19) = false := (by rw [beq_eq_false_iff_ne]; omega);have d20 : ((kk : Int) == 20) = false := (by rw [beq_eq_false_iff_ne]; omega);have d21 : ((kk : Int) == 21) = false := (by rw [beq_eq_false_iff_ne]; omega);have d22 : ((kk : Int) == 22) = false := (by rw [beq_eq_false_iff_ne]; omega);have d23 : ((kk : Int) == 23) = true := (by rw [beq_iff_eq]; omega);have d24 : ((kk : Int) == 24) = false := (by rw [beq_eq_false_iff_ne]; omega);have hl0 : (t.low != 0) = false := (by rcases hlow with h | h <;> first | omega | (simp [h]; done));have hpk : zm kk = 1 := (by rw [c23]; rfl);by_cases hm : k = 1
           ·have hmI : ((k : Int) == 1) = true := (by rw [beq_iff_eq]; omega);have hRF : rv = z1i t := (by rw [HRF.out, show (t.sub.length == zm kk) = true by rw [beq_iff_eq, hlen, hm, hpk], Bool.true_and]);have hK0 : z1i t = z27 kk t.width (wdAt t.sub 0) (wdAt t.sub 1) (wdAt t.sub 2) t.low t.bits t.name := (by unfold z1i; rw [hkk]);rw [hK0] at hRF;unfold z27 at hRF;rw [if_neg c1, if_neg c2, if_neg (by omega), if_neg (by omega), if_neg c19, if_neg c20, if_neg c21, if_pos (by omega)] at hRF;have HR : Hid (rv = decide (wdAt t.sub 0 <= t.width)) := hid (by exact hRF);clear hRF hK0 hwd hlow hlo2 hne1 hkk hpk;go_wp2_with fail
            go_quiet (fail)
            go_wp2_with (go_at_call 179; (with_reducible refine (HWI.out _).mono ?_); rintro e w2 ⟨rfl, rfl⟩)
            go_ret
            exact ⟨by rw [HR.out]; rfl, HWB.out.trans ⟨rfl, rfl, rfl, Nat.le_refl _, fun _ _ => rfl⟩⟩
           ·have hmI : ((k : Int) == 1) = false := (by rw [beq_eq_false_iff_ne]; omega);have HR : Hid (rv = false) := hid (by rw [HRF.out, show (t.sub.length == zm kk) = false by rw [beq_eq_false_iff_ne, hlen, hpk]; exact hm, Bool.false_and]);clear hwd hlow hlo2 hne1 hkk hpk;go_wp2_with fail
            go_quiet (fail)
            go_wp2_with (go_at_call 179; (with_reducible refine (HWI.out _).mono ?_); rintro e w2 ⟨rfl, rfl⟩)
            go_ret
            exact ⟨by rw [HR.out]; rfl, HWB.out.trans ⟨rfl, rfl, rfl, Nat.le_refl _, fun _ _ => rfl⟩⟩
          by_cases c24 : kk = 24
          ·have d1 : ((kk : Int) == 1) = false := (by rw [beq_eq_false_iff_ne]; omega);have d2 : ((kk : Int) == 2) = false := (by rw [beq_eq_false_iff_ne]; omega);have d3 : ((kk : Int) == 3) = false := (by rw [beq_eq_false_iff_ne]; omega);have d4 : ((kk : Int) == 4) = false := (by rw [beq_eq_false_iff_ne]; omega);have d16 : ((kk : Int) == 16) = false := (by rw [beq_eq_false_iff_ne]; omega);have d17 : ((kk : Int) == 17) = false := (by rw [beq_eq_false_iff_ne]; omega);have d18 : ((kk : Int) == 18) = false := (by rw [beq_eq_false_iff_ne]; omega);have d19 : ((kk : Int) == 19) = false := (by rw [beq_eq_false_iff_ne]; omega);have d20 : ((kk : Int) == 20) = false := (by rw [beq_eq_false_iff_ne]; omega);have d21 : ((kk : Int) == 21) = false := (by rw [beq_eq_false_iff_ne]; omega);have d22 : ((kk : Int) == 22) = false := (by rw [beq_eq_false_iff_ne]; omega);have d23 : ((kk : Int) == 23) = false := (by rw [beq_eq_false_iff_ne]; omega);have d24 : ((kk : Int) == 24) = true := (by rw [beq_iff_eq]; omega);have hl0 : (t.low != 0) = false := (by rcases hlow with h | h <;> first | omega | (simp [h]; done));have hpk : zm kk = 1 := (by rw [c24]; rfl);by_cases hm : k = 1
           ·have hmI : ((k : Int) == 1) = true := (by rw [beq_iff_eq]; omega);have hRF : rv = z1i t := (by rw [HRF.out, show (t.sub.length == zm kk) = true by rw [beq_iff_eq, hlen, hm, hpk], Bool.true_and]);have hK0 : z1i t = z27 kk t.width (wdAt t.sub 0) (wdAt t.sub 1) (wdAt t.sub 2) t.low t.bits t.name := (by unfold z1i; rw [hkk]);rw [hK0] at hRF;unfold z27 at hRF;rw [if_neg c1, if_neg c2, if_neg (by omega), if_neg (by omega), if_neg c19, if_neg c20, if_neg c21, if_neg (by omega), if_pos c24] at hRF;obtain ⟨ql, hql⟩ : ∃ q, z95 t.width = q := ⟨_, rfl⟩;have HLD := hid (fun X => z9n t.width X);rw [hql] at HLD;have HR : Hid (rv = ql) := hid (by rw [hRF, hql]);clear hRF hK0 hwd hlow hlo2 hne1 hkk hpk;go_wp2_with fail
            go_quiet (fail)
            go_wp2_with first
             | (go_at_call 179; (with_reducible refine (HWI.out _).mono ?_); rintro e w2 ⟨rfl, rfl⟩)
             | (go_at_call 182; (with_reducible refine (HLD.out _).mono ?_); rintro e w3 ⟨rfl, rfl⟩)
            go_ret
            exact ⟨by rw [HR.out]; rfl, HWB.out.trans ⟨rfl, rfl, rfl, Nat.le_refl _, fun _ _ => rfl⟩⟩
           ·have hmI : ((k : Int) == 1) = false := (by rw [beq_eq_false_iff_ne]; omega);have HR : Hid (rv = false) := hid (by rw [HRF.out, show (t.sub.length == zm kk) = false by rw [beq_eq_false_iff_ne, hlen, hpk]; exact hm, Bool.false_and]);clear hwd hlow hlo2 hne1 hkk hpk;go_wp2_with fail
            go_quiet (fail)
            go_wp2_with (go_at_call 179; (with_reducible refine (HWI.out _).mono ?_); rintro e w2 ⟨rfl, rfl⟩)
            go_ret
            exact ⟨by rw [HR.out]; rfl, HWB.out.trans ⟨rfl, rfl, rfl, Nat.le_refl _, fun _ _ => rfl⟩⟩
          ·have d1 : ((kk : Int) == 1) = false := (by rw [beq_eq_false_iff_ne]; omega);have d2 : ((kk : Int) == 2) = false := (by rw [beq_eq_false_iff_ne]; omega);have d3 : ((kk : Int) == 3) = false := (by rw [beq_eq_false_iff_ne]; omega);have d4 : ((kk : Int) == 4) = false := (by rw [beq_eq_false_iff_ne]; omega);have d16 : ((kk : Int) == 16) = false := (by rw [beq_eq_false_iff_ne]; omega);have d17 : ((kk : Int) == 17) = false := (by rw [beq_eq_false_iff_ne]; omega);have d18 : ((kk : Int) == 18) = false := (by rw [beq_eq_false_iff_ne]; omega);have d19 : ((kk : Int) == 19) = false := (by rw [beq_eq_false_iff_ne]; omega);have d20 : ((kk : Int) == 20) = false := (by rw [beq_eq_false_iff_ne]; omega);have d21 : ((kk : Int) == 21) = false := (by rw [beq_eq_false_iff_ne]; omega);have d22 : ((kk : Int) == 22) = false := (by rw [beq_eq_false_iff_ne]; omega);have d23 : ((kk : Int) == 23) = false := (by rw [beq_eq_false_iff_ne]; omega);have d24 : ((kk : Int) == 24) = false := (by rw [beq_eq_false_iff_ne]; omega);have hl0 : (t.low != 0) = false := (by rcases hlow with h | h <;> first | omega | (simp [h]; done));have hpk : zm kk = 2 := (by unfold zm; rw [if_neg (by omega), if_neg (by omega), if_pos (by omega)]);by_cases hm : k = 2
           ·have hmI : ((k : Int) == 2) = true := (by rw [beq_iff_eq]; omega);have hRF : rv = z1i t := (by rw [HRF.out, show (t.sub.length == zm kk) = true by rw [beq_iff_eq, hlen, hm, hpk], Bool.true_and]);have hK0 : z1i t = z27 kk t.width (wdAt t.sub 0) (wdAt t.sub 1) (wdAt t.sub 2) t.low t.bits t.name := (by unfold z1i; rw [hkk]);rw [hK0] at hRF;unfold z27 at hRF;rw [if_neg c1, if_neg c2, if_neg (by omega), if_neg (by omega), if_neg c19, if_neg c20, if_neg c21, if_neg (by omega), if_neg c24] at hRF;obtain ⟨hy0, hy1, hy2⟩ := HWW.out 1 (by omega);rw [Nat.one_mul] at hy0;obtain ⟨q1, hq1⟩ : ∃ q, (wdAt t.sub 0 == t.width) = q := ⟨_, rfl⟩;obtain ⟨q2, hq2⟩ : ∃ q, (wdAt t.sub 1 == t.width) = q := ⟨_, rfl⟩;have HR : Hid (rv = (q1 && q2)) := hid (by rw [hRF, hq1, hq2]);clear hRF hK0 hwd hlow hlo2 hne1 hkk hpk;cases q1
            all_goals
             go_wp2_with fail
             go_quiet (fail)
             go_wp2_with (go_at_call 179; (with_reducible refine (HWI.out _).mono ?_); rintro e w2 ⟨rfl, rfl⟩)
             go_ret
             exact ⟨by rw [HR.out]; rfl, HWB.out.trans ⟨rfl, rfl, rfl, Nat.le_refl _, fun _ _ => rfl⟩⟩
           ·have hmI : ((k : Int) == 2) = false := (by rw [beq_eq_false_iff_ne]; omega);have HR : Hid (rv = false) := hid (by rw [HRF.out, show (t.sub.length == zm kk) = false by rw [beq_eq_false_iff_ne, hlen, hpk]; exact hm, Bool.false_and]);clear hwd hlow hlo2 hne1 hkk hpk;go_wp2_with fail
            go_quiet (fail)
            go_wp2_with (go_at_call 179; (with_reducible refine (HWI.out _).mono ?_); rintro e w2 ⟨rfl, rfl⟩)
            go_ret
            exact ⟨by rw [HR.out]; rfl, HWB.out.trans ⟨rfl, rfl, rfl, Nat.le_refl _, fun _ _ => rfl⟩⟩
        ·have hl0 : (t.low != 0) = true := (by simp; omega);have h21 : ((kk : Int) != 21) = true := (by rw [hne1]; simp; omega);have HR : Hid (rv = false) := hid (by
          rw [HV.out, htf, htd, show (t.low == 0) = false by simp; omega, show (kk == 21) = false by simp; omega]; simp)
         have d1 : ((kk : Int) == 1) = false := (by rw [beq_eq_false_iff_ne]; omega);have d2 : ((kk : Int) == 2) = false := (by rw [beq_eq_false_iff_ne]; omega);clear hwd hkk htf htd;go_wp2_with fail
         go_quiet (fail)
         go_wp2_with (go_at_call 179; (with_reducible refine (HWI.out _).mono ?_); rintro e w2 ⟨rfl, rfl⟩)
         go_ret
         exact ⟨by rw [HR.out]; rfl, HWB.out.trans ⟨rfl, rfl, rfl, Nat.le_refl _, fun _ _ => rfl⟩⟩
      ·have hb0 : ((t.bits : Int) != 0) = true := (by simp; omega);have HR : Hid (rv = false) := hid (by rw [HV.out, htf, htd, show (t.bits == 0) = false by simpa using hb]; simp);have d1 : ((kk : Int) == 1) = false := (by rw [beq_eq_false_iff_ne]; omega);have d2 : ((kk : Int) == 2) = false := (by rw [beq_eq_false_iff_ne]; omega);clear hwd hkk htf htd;go_wp2_with fail
       go_quiet (fail)
       go_wp2_with (go_at_call 179; (with_reducible refine (HWI.out _).mono ?_); rintro e w2 ⟨rfl, rfl⟩)
       go_ret
       exact ⟨by rw [HR.out]; rfl, HWB.out.trans ⟨rfl, rfl, rfl, Nat.le_refl _, fun _ _ => rfl⟩⟩
     ·rw [decide_eq_false hwd] at HWI;have HF : Hid (rv = false) := hid (by
       rw [HV.out]
       cases h : zp t with
       | false => rfl
       | true => exact absurd (z3j h).2.2.1 hwd)
      clear hwd;go_wp2_with fail
      go_quiet (fail)
      go_wp2_with (go_at_call 179; (with_reducible refine (HWI.out _).mono ?_); rintro e w2 ⟨rfl, rfl⟩)
      go_ret
      exact ⟨by rw [HF.out]; rfl, HWB.out.trans ⟨rfl, rfl, rfl, Nat.le_refl _, fun _ _ => rfl⟩⟩
end Go.Proofs.YtdmadnfadgggcaaGreatDoor
