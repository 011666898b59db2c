import Derived.Test.YtdmadnfadgggcaaGreatDoorQR8List
import Derived.Test.YtdmadnfadgggcaaGreatDoorQR8Formed
set_option linter.unusedVariables false
set_option linter.unusedSimpArgs false
set_option warningAsError false
set_option maxHeartbeats 2000000
open Go.Lib (hid)
open Go.Proofs.Tryz (prog)
namespace Go.Proofs.YtdmadnfadgggcaaGreatDoor
open Go.RowKit Go.Sort
def varL (l : List Tm) : List Tm := l.filter fun u => decide (u.kind = 2)
def vnm (l : List Tm) (i : Nat) : ByteArray := match (varL l)[i]? with | some u => u.name | none => default
def vwd (l : List Tm) (i : Nat) : Int := match (varL l)[i]? with | some u => u.width | none => 0
theorem zh3 (l : List Tm) : ∀ i, i < varN l -> (varB l)[i * 3]? = some (.string (vnm l i)) /\ (varB l)[i * 3 + 1]? = some (.int .i64 (vwd l i)) := by
 have key : ∀ (l : List Tm) (i : Nat), i < varN l -> ∃ u, (varL l)[i]? = some u /\ (varB l)[i * 3]? = some (.string u.name) /\ (varB l)[i * 3 + 1]? = some (.int .i64 u.width) := by
  intro l
  induction l with
  | nil => intro i hi; simp [varN] at hi
  | cons u l ih =>
    intro i hi;have e1 : varB (u :: l) = varC u ++ varB l := (by simp [varB]);by_cases h : u.kind = 2
    ·have e2 : varN (u :: l) = varN l + 1 := (by simp [varN, h]);have e3 : varL (u :: l) = u :: varL l := (by simp [varL, h]);have e4 : varC u = [.string u.name, .int .i64 u.width, .int .u64 0] := (by unfold varC; rw [if_pos h]);rw [e1, e3, e4]
     cases i with
     | zero => exact ⟨u, rfl, rfl, rfl⟩
     | succ i =>
       obtain ⟨v, h1, h2, h3⟩ := ih i (by omega);refine ⟨v, by simpa using h1, ?_, ?_⟩
       ·rw [show (i + 1) * 3 = i * 3 + 1 + 1 + 1 by omega]; simpa using h2
       ·rw [show (i + 1) * 3 + 1 = i * 3 + 1 + 1 + 1 + 1 by omega]; simpa using h3
    ·have e2 : varN (u :: l) = varN l := (by simp [varN, h]);have e3 : varL (u :: l) = varL l := (by simp [varL, h]);have e4 : varC u = [] := (by unfold varC; rw [if_neg h]);rw [e1, e3, e4, List.nil_append];exact ih i (by omega)
 intro i hi;obtain ⟨u, h1, h2, h3⟩ := key l i hi;unfold vnm vwd;rw [h1];exact ⟨h2, h3⟩
def z9i (l : List Tm) (b a : Nat) : Prop := vnm l b = vnm l a -> vwd l b = vwd l a
theorem zbg (l : List Tm) : Agrees l ↔ ∀ a, a < varN l -> ∀ b, b < a -> z9i l b a := by
 have hm : ∀ i, i < varN l -> ∃ u, (varL l)[i]? = some u /\ vnm l i = u.name /\ vwd l i = u.width /\ u ∈ l /\ u.kind = 2 := fun i hi => by obtain ⟨u, hu⟩ : ∃ u, (varL l)[i]? = some u := ⟨_, List.getElem?_eq_getElem hi⟩;have h2 := List.mem_of_getElem? hu;unfold varL at h2;rw [List.mem_filter] at h2;exact ⟨u, hu, by unfold vnm; rw [hu], by unfold vwd; rw [hu], h2.1, by simpa using h2.2⟩
 have hi : ∀ u ∈ l, u.kind = 2 -> ∃ i, i < varN l /\ vnm l i = u.name /\ vwd l i = u.width := fun u hu hk => by
  have : u ∈ varL l := by unfold varL; rw [List.mem_filter]; exact ⟨hu, by simpa using hk⟩
  obtain ⟨i, h1, h2⟩ := List.getElem_of_mem this;refine ⟨i, h1, ?_, ?_⟩
  ·unfold vnm; rw [List.getElem?_eq_getElem h1, h2]
  ·unfold vwd; rw [List.getElem?_eq_getElem h1, h2]
 constructor
 ·intro h a ha b hb e;obtain ⟨u, _, n1, w1, m1, k1⟩ := hm b (by omega);obtain ⟨v, _, n2, w2, m2, k2⟩ := hm a ha;rw [w1, w2];exact h u m1 v m2 k1 k2 (by rw [<- n1, <- n2]; exact e)
 ·intro h u hu v hv k1 k2 e;obtain ⟨i, i1, i2, i3⟩ := hi u hu k1;obtain ⟨j, j1, j2, j3⟩ := hi v hv k2;rw [<- i3, <- j3];have en : vnm l i = vnm l j := by rw [i2, j2]; exact e
  rcases Nat.lt_trichotomy i j with q | q | q
  ·exact h j j1 i q en
  ·rw [q]
  ·exact (h i i1 j q en.symm).symm
theorem zga {w : World} {base : Nat} {e : TypeId} {size n : Nat} {v : Value} {xs : List Value} (h : w.ownsRow base e size v n xs) : ∃ p c, v = .slice p n c := by
 rcases h.2 with ⟨rfl, h0⟩ | ⟨g, cap, cur, rfl, _⟩
 ·exact ⟨none, 0, by rw [h0]⟩
 ·exact ⟨_, cap, rfl⟩
theorem zg9 {w : World} {base : Nat} {e : TypeId} {size n c : Nat} {p : Option Addr} {xs : List Value} (h : w.ownsRow base e size (.slice p n c) n xs) (hn : 0 < n) : ∃ g, p = some ⟨g, 0, none⟩ /\ g < w.heap.size /\ ∀ j, j < n * size -> w.cell? ⟨g, j, none⟩ = xs[j]? := by
 rcases h.2 with ⟨he, h0⟩ | ⟨g, cap, cur, he, hg, hh, _⟩
 ·omega
 ·cases he;exact ⟨g, rfl, (Array.getElem?_eq_some_iff.1 hh).1, fun j hj => World.ownsRow.cellAt h j hj⟩
theorem zhk (a b : ByteArray) : (a.toList == b.toList) = decide (a = b) := by
 rw [Bool.eq_iff_iff]; simp only [beq_iff_eq, decide_eq_true_eq, ByteArray.toList_eq];constructor
 ·intro h; cases a; cases b; simp_all
 ·intro h; rw [h]
theorem zd1 (a b : ByteArray) : (a.toList == b.toList) = decide (a = b) := zhk a b
set_option maxRecDepth 100000 in
theorem z9l (t : Tm) (hz : t.sz <= 9000) (hfit : t.fit) (hlong : t.long = false) (sv : Value) (B : Nat) (W : World) (hB : B <= W.heap.size) (hs : SubAt W B sv t.sub) :
 Calls prog 154 #[.agg (Tm.cells t sv).toArray] W fun e w' => e = .returned (.int .i64 (z1r t : Nat)) /\ Below W.heap.size W w' := by
 obtain ⟨p, nn, cap, S, rfl, hlen, hmax, _, _, _⟩ := hs.inv;obtain ⟨W1, hW1⟩ : ∃ W1, W1 = W.alloc (.cells (Tm.cells t (.slice p nn cap)).toArray 90) := ⟨_, rfl⟩;have hb1 : Below W.heap.size W W1 := by rw [hW1]; exact (Below.refl _ _).alloc (Nat.le_refl _) _
 have hz1 : W1.heap.size = W.heap.size + 1 := by rw [hW1]; simp
 have h1h : W1.heap[W.heap.size]? = some (.cells (Tm.cells t (.slice p nn cap)).toArray 90 (0, 0)) := by rw [hW1]; exact z5p rfl _
 have KT := hid (fun (Y : World) (h : Below W1.heap.size W1 Y) (i : Nat) (v : Value) (hv : (Tm.cells t (.slice p nn cap))[i]? = some v) => (by rw [h.cell (by rw [hz1]; show W.heap.size < W.heap.size + 1; omega)]; exact zb (i := i) h1h (by rw [List.getElem?_toArray]; exact hv) : Y.cell? ⟨W.heap.size, i, none⟩ = some v));have HS1 := hid (fun Y (h : Below W1.heap.size W1 Y) => z6r t.sz t (Nat.le_refl _) hz (.slice p nn cap) B Y (Nat.le_trans hB (Nat.le_trans hb1.size h.size)) (hs.kept ((hb1.trans (h.mono hb1.size)).mono hB)));have HD1 := hid (fun Y (h : Below W1.heap.size W1 Y) => z9m t.sz t (Nat.le_refl _) hz (.slice p nn cap) B Y (Nat.le_trans hB (Nat.le_trans hb1.size h.size)) (hs.kept ((hb1.trans (h.mono hb1.size)).mono hB)));have HF1 := hid (fun Y (h : Below W1.heap.size W1 Y) => z8c t.sz t (Nat.le_refl _) hfit hlong (.slice p nn cap) B Y (Nat.le_trans hB (Nat.le_trans hb1.size h.size)) (hs.kept ((hb1.trans (h.mono hb1.size)).mono hB)));have HL1 := hid (fun Y (h : Below W1.heap.size W1 Y) => zao t.sz t (Nat.le_refl _) hz (.slice p nn cap) B Y (Nat.le_trans hB (Nat.le_trans hb1.size h.size)) (hs.kept ((hb1.trans (h.mono hb1.size)).mono hB)));have HD := hid (fun Y (h : Below W1.heap.size W1 Y) => hb1.trans (h.mono hb1.size));have HW1 := hid hW1;have HR0 : Hid (Below W1.heap.size W1 W1) := hid (Below.refl _ _);have T0 := KT.out W1 HR0.out 0 _ rfl;have T1 := KT.out W1 HR0.out 1 _ rfl;have T2 := KT.out W1 HR0.out 2 _ rfl;have T3 := KT.out W1 HR0.out 3 _ rfl;have T4 := KT.out W1 HR0.out 4 _ rfl;have T5 := KT.out W1 HR0.out 5 _ rfl;clear hs h1h hz1 hb1;rw [hW1] at T0 T1 T2 T3 T4 T5;clear hW1;obtain ⟨rv, hrv⟩ : ∃ rv : Nat, rv = z1r t := ⟨_, rfl⟩;rw [<- hrv];have HRV := hid hrv;clear hrv;simp only [Tm.cells] at T0 T1 T2 T3 T4 T5 HS1 HD1 HF1 HL1 HW1 ⊢;have hdz := z61 t;by_cases c1 : 400 < t.sz
 ·have HV : Hid (rv = 4) := hid (by rw [HRV.out]; exact z3z (fun h => by omega));have d1 : decide ((400 : Int) < (t.sz : Int)) = true := decide_eq_true (by omega);generalize t.sz = sz at *;go_enter Tryz.func154, Tryz.ntmps154
  go_wp2_with (go_at_call 73; rw [<- HW1.out]; (with_reducible refine (HS1.out _ HR0.out).mono ?_); rintro e w2 ⟨rfl, hb2⟩)
  go_ret
  exact ⟨by rw [HV.out]; rfl, HD.out _ hb2⟩
 have d1 : decide ((400 : Int) < (t.sz : Int)) = false := decide_eq_false (by omega);by_cases c2 : 60 < t.dp
 ·have HV : Hid (rv = 4) := hid (by rw [HRV.out]; exact z3z (fun h => by omega));have d2 : decide ((60 : Int) < (t.dp : Int)) = true := decide_eq_true (by omega);generalize t.sz = sz at *;generalize t.dp = dp at *;go_enter Tryz.func154, Tryz.ntmps154
  go_wp2_with first
   | (go_at_call 73; rw [<- HW1.out]; (with_reducible refine (HS1.out _ HR0.out).mono ?_); rintro e w2 ⟨rfl, hb2⟩; have HB2 := hid hb2; clear hb2; have S0 := KT.out w2 HB2.out 0 _ rfl; have S1 := KT.out w2 HB2.out 1 _ rfl; have S2 := KT.out w2 HB2.out 2 _ rfl; have S3 := KT.out w2 HB2.out 3 _ rfl; have S4 := KT.out w2 HB2.out 4 _ rfl; have S5 := KT.out w2 HB2.out 5 _ rfl)
   | (go_at_call 166; (with_reducible refine (HD1.out _ HB2.out).mono ?_); clear S0 S1 S2 S3 S4 S5; rintro e w3 ⟨rfl, hb3⟩; have HB3 := hid (HB2.out.trans (hb3.mono HB2.out.size)); clear hb3; have S0 := KT.out w3 HB3.out 0 _ rfl; have S1 := KT.out w3 HB3.out 1 _ rfl; have S2 := KT.out w3 HB3.out 2 _ rfl; have S3 := KT.out w3 HB3.out 3 _ rfl; have S4 := KT.out w3 HB3.out 4 _ rfl; have S5 := KT.out w3 HB3.out 5 _ rfl)
  go_ret
  exact ⟨by rw [HV.out]; rfl, HD.out _ HB3.out⟩
 have d2 : decide ((60 : Int) < (t.dp : Int)) = false := decide_eq_false (by omega);by_cases c3 : allF t = true
 ·have hall := (z7u t).1 c3;rw [c3] at HF1;have HN5 : Hid (varN t.nodes <= 400) := hid (by have h := z6z t.nodes; rw [Tm.nodes_length] at h; omega);have HAG := hid (zbg t.nodes);have HV14 : Hid (¬ Agrees t.nodes -> rv = 14) := hid (fun h => by rw [HRV.out]; exact z5u (by omega) (by omega) hall h);have HV0 : Hid (Agrees t.nodes -> rv = 0) := hid (fun h => by rw [HRV.out]; exact (z2l t).2 ⟨by omega, by omega, hall, h⟩);have HVB := hid (zh3 t.nodes);obtain ⟨m, hm⟩ : ∃ m, m = varN t.nodes := ⟨_, rfl⟩;rw [<- hm] at HL1 HN5 HAG HVB;have HM := hid hm;generalize t.sz = sz at *;generalize t.dp = dp at *;clear hm hall c3;go_enter Tryz.func154, Tryz.ntmps154
  go_wp2_with first
   | (go_at_call 73; rw [<- HW1.out]; (with_reducible refine (HS1.out _ HR0.out).mono ?_); rintro e w2 ⟨rfl, hb2⟩; have HB2 := hid hb2; clear hb2; have S0 := KT.out w2 HB2.out 0 _ rfl; have S1 := KT.out w2 HB2.out 1 _ rfl; have S2 := KT.out w2 HB2.out 2 _ rfl; have S3 := KT.out w2 HB2.out 3 _ rfl; have S4 := KT.out w2 HB2.out 4 _ rfl; have S5 := KT.out w2 HB2.out 5 _ rfl)
   | (go_at_call 166; (with_reducible refine (HD1.out _ HB2.out).mono ?_); clear S0 S1 S2 S3 S4 S5; rintro e w3 ⟨rfl, hb3⟩; have HB3 := hid (HB2.out.trans (hb3.mono HB2.out.size)); clear hb3; have S0 := KT.out w3 HB3.out 0 _ rfl; have S1 := KT.out w3 HB3.out 1 _ rfl; have S2 := KT.out w3 HB3.out 2 _ rfl; have S3 := KT.out w3 HB3.out 3 _ rfl; have S4 := KT.out w3 HB3.out 4 _ rfl; have S5 := KT.out w3 HB3.out 5 _ rfl)
   | (go_at_call 167; (with_reducible refine (HF1.out _ HB3.out).mono ?_); clear S0 S1 S2 S3 S4 S5; rintro e w4 ⟨rfl, hb4⟩; have HB4 := hid (HB3.out.trans (hb4.mono HB3.out.size)); clear hb4; have S0 := KT.out w4 HB4.out 0 _ rfl; have S1 := KT.out w4 HB4.out 1 _ rfl; have S2 := KT.out w4 HB4.out 2 _ rfl; have S3 := KT.out w4 HB4.out 3 _ rfl; have S4 := KT.out w4 HB4.out 4 _ rfl; have S5 := KT.out w4 HB4.out 5 _ rfl)
   | (go_at_call 168; (with_reducible refine (HL1.out _ HB4.out).mono ?_); clear S0 S1 S2 S3 S4 S5; rintro e w5 ⟨v5, rfl, hr5, hb5⟩; have HR5 := hid hr5; obtain ⟨p5, c5, rfl⟩ := zga hr5; have HB5 := hid (HB4.out.trans (hb5.mono HB4.out.size)); clear hr5 hb5)
  have hmB := HN5.out;go_loopw [4] (fun vi wr => ∃ i : Nat, vi = .int .i64 i /\ i <= m /\ (∀ a, a < i -> ∀ b, b < a -> z9i t.nodes b a) /\ Below w5.heap.size w5 wr) (fun vi _ => m - (intOf vi).toNat)
  case atStart => exact ⟨0, rfl, by omega, fun a ha => by omega, Below.refl _ _⟩
  case round =>
   obtain ⟨i, rfl, hi, hok, hb⟩ := hrel;have HOK := hid hok;have HBI := hid hb;by_cases hlt : i < m
   ·obtain ⟨g, rfl, hg, hgc⟩ := zg9 HR5.out (by omega);have HC5 := hid (fun (Y : World) (h : Below w5.heap.size w5 Y) (j : Nat) (hj : j < m) => (⟨by rw [h.cell hg, hgc _ (by omega)]; exact (HVB.out j hj).1, by rw [h.cell hg, hgc _ (by omega)]; exact (HVB.out j hj).2⟩ : Y.cell? ⟨g, j * 3, none⟩ = some (.string (vnm t.nodes j)) /\ Y.cell? ⟨g, j * 3 + 1, none⟩ = some (.int .i64 (vwd t.nodes j))));clear hok hb hgc;obtain ⟨wq, rfl⟩ : ∃ wq, wq = wr := ⟨_, rfl⟩;go_wp2_with fail
    go_loopw [5] (fun vk wr' => ∃ k : Nat, vk = .int .i64 k /\ k <= i /\ (∀ b, b < k -> z9i t.nodes b i) /\ Below w5.heap.size w5 wr') (fun vk _ => i - (intOf vk).toNat)
    case atStart => exact ⟨0, rfl, by omega, fun b hb => by omega, HBI.out⟩
    case round =>
     obtain ⟨k, rfl, hk, hkok, hb2⟩ := hrel;have HKO := hid hkok;have HBK := hid hb2;clear hkok hb2;by_cases hlt2 : k < i
     ·obtain ⟨a0, a1⟩ := HC5.out wr HBK.out i hlt;obtain ⟨b0, b1⟩ := HC5.out wr HBK.out k (by omega);have hi0 : (0 : Int) <= (i : Int) := Int.natCast_nonneg _;have hi1 : (i : Int) < (m : Int) := (by omega);have hk0 : (0 : Int) <= (k : Int) := Int.natCast_nonneg _;have hk1 : (k : Int) < (m : Int) := (by omega);obtain ⟨q1, hq1⟩ : ∃ q, ((vnm t.nodes k).toList == (vnm t.nodes i).toList) = q := ⟨_, rfl⟩;obtain ⟨q2, hq2⟩ : ∃ q, (vwd t.nodes k != vwd t.nodes i) = q := ⟨_, rfl⟩;have HP : Hid (z9i t.nodes k i ↔ (q1 && q2) = false) := hid (by
       unfold z9i;rw [zd1] at hq1;rw [<- hq1, <- hq2];by_cases e : vnm t.nodes k = vnm t.nodes i <;> by_cases f : vwd t.nodes k = vwd t.nodes i <;> simp [e, f])
      have HII := hid (And.intro hlt hlt2);go_wp2_with fail
      cases q1
      ·go_quiet (fail)
       go_wp2_with fail
       go_roundw
       case rel => exact ⟨k + 1, by first | rfl | (rw [zd _ (by omega) (by omega)]; rfl), by omega, fun b hb => by
        rcases Nat.lt_or_ge b k with h | h
        ·exact HKO.out b h
        ·obtain rfl : b = k := by omega
         exact HP.out.2 rfl, HBK.out.trans ⟨rfl, rfl, rfl, Nat.le_refl _, fun _ _ => rfl⟩⟩
       case measure => (try rw [zd _ (by omega) (by omega)]); simp only [intOf]; omega
      ·cases q2
       ·go_quiet (fail)
        go_wp2_with fail
        go_roundw
        case rel => exact ⟨k + 1, by first | rfl | (rw [zd _ (by omega) (by omega)]; rfl), by omega, fun b hb => by
         rcases Nat.lt_or_ge b k with h | h
         ·exact HKO.out b h
         ·obtain rfl : b = k := by omega
          exact HP.out.2 rfl, HBK.out.trans ⟨rfl, rfl, rfl, Nat.le_refl _, fun _ _ => rfl⟩⟩
        case measure => (try rw [zd _ (by omega) (by omega)]); simp only [intOf]; omega
       ·go_quiet (fail)
        go_wp2_with fail
        go_ret
        refine ⟨?_, HD.out _ (HB5.out.trans ((HBK.out.trans (show Below w5.heap.size wr (wr.drewN nq) from ⟨rfl, rfl, rfl, Nat.le_refl _, fun _ _ => rfl⟩)).mono HB5.out.size))⟩;have hna : ¬ Agrees t.nodes := fun h => by have h2 := (HAG.out.1 h) i HII.out.1 k HII.out.2;exact absurd (HP.out.1 h2) (by simp)
        rw [HV14.out hna]; rfl
     ·obtain rfl : k = i := by omega
      go_wp2
      go_roundw
      case rel => exact ⟨k + 1, by first | rfl | (rw [zd _ (by omega) (by omega)]; rfl), by omega, fun a ha b hb => by
       rcases Nat.lt_or_ge a k with h | h
       ·exact HOK.out a h b hb
       ·obtain rfl : a = k := by omega
        exact HKO.out b hb, HBK.out⟩
      case measure => (try rw [zd _ (by omega) (by omega)]); simp only [intOf]; omega
   ·obtain rfl : i = m := by omega
    have hag : Agrees t.nodes := HAG.out.2 hok;have HRR := hid (HV0.out hag);clear hok hb hag;go_wp2
    go_ret
    exact ⟨by rw [HRR.out]; rfl, HD.out _ (HB5.out.trans (HBI.out.mono HB5.out.size))⟩
 ·have c3' : allF t = false := by simpa using c3
  rw [c3'] at HF1;have HV : Hid (rv = 8) := hid (by rw [HRV.out]; exact z7f (by omega) (by omega) (fun h => c3 ((z7u t).2 h)));generalize t.sz = sz at *;generalize t.dp = dp at *;clear c3 c3';go_enter Tryz.func154, Tryz.ntmps154
  go_wp2_with first
   | (go_at_call 73; rw [<- HW1.out]; (with_reducible refine (HS1.out _ HR0.out).mono ?_); rintro e w2 ⟨rfl, hb2⟩; have HB2 := hid hb2; clear hb2; have S0 := KT.out w2 HB2.out 0 _ rfl; have S1 := KT.out w2 HB2.out 1 _ rfl; have S2 := KT.out w2 HB2.out 2 _ rfl; have S3 := KT.out w2 HB2.out 3 _ rfl; have S4 := KT.out w2 HB2.out 4 _ rfl; have S5 := KT.out w2 HB2.out 5 _ rfl)
   | (go_at_call 166; (with_reducible refine (HD1.out _ HB2.out).mono ?_); clear S0 S1 S2 S3 S4 S5; rintro e w3 ⟨rfl, hb3⟩; have HB3 := hid (HB2.out.trans (hb3.mono HB2.out.size)); clear hb3; have S0 := KT.out w3 HB3.out 0 _ rfl; have S1 := KT.out w3 HB3.out 1 _ rfl; have S2 := KT.out w3 HB3.out 2 _ rfl; have S3 := KT.out w3 HB3.out 3 _ rfl; have S4 := KT.out w3 HB3.out 4 _ rfl; have S5 := KT.out w3 HB3.out 5 _ rfl)
   | (go_at_call 167; (with_reducible refine (HF1.out _ HB3.out).mono ?_); clear S0 S1 S2 S3 S4 S5; rintro e w4 ⟨rfl, hb4⟩; have HB4 := hid (HB3.out.trans (hb4.mono HB3.out.size)); clear hb4; have S0 := KT.out w4 HB4.out 0 _ rfl; have S1 := KT.out w4 HB4.out 1 _ rfl; have S2 := KT.out w4 HB4.out 2 _ rfl; have S3 := KT.out w4 HB4.out 3 _ rfl; have S4 := KT.out w4 HB4.out 4 _ rfl; have S5 := KT.out w4 HB4.out 5 _ rfl)
  go_ret
  exact ⟨by rw [HV.out]; rfl, HD.out _ HB4.out⟩
end Go.Proofs.YtdmadnfadgggcaaGreatDoor
