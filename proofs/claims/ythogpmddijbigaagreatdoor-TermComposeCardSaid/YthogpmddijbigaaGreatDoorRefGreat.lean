/- Contracts of the reference's bounds on terms: long, count, Great. -/
import Derived.Test.YthogpmddijbigaaGreatDoorTermTree
namespace Go.Proofs.YthogpmddijbigaaGreatDoor
open Go.RowKit
set_option linter.unusedVariables false

mutual
/-- Has a node a name of more than 200 bytes? -/
def Tm.long : Tm → Bool | .mk _ _ _ s _ l => Tm.longs l || decide (200 < s.size)
def Tm.longs : List Tm → Bool | [] => false | t :: l => t.long || Tm.longs l
end
theorem Tm.long_eq (t : Tm) : t.long = (Tm.longs t.sub || decide (200 < t.name.size)) := by cases t; rw [Tm.long]; rfl
theorem Tm.longs_append (a b : List Tm) : Tm.longs (a ++ b) = (Tm.longs a || Tm.longs b) := by
  induction a with
  | nil => simp [Tm.longs]
  | cons t a ih => simp only [List.cons_append, Tm.longs, ih, Bool.or_assoc]
theorem Tm.longs_mem {t : Tm} {l : List Tm} (h : t ∈ l) (hl : Tm.longs l = false) : t.long = false := by
  induction l with
  | nil => cases h
  | cons u l ih =>
    simp only [Tm.longs, Bool.or_eq_false_iff] at hl
    cases h with
    | head => exact hl.1
    | tail _ h => exact ih h hl.2
theorem take_succ_some {l : List Tm} {k : Nat} {u : Tm} (h : l[k]? = some u) : l.take (k + 1) = l.take k ++ [u] := by rw [List.take_add_one, h]; rfl
theorem Tm.longs_split {l : List Tm} {k : Nat} {u : Tm} (h : l[k]? = some u) (hu : u.long = true) : Tm.longs l = true := by
  have e : l = l.take (k + 1) ++ l.drop (k + 1) := (List.take_append_drop _ _).symm
  rw [e, Tm.longs_append, take_succ_some h, Tm.longs_append]
  simp [Tm.longs, hu]

set_option maxRecDepth 100000 in
set_option maxHeartbeats 1000000 in
theorem long_any : ∀ (z : Nat) (t : Tm), t.sz ≤ z → ∀ (sv : Value) (B : Nat) (W : World), B ≤ W.heap.size → SubAt W B sv t.sub →
    Calls Tryz.prog 31 #[.agg (Tm.cells t sv).toArray] W fun e w' => e = .returned (.bool t.long) ∧ Below W.heap.size W w' := by
  intro z
  induction z with
  | zero => intro t ht; rw [Tm.sz_eq] at ht; omega
  | succ z ih =>
    intro t ht sv B W hB hs
    obtain ⟨p, nn, cap, S, rfl, hlen, hmax, _, hcells, hsubs⟩ := hs.inv
    obtain ⟨W1, hW1⟩ : ∃ W1, W1 = W.alloc (.cells #[.int .u8 t.kind, .int .i64 t.width, .int .u64 t.bits, .string t.name, .int .i64 t.low, .slice p nn cap] 25) := ⟨_, rfl⟩
    have hb1 : Below W.heap.size W W1 := by rw [hW1]; exact (Below.refl _ _).alloc (Nat.le_refl _) _
    have hnew : W1.heap[W.heap.size]? = some (.cells #[.int .u8 t.kind, .int .i64 t.width, .int .u64 t.bits, .string t.name, .int .i64 t.low, .slice p nn cap] 25 (0, 0)) := by rw [hW1]; show (W.heap.push _)[W.heap.size]? = _; simp
    have hsz1 : W1.heap.size = W.heap.size + 1 := by rw [hW1]; simp
    have H1 := Lib.hid (And.intro hb1 (And.intro hnew (And.intro hsz1 (And.intro hcells hsubs))))
    have HW := Lib.hid hW1
    have HE := Lib.hid (Tm.long_eq t)
    clear hb1 hnew hsz1 hcells hsubs hs
    simp only [Tm.cells]
    go_enter Tryz.func31, Tryz.ntmps31
    go_wp2
    rw [← HW.out]
    clear hW1
    go_loopw [3] (fun vi wr => ∃ k : Nat, vi = .int .i64 k ∧ k ≤ nn ∧ Tm.longs (t.sub.take k) = false ∧ Below W1.heap.size W1 wr) (fun vi _ => nn - (intOf vi).toNat)
    case atStart => exact ⟨0, rfl, by omega, by simp [Tm.longs], Below.refl _ _⟩
    case round =>
      obtain ⟨k, rfl, hk, hl, hb⟩ := hrel
      have HL := Lib.hid hl
      have HB := Lib.hid hb
      clear hl hb
      obtain ⟨hb1, hnew, hsz1, hcells, hsubs⟩ := H1.out
      have b5 : wr.cell? ⟨W.heap.size, 5, none⟩ = some (.slice p nn cap) := by rw [HB.out.cell (by simp [hsz1])]; simp [World.cell?, hnew]
      have b3 : wr.cell? ⟨W.heap.size, 3, none⟩ = some (.string t.name) := by rw [HB.out.cell (by simp [hsz1])]; simp [World.cell?, hnew]
      have hWB : Below W.heap.size W wr := hb1.trans (HB.out.mono hb1.size)
      by_cases hlt : k < nn
      · obtain ⟨u, hu⟩ : ∃ u, t.sub[k]? = some u := ⟨_, List.getElem?_eq_getElem (by omega)⟩
        obtain ⟨b, o, rfl, hbn, a0, a1, a2, a3, a4, a5⟩ := hcells k u hu
        rw [← hWB.cell (Nat.lt_of_lt_of_le hbn hB)] at a0 a1 a2 a3 a4 a5
        have hsz := Tm.sz_mem (List.mem_of_getElem? hu)
        have hszt := Tm.sz_eq t
        have hC := ih u (by omega) (S k) B wr (Nat.le_trans hB hWB.size) ((hsubs k u hu).kept (hWB.mono hB))
        simp only [Tm.cells] at hC
        have HC := Lib.hid hC
        have HU := Lib.hid hu
        cases hul : u.long with
        | true =>
          rw [hul] at HC
          have HT := Lib.hid (Tm.longs_split hu hul)
          clear hC hu hul hsz hszt hWB hbn hcells hsubs hb1 hnew hsz1 b3
          go_wp2_with (go_at_call 31; (with_reducible refine HC.out.mono ?_); rintro e w2 ⟨rfl, hb2⟩)
          go_ret
          refine ⟨by rw [HE.out, HT.out]; rfl, ?_⟩
          have := H1.out.1
          exact this.trans ((HB.out.trans (hb2.mono HB.out.size)).mono this.size)
        | false =>
          rw [hul] at HC
          have HUL := Lib.hid hul
          clear hC hu hul hsz hszt hWB hbn hcells hsubs hb1 hnew hsz1 b3
          go_wp2_with (go_at_call 31; (with_reducible refine HC.out.mono ?_); rintro e w2 ⟨rfl, hb2⟩)
          go_roundw
          case rel => exact ⟨k + 1, by first | rfl | (rw [wrap64_small _ (by unfold maxLen at hmax; omega) (by unfold maxLen at hmax; omega)]; rfl), by omega, by rw [take_succ_some HU.out, Tm.longs_append, HL.out]; simp [Tm.longs, HUL.out], HB.out.trans (hb2.mono HB.out.size)⟩
          case measure => (try rw [wrap64_small _ (by unfold maxLen at hmax; omega) (by unfold maxLen at hmax; omega)]); simp only [intOf]; omega
      · obtain rfl : k = nn := by omega
        clear hcells hsubs hnew hsz1
        go_wp2
        go_ret
        refine ⟨?_, hWB⟩
        have hl := HL.out
        rw [List.take_of_length_le (by omega)] at hl
        rw [HE.out, hl, Bool.false_or]
        show Ending.returned (.bool _) = _
        congr 2
        first | rfl | (simp; omega)

/-- What count tells of a term: within the limits its number is the number of nodes. -/
def CountOk (t : Tm) (lim : Int) (dee : Nat) (n : Nat) (is : Bool) : Prop := 1 ≤ n ∧ (n : Int) ≤ lim + 1 ∧ (is = true → (n : Int) ≤ lim → t.sz = n ∧ t.dp ≤ dee)
theorem Tm.dps_append (a b : List Tm) : Tm.dps (a ++ b) = max (Tm.dps a) (Tm.dps b) := by
  induction a with
  | nil => simp [Tm.dps]
  | cons t a ih => simp only [List.cons_append, Tm.dps, ih]; omega

set_option maxRecDepth 100000 in
set_option maxHeartbeats 2000000 in
theorem count_any : ∀ (dee : Nat) (t : Tm) (lim : Int) (sv : Value) (B : Nat) (W : World), dee ≤ 100 → 0 ≤ lim → lim ≤ 1000 → B ≤ W.heap.size → SubAt W B sv t.sub →
    Calls Tryz.prog 30 #[.agg (Tm.cells t sv).toArray, .int .i64 lim, .int .i64 dee] W fun e w' => (∃ n is, e = .returned (.tuple #[.int .i64 (n : Nat), .bool is]) ∧ CountOk t lim dee n is) ∧ Below W.heap.size W w' := by
  intro dee
  induction dee with
  | zero =>
    intro t lim sv B W _ h0 h1 hB hs
    obtain ⟨p, nn, cap, S, rfl, _⟩ := hs.inv
    simp only [Tm.cells]
    clear hs
    go_enter Tryz.func30, Tryz.ntmps30
    go_wp2
    go_ret2
    exact ⟨⟨1, false, rfl, by omega, by omega, fun h => by cases h⟩, (Below.refl _ _).alloc (Nat.le_refl _) _⟩
  | succ dee ih =>
    intro t lim sv B W hd h0 h1 hB hs
    obtain ⟨p, nn, cap, S, rfl, hlen, hmax, _, hcells, hsubs⟩ := hs.inv
    obtain ⟨W1, hW1⟩ : ∃ W1, W1 = W.alloc (.cells #[.int .u8 t.kind, .int .i64 t.width, .int .u64 t.bits, .string t.name, .int .i64 t.low, .slice p nn cap] 25) := ⟨_, rfl⟩
    have hb1 : Below W.heap.size W W1 := by rw [hW1]; exact (Below.refl _ _).alloc (Nat.le_refl _) _
    have hnew : W1.heap[W.heap.size]? = some (.cells #[.int .u8 t.kind, .int .i64 t.width, .int .u64 t.bits, .string t.name, .int .i64 t.low, .slice p nn cap] 25 (0, 0)) := by rw [hW1]; show (W.heap.push _)[W.heap.size]? = _; simp
    have hsz1 : W1.heap.size = W.heap.size + 1 := by rw [hW1]; simp
    have H1 := Lib.hid (And.intro hb1 (And.intro hnew (And.intro hsz1 (And.intro hcells hsubs))))
    have HW := Lib.hid hW1
    obtain ⟨D, hD⟩ : ∃ D : Nat, D = dee + 1 := ⟨_, rfl⟩
    have hdd : ((D : Int) == 0) = false := by simp; omega
    have hd1 : (D : Int) - 1 = (dee : Int) := by omega
    have HDD := Lib.hid hD
    rw [← hD]
    clear hb1 hnew hsz1 hcells hsubs hs hD
    simp only [Tm.cells]
    go_enter Tryz.func30, Tryz.ntmps30
    go_wp2
    rw [← HW.out]
    clear hW1
    go_loopw [8, 9] (fun vn vi wr => ∃ k n : Nat, vn = .int .i64 n ∧ vi = .int .i64 k ∧ k ≤ nn ∧ 1 ≤ n ∧ (n : Int) ≤ lim + 1 ∧ Hid ((n : Int) ≤ lim → n = 1 + Tm.szs (t.sub.take k) ∧ Tm.dps (t.sub.take k) ≤ dee) ∧ Below W1.heap.size W1 wr) (fun vn vi _ => nn - (intOf vi).toNat)
    case atStart => exact ⟨0, 1, rfl, rfl, by omega, by omega, by omega, Lib.hid (fun _ => by simp [Tm.szs, Tm.dps]), Below.refl _ _⟩
    case round =>
      obtain ⟨k, n, rfl, rfl, hk, hn0, hn1, HN, hb⟩ := hrel
      have HB := Lib.hid hb
      clear hb
      obtain ⟨hb1, hnew, hsz1, hcells, hsubs⟩ := H1.out
      have b5 : wr.cell? ⟨W.heap.size, 5, none⟩ = some (.slice p nn cap) := by rw [HB.out.cell (by simp [hsz1])]; simp [World.cell?, hnew]
      have hWB : Below W.heap.size W wr := hb1.trans (HB.out.mono hb1.size)
      by_cases hgo : k < nn ∧ (n : Int) ≤ lim
      · obtain ⟨hlt, hnl⟩ := hgo
        obtain ⟨u, hu⟩ : ∃ u, t.sub[k]? = some u := ⟨_, List.getElem?_eq_getElem (by omega)⟩
        obtain ⟨b, o, rfl, hbn, a0, a1, a2, a3, a4, a5⟩ := hcells k u hu
        rw [← hWB.cell (Nat.lt_of_lt_of_le hbn hB)] at a0 a1 a2 a3 a4 a5
        have hC := ih u (lim - n) (S k) B wr (by omega) (by omega) (by omega) (Nat.le_trans hB hWB.size) ((hsubs k u hu).kept (hWB.mono hB))
        simp only [Tm.cells] at hC
        have HC := Lib.hid hC
        have HU := Lib.hid hu
        clear hC hu hWB hbn hcells hsubs hb1 hnew hsz1
        go_wp2_with (go_at_call 30; (with_reducible refine HC.out.mono ?_); rintro e w2 ⟨⟨m, is, rfl, hm⟩, hb2⟩; have HM := Lib.hid hm; clear hm)
        · go_ret2
          refine ⟨⟨n, false, rfl, hn0, hn1, fun h => by cases h⟩, ?_⟩
          have := H1.out.1
          exact this.trans ((HB.out.trans (hb2.mono HB.out.size)).mono this.size)
        · obtain ⟨m0, m1, m2⟩ := HM.out
          go_roundw
          case rel =>
            refine ⟨k + 1, n + m, by first | rfl | (rw [wrap64_small _ (by omega) (by omega)]; rfl), by first | rfl | (rw [wrap64_small _ (by unfold maxLen at hmax; omega) (by unfold maxLen at hmax; omega)]; rfl), by omega, by omega, by omega, Lib.hid fun hle => ?_, HB.out.trans (hb2.mono HB.out.size)⟩
            obtain ⟨e1, e2⟩ := HN.out hnl
            obtain ⟨e3, e4⟩ := m2 (by cases is with | true => rfl | false => simp_all) (by omega)
            rw [take_succ_some HU.out, Tm.szs_append, Tm.dps_append, Tm.szs_cons, Tm.szs_nil]
            refine ⟨by omega, ?_⟩
            simp only [Tm.dps]
            omega
          case measure => (try rw [wrap64_small _ (by unfold maxLen at hmax; omega) (by unfold maxLen at hmax; omega)]); simp only [intOf]; omega
      · have hfin : CountOk t lim D n true := ⟨hn0, hn1, fun _ hle => by
          have hkn : k = nn := by
            by_cases h : k < nn
            · exact absurd ⟨h, hle⟩ hgo
            · omega
          obtain ⟨e1, e2⟩ := HN.out hle
          rw [List.take_of_length_le (by omega)] at e1 e2
          rw [Tm.sz_eq, Tm.dp_eq, HDD.out]
          omega⟩
        have HF := Lib.hid hfin
        clear hfin hcells hsubs hnew hsz1
        by_cases hkn : k < nn
        · have hnl : ¬ (n : Int) ≤ lim := fun h => hgo ⟨hkn, h⟩
          clear hgo
          go_wp2
          go_ret2
          first
            | exact ⟨⟨n, true, rfl, HF.out⟩, hWB⟩
            | exact ⟨⟨n, .inr ⟨rfl, HF.out⟩⟩, hWB⟩
        · have hkn' : decide ((k : Int) < (nn : Int)) = false := by simp; omega
          clear hgo
          go_wp2
          go_ret2
          first
            | exact ⟨⟨n, true, rfl, HF.out⟩, hWB⟩
            | exact ⟨⟨n, .inr ⟨rfl, HF.out⟩⟩, hWB⟩

set_option maxRecDepth 100000 in
/-- Great: where it says no, a term is within the statements' bounds. -/
theorem great_any (t : Tm) (sv : Value) (B : Nat) (W : World) (hB : B ≤ W.heap.size) (hs : SubAt W B sv t.sub) :
    Calls Tryz.prog 7 #[.agg (Tm.cells t sv).toArray] W fun e w' => (∃ g, e = .returned (.bool g) ∧ (g = false → t.sz ≤ 500 ∧ t.dp ≤ 80 ∧ t.long = false)) ∧ Below W.heap.size W w' := by
  obtain ⟨p, nn, cap, S, rfl, _⟩ := hs.inv
  obtain ⟨W1, hW1⟩ : ∃ W1, W1 = W.alloc (.cells #[.int .u8 t.kind, .int .i64 t.width, .int .u64 t.bits, .string t.name, .int .i64 t.low, .slice p nn cap] 25) := ⟨_, rfl⟩
  have hb1 : Below W.heap.size W W1 := by rw [hW1]; exact (Below.refl _ _).alloc (Nat.le_refl _) _
  have hnew : W1.heap[W.heap.size]? = some (.cells #[.int .u8 t.kind, .int .i64 t.width, .int .u64 t.bits, .string t.name, .int .i64 t.low, .slice p nn cap] 25 (0, 0)) := by rw [hW1]; show (W.heap.push _)[W.heap.size]? = _; simp
  have hsz1 : W1.heap.size = W.heap.size + 1 := by rw [hW1]; simp
  have HC : Hid (Calls Tryz.prog 30 #[.agg #[.int .u8 t.kind, .int .i64 t.width, .int .u64 t.bits, .string t.name, .int .i64 t.low, .slice p nn cap], .int .i64 500, .int .i64 80] W1 fun e w' => (∃ n is, e = .returned (.tuple #[.int .i64 (n : Nat), .bool is]) ∧ CountOk t 500 80 n is) ∧ Below W1.heap.size W1 w') :=
    Lib.hid (count_any 80 t 500 (.slice p nn cap) B W1 (by omega) (by omega) (by omega) (Nat.le_trans hB hb1.size) (hs.kept (hb1.mono hB)))
  have HL : Hid (∀ w, Below W1.heap.size W1 w → Calls Tryz.prog 31 #[.agg #[.int .u8 t.kind, .int .i64 t.width, .int .u64 t.bits, .string t.name, .int .i64 t.low, .slice p nn cap]] w fun e w' => e = .returned (.bool t.long) ∧ Below w.heap.size w w') :=
    Lib.hid (fun w hb => by
      have hWB : Below W.heap.size W w := hb1.trans (hb.mono hb1.size)
      exact long_any t.sz t (Nat.le_refl _) (.slice p nn cap) B w (Nat.le_trans hB hWB.size) (hs.kept (hWB.mono hB)))
  have HS := Lib.hid (And.intro hb1 (And.intro hnew hsz1))
  simp only [Tm.cells]
  rw [hW1] at HC
  have HW := Lib.hid hW1
  clear hs hb1 hnew hsz1 hW1
  have n0 : ∀ w : World, Below W1.heap.size W1 w → w.cell? ⟨W.heap.size, 0, none⟩ = some (.int .u8 t.kind) ∧ w.cell? ⟨W.heap.size, 1, none⟩ = some (.int .i64 t.width) ∧ w.cell? ⟨W.heap.size, 2, none⟩ = some (.int .u64 t.bits) ∧ w.cell? ⟨W.heap.size, 3, none⟩ = some (.string t.name) ∧ w.cell? ⟨W.heap.size, 4, none⟩ = some (.int .i64 t.low) ∧ w.cell? ⟨W.heap.size, 5, none⟩ = some (.slice p nn cap) := fun w hb => by
    obtain ⟨hb1, hnew, hsz1⟩ := HS.out
    refine ⟨?_, ?_, ?_, ?_, ?_, ?_⟩ <;> (rw [hb.cell (by simp [hsz1])]; simp [World.cell?, hnew])
  have HN := Lib.hid n0
  clear n0
  go_enter Tryz.func7, Tryz.ntmps7
  go_wp2_with (first
    | (go_at_call 30; (with_reducible refine HC.out.mono ?_); rintro e w2 ⟨⟨n, is, rfl, hm⟩, hb2⟩; have HM := Lib.hid hm; rw [← HW.out] at hb2; have HB2 := Lib.hid hb2; clear hm hb2; obtain ⟨c0, c1, c2, c3, c4, c5⟩ := HN.out w2 HB2.out)
    | (go_at_call 31; (with_reducible refine (HL.out _ HB2.out).mono ?_); rintro e w3 ⟨rfl, hb3⟩))
  · rename_i hn
    go_ret
    obtain ⟨m0, m1, m2⟩ := HM.out
    obtain ⟨e1, e2⟩ := m2 (by assumption) hn
    exact ⟨⟨decide (500 < (n : Int)) || t.long, rfl, fun h => ⟨by omega, e2, (Bool.or_eq_false_iff.1 h).2⟩⟩, HS.out.1.trans ((HB2.out.trans (hb3.mono HB2.out.size)).mono HS.out.1.size)⟩
  · go_ret
    exact ⟨.inr rfl, HS.out.1.trans (HB2.out.mono HS.out.1.size)⟩
  · rename_i hi
    go_ret
    refine ⟨⟨true, ?_, fun h => by cases h⟩, HS.out.1.trans (HB2.out.mono HS.out.1.size)⟩
    have : is = false := by cases is with | true => exact absurd rfl hi | false => rfl
    subst this
    rfl
end Go.Proofs.YthogpmddijbigaaGreatDoor
