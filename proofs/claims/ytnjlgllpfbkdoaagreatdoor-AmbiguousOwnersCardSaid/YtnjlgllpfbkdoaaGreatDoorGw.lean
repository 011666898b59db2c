/- Merged texts: AmbiguousOwnersWalk. -/
import Derived.Test.YtnjlgllpfbkdoaaGreatDoorGv
namespace Go.Proofs.YtnjlgllpfbkdoaaGreatDoor
open Go.RowKit
set_option linter.unusedVariables false
set_option linter.unusedSimpArgs false
set_option maxRecDepth 100000
theorem plK_get (p : Nat → Bool) (i : Nat) (hp : p i = true) : ∀ n, i < n → (plK p n)[(plK p i).length]? = some i
  | 0, h => by omega
  | n + 1, h => by
    rw [plK_succ]
    rcases Nat.lt_or_ge i n with h1 | h1
    · have ih := plK_get p i hp n h1
      rw [List.getElem?_append_left (List.getElem?_eq_some_iff.1 ih).1]
      exact ih
    · obtain rfl : i = n := by omega
      rw [hp]
      simp
theorem atP_map {m : Mach} {p : Shp → Bool} {k : Nat} {i : MIns} (h : m.instrs[k]? = some i) : atP p (m.instrs.map (shapeR m)) k = p (shapeR m i) := by
  unfold atP
  rw [List.getElem?_map, h]
  rfl
theorem own_leg {m : Mach} {x : Nat} (h : ownErr m x = 0) {k : Nat} (hk : k < m.instrs.length) : legErr m (k : Int) x = 0 ∧ legB m (k : Int) x = atP (fun s => hasR s x) (m.instrs.map (shapeR m)) k := by
  have hc : chkR m = 0 := by
    unfold ownErr at h
    by_cases hc : chkR m = 0
    · exact hc
    · rw [if_neg hc] at h; exact absurd h hc
  have hlt : x < endR m := by
    unfold ownErr at h
    rw [if_pos hc] at h
    by_cases hlt : x < endR m
    · exact hlt
    · rw [if_neg hlt] at h; cases h
  have ha : amErr m [(k : Int)] = 0 := by
    unfold amErr
    rw [if_pos hc]
    have : insIdx m (k : Int) = true := by unfold insIdx; simp; omega
    simp [this]
  have hle : legErr m (k : Int) x = 0 := by unfold legErr; rw [if_pos ha, if_pos hlt]
  refine ⟨hle, ?_⟩
  obtain ⟨i, hi⟩ : ∃ i, m.instrs[k]? = some i := ⟨_, List.getElem?_eq_getElem hk⟩
  unfold legB
  rw [if_pos hle, Int.toNat_natCast, hi, atP_map hi]
end Go.Proofs.YtnjlgllpfbkdoaaGreatDoor
namespace Go.Proofs.YtnjlgllpfbkdoaaGreatDoor.ambiguousOwners
open Go.RowKit Go.Instr
set_option linter.unusedVariables false
set_option linter.unusedSimpArgs false
set_option maxRecDepth 100000
set_option warningAsError false in
set_option maxHeartbeats 4000000 in
theorem walk {H : Type} {enc : TypeId × Value → H} {W : World} {base : Nat} (v0 : Value) (a1 : Int) {d0 : DataW H} {p0 : List MemPlace} (ok0 : Value.okWide Tryz.prog W .any base 27 v0) (h0 : DataW.Trod enc Tryz.prog W 0 (fun _ => true) true 27 v0 d0 p0)
    (w1 : (Lit.int .u64 a1).wf = true) (hL : laidMetH Tryz.prog Rows.ambiguousOwnersRow.laid W) :
    Calls Tryz.prog 6 #[v0, .int .u64 a1] W fun e w' => e = .returned (.bool true) ∧ Below W.heap.size W w' := by
  obtain ⟨m, hm⟩ := open_machv ok0 h0
  obtain ⟨x, rfl, hx⟩ := u64_of w1
  have hT := amb_shapes W hL
  have hA := amb_alive hL
  clear ok0 h0 w1 hL
  have hm' := hm
  obtain ⟨cs0, rfl, sr, sb, su, si, hcs, h1, h2, h3, hR, hB, hU, hI⟩ := hm
  obtain rfl : cs0 = #[.string m.name, .int .i64 m.word, .int .i64 m.address, sr, sb, su, si] := by cases cs0; simp_all
  obtain ⟨A, c, rfl, _⟩ := id hI
  obtain ⟨n, hn⟩ : ∃ z, m.instrs.length = z := ⟨_, rfl⟩
  rw [hn] at hm'
  rw [hn]
  obtain ⟨W1, hW1⟩ : ∃ W1, W1 = W.alloc (.cells #[.string m.name, .int .i64 m.word, .int .i64 m.address, sr, sb, su, .slice A n c] 27) := ⟨_, rfl⟩
  have hb1 : Below W.heap.size W W1 := by rw [hW1]; exact (Below.refl _ _).alloc (Nat.le_refl _) _
  have hl1 : W.heap.size < W1.heap.size := by rw [hW1]; simp
  have hblk1 : W1.heap[W.heap.size]? = some (.cells #[.string m.name, .int .i64 m.word, .int .i64 m.address, sr, sb, su, .slice A n c] 27) := by rw [hW1]; exact heap_alloc_new _ _
  have HQ := Lib.hid (show ∀ X, Below W1.heap.size W1 X → X.cell? ⟨W.heap.size, 0, none⟩ = some (.string m.name) ∧ X.cell? ⟨W.heap.size, 1, none⟩ = some (.int .i64 m.word) ∧ X.cell? ⟨W.heap.size, 2, none⟩ = some (.int .i64 m.address) ∧ X.cell? ⟨W.heap.size, 3, none⟩ = some sr ∧ X.cell? ⟨W.heap.size, 4, none⟩ = some sb ∧ X.cell? ⟨W.heap.size, 5, none⟩ = some su ∧ X.cell? ⟨W.heap.size, 6, none⟩ = some (.slice A n c) from fun X hX => by
    have e1 := (hX.block _ hl1).trans hblk1
    exact ⟨cell_of e1 rfl, cell_of e1 rfl, cell_of e1 rfl, cell_of e1 rfl, cell_of e1 rfl, cell_of e1 rfl, cell_of e1 rfl⟩)
  have HGR := Lib.hid (show ∀ X, Below W1.heap.size W1 X → Below W.heap.size W X from fun X hX => hb1.trans (hX.mono hb1.size))
  have HW1 := Lib.hid hW1
  have hMV : ∀ X, Below W1.heap.size W1 X → MachV X (.agg #[.string m.name, .int .i64 m.word, .int .i64 m.address, sr, sb, su, .slice A n c]) m := fun X hX => hm'.kept (HGR.out X hX)
  have HAL := Lib.hid ((hA W1 hb1).mono (R' := fun e w' => e = .returned (.bool true) ∧ Below W1.heap.size W1 w') fun e w' h => h)
  have HGT := Lib.hid (show ∀ X, Below W1.heap.size W1 X → Calls Tryz.prog 10 #[.agg #[.string m.name, .int .i64 m.word, .int .i64 m.address, sr, sb, su, .slice A n c]] X fun e w' => GrE m e ∧ Below W1.heap.size W1 w' from fun X hX => (great8_any X _ m (hMV X hX)).mono fun e w' ⟨g1, g2⟩ => ⟨g1, hX.trans (g2.mono hX.size)⟩)
  rw [hW1] at HAL
  have HOW := Lib.hid (show MachSmall m → ∀ X, Below W1.heap.size W1 X → Calls Tryz.prog 13 #[.agg #[.string m.name, .int .i64 m.word, .int .i64 m.address, sr, sb, su, .slice A n c], .int .u64 x] X fun e w' => ∃ (Al : Option Addr) (ll cl : Nat), e = .returned (.tuple #[.slice Al ll cl, .int .i64 (ownErr m x)]) ∧ (RowsAt 1 intE w' (.slice Al ll cl) ((ownL m x).map fun (z : Nat) => (z : Int)) ∧ ll = (ownL m x).length ∧ ll ≤ 1000) ∧ Below W1.heap.size W1 w' from fun hs X hX => (owners_any X _ m (hMV X hX) (hT.below (HGR.out X hX)) hs.effs x hx).mono fun e w' ⟨sv, g1, g2, g3⟩ => by
    obtain ⟨Al, cl, g4, _⟩ := id g2
    rw [List.length_map] at g4
    subst g4
    refine ⟨Al, _, cl, g1, ⟨g2, rfl, ?_⟩, hX.trans (g3.mono hX.size)⟩
    unfold ownL
    by_cases h : ownErr m x = 0
    · rw [if_pos h]
      have := plK_le (atP (fun s => hasR s x) (m.instrs.map (shapeR m))) m.instrs.length
      have := hs.instrs
      omega
    · rw [if_neg h]; simp)
  have HLE := Lib.hid (show MachSmall m → ∀ (k : Nat), k < n → ∀ X, Below W1.heap.size W1 X → Calls Tryz.prog 11 #[.agg #[.string m.name, .int .i64 m.word, .int .i64 m.address, sr, sb, su, .slice A n c], .int .i64 k, .int .u64 x] X fun e w' => e = .returned (.tuple #[.bool (legB m k x), .int .i64 (legErr m k x)]) ∧ Below X.heap.size X w' from fun hs k hk X hX => (legal_any X _ m (hMV X hX) (hT.below (HGR.out X hX)) hs.effs k (by have := hs.instrs; omega) x hx).mono fun e w' ⟨g1, g2⟩ => ⟨g1, g2⟩)
  have HNL := Lib.hid hn
  have HF1 := Lib.hid (Below.refl W1.heap.size W1)
  clear hcs h1 h2 h3 hR hB hU hI hm' hT hA hW1 hb1 hl1 hblk1 hMV hx
  obtain ⟨oe, hoe⟩ : ∃ z, ownErr m x = z := ⟨_, rfl⟩
  by_cases h0 : oe = 0
  · subst h0
    obtain ⟨pn, hpn⟩ : ∃ z, z = atP (fun s => hasR s x) (m.instrs.map (shapeR m)) := ⟨_, rfl⟩
    have HOL := Lib.hid (show ownL m x = plK pn n by unfold ownL; rw [if_pos hoe, hn, hpn])
    have HOE := Lib.hid (show ∀ (k : Nat), k < n → legErr m (k : Int) x = 0 ∧ legB m (k : Int) x = pn k from fun k hk => by rw [hpn]; exact own_leg hoe (by rw [hn]; exact hk))
    rw [hoe] at HOW
    clear hn hoe hpn
    go_enter Tryz.func6, Tryz.ntmps6
    go_wp2_with (first
      | (go_at_call 26; (with_reducible refine HAL.out.mono ?_); rintro e w3 ⟨rfl, hb3⟩; rw [← HW1.out] at hb3; obtain ⟨p0, p1, p2, p3, p4, p5, p6⟩ := HQ.out _ hb3)
      | (go_at_call 10; (with_reducible refine (HGT.out _ (by assumption)).mono ?_); rintro e w4 ⟨⟨g, rfl, hg⟩, hb4⟩; have HG := Lib.hid hg; clear hg; obtain ⟨q0, q1, q2, q3, q4, q5, q6⟩ := HQ.out _ hb4)
      | (go_at_call 13; (with_reducible refine (HOW.out (HG.out (by first | assumption | simp_all)) _ (by assumption)).mono ?_); rintro e w5 ⟨Al, ll, cl, rfl, hl5, hb5⟩; have HL5 := Lib.hid hl5; clear hl5; obtain ⟨r0, r1, r2, r3, r4, r5, r6⟩ := HQ.out _ hb5))
    · exact bodyPost_ret (v := .bool true) (by simp [results, Tryz.results6, go_sem]) rfl ⟨rfl, HGR.out _ hb4⟩
    · have hgf : MachSmall m := HG.out (by first | assumption | simp_all)
      have HGF := Lib.hid hgf
      have HB5 := Lib.hid hb5
      have hll : ll = (plK pn n).length := by rw [HL5.out.2.1, HOL.out]
      have HLL := Lib.hid hll
      have HL1 := Lib.hid HL5.out.2.2
      have HNS := Lib.hid (show n ≤ 74 by rw [← HNL.out]; exact hgf.instrs)
      clear hgf hll p0 p1 p2 p3 p4 p5 p6 q0 q1 q2 q3 q4 q5 q6 r0 r1 r2 r3 r4 r5 r6
      go_loopw [8, 9] (fun va vi wr => ∃ i : Nat, vi = .int .i64 i ∧ va = .int .i64 ((plK pn i).length : Nat) ∧ i ≤ n ∧ Hid (Below w5.heap.size w5 wr)) (fun _ vi _ => n - (intOf vi).toNat)
      case atStart => exact ⟨0, rfl, rfl, Nat.zero_le _, Lib.hid (Below.refl _ _)⟩
      case round =>
        obtain ⟨i, rfl, rfl, hi, HJ⟩ := hrel
        have hbw := HB5.out.trans (HJ.out.mono HB5.out.size)
        obtain ⟨q0, q1, q2, q3, q4, q5, q6⟩ := HQ.out _ hbw
        by_cases hlt : i < n
        · obtain ⟨k1, k2⟩ := HOE.out i hlt
          have hnx := plK_succ pn i
          have hcl := HLE.out HGF.out i hlt
          rw [k1, k2] at hcl
          obtain ⟨q, hq⟩ : ∃ q, pn i = q := ⟨_, rfl⟩
          have hget : q = true → (plK pn n)[(plK pn i).length]? = some i := fun h => plK_get pn i (by rw [hq]; exact h) n hlt
          rw [hq] at hcl hnx
          obtain ⟨al, hal⟩ : ∃ z, (plK pn i).length = z := ⟨_, rfl⟩
          rw [hal] at hget
          have HCL := Lib.hid (show ∀ X, Below w5.heap.size w5 X → Calls Tryz.prog 11 #[.agg #[.string m.name, .int .i64 m.word, .int .i64 m.address, sr, sb, su, .slice A n c], .int .i64 i, .int .u64 x] X fun e w' => e = .returned (.tuple #[.bool q, .int .i64 0]) ∧ Below w5.heap.size w5 w' from fun X hX =>
            (hcl X (HB5.out.trans (hX.mono HB5.out.size))).mono fun e w' ⟨g1, g2⟩ => ⟨g1, hX.trans (g2.mono hX.size)⟩)
          have hle2 : al ≤ i := by rw [← hal]; exact plK_le pn i
          have hbJ := HJ.out
          have hns := HNS.out
          have hin : (i : Int) < (n : Int) := by omega
          have HLT := Lib.hid hlt
          rw [hal]
          cases q with
          | false =>
            have HNX := Lib.hid (show (plK pn (i + 1)).length = al by rw [hnx]; simp [hal])
            clear hnx hcl hget k1 k2 hq hal HJ
            go_wp2_with (go_at_call 11; (with_reducible refine (HCL.out _ (by assumption)).mono ?_); rintro e w6 ⟨rfl, hb6⟩)
            go_roundw
            case rel => exact ⟨i + 1, by first | rfl | go_num | (congr 1), by rw [HNX.out], by have := HLT.out; omega, Lib.hid hb6⟩
            case measure => simp only [intOf]; have := HLT.out; omega
          | true =>
            have HNX := Lib.hid (show (plK pn (i + 1)).length = al + 1 by rw [hnx]; simp [hal])
            have hg2 := hget rfl
            obtain ⟨Al', cl', e9, _, _, _, hall⟩ := HL5.out.1
            obtain ⟨b, o, cs, e2, hb, hcl2, hcell, hE⟩ := hall al (i : Int) (by rw [HOL.out, List.getElem?_map, hg2]; rfl)
            obtain ⟨rfl, rfl⟩ : Al = Al' ∧ cl = cl' := by cases e9; exact ⟨rfl, rfl⟩
            subst e2
            obtain ⟨rfl, _⟩ := hE
            have HCE := Lib.hid (show ∀ X, Below w5.heap.size w5 X → X.cell? ⟨b, o + al, none⟩ = some (.int .i64 i) from fun X hX => by rw [hX.cell hb]; simpa using hcell 0 _ rfl)
            have hall2 : (al : Int) < (ll : Int) := by
              have := (List.getElem?_eq_some_iff.1 hg2).1
              rw [← HLL.out] at this
              omega
            have hal0 : (0 : Int) ≤ (al : Int) := by omega
            have hng : ¬ ll ≤ al := by omega
            have hll9 := HL1.out
            clear hnx hcl hget k1 k2 hq hal HJ hg2 e9 hall hcell hcl2 hb
            go_wp2_with (go_at_call 11; (with_reducible refine (HCL.out _ (by assumption)).mono ?_); rintro e w6 ⟨rfl, hb6⟩; have z0 := HCE.out _ hb6)
            go_roundw
            case rel => exact ⟨i + 1, by first | rfl | go_num | (congr 1), by rw [HNX.out]; first | rfl | go_num | (congr 1), by have := HLT.out; omega, Lib.hid hb6⟩
            case measure => simp only [intOf]; have := HLT.out; omega
        · obtain rfl : i = n := by omega
          have HBW := Lib.hid hbw
          have hll := HLL.out
          have hin : ¬ (i : Int) < (i : Int) := by omega
          obtain ⟨al, hal⟩ : ∃ z, (plK pn i).length = z := ⟨_, rfl⟩
          rw [hal] at hll ⊢
          subst hll
          clear hbw HJ hal
          go_wp2
          exact bodyPost_ret (v := .bool true) (by simp [results, Tryz.results6, go_sem]) rfl ⟨rfl, HGR.out _ HBW.out⟩
  · have HOL := Lib.hid (show ownL m x = [] by unfold ownL; rw [if_neg (by rw [hoe]; exact h0)])
    have g : (oe != 0) = true := by simp [h0]
    have HOW2 := Lib.hid (show MachSmall m → ∀ X, Below W1.heap.size W1 X → Calls Tryz.prog 13 #[.agg #[.string m.name, .int .i64 m.word, .int .i64 m.address, sr, sb, su, .slice A n c], .int .u64 x] X fun e w' => ∃ (Al : Option Addr) (cl : Nat), e = .returned (.tuple #[.slice Al 0 cl, .int .i64 oe]) ∧ Below W1.heap.size W1 w' from fun hs X hX => (HOW.out hs X hX).mono fun e w' ⟨Al, ll, cl, g1, g2, g3⟩ => ⟨Al, cl, by rw [g1, hoe, g2.2.1, HOL.out]; rfl, g3⟩)
    clear hn hoe h0 HOW HLE
    go_enter Tryz.func6, Tryz.ntmps6
    go_wp2_with (first
      | (go_at_call 26; (with_reducible refine HAL.out.mono ?_); rintro e w3 ⟨rfl, hb3⟩; rw [← HW1.out] at hb3; obtain ⟨p0, p1, p2, p3, p4, p5, p6⟩ := HQ.out _ hb3)
      | (go_at_call 10; (with_reducible refine (HGT.out _ (by assumption)).mono ?_); rintro e w4 ⟨⟨g, rfl, hg⟩, hb4⟩; have HG := Lib.hid hg; clear hg; obtain ⟨q0, q1, q2, q3, q4, q5, q6⟩ := HQ.out _ hb4)
      | (go_at_call 13; (with_reducible refine (HOW2.out (HG.out (by first | assumption | simp_all)) _ (by assumption)).mono ?_); rintro e w5 ⟨Al, cl, rfl, hb5⟩))
    · exact bodyPost_ret (v := .bool true) (by simp [results, Tryz.results6, go_sem]) rfl ⟨rfl, HGR.out _ hb4⟩
    · exact bodyPost_ret (v := .bool true) (by simp [results, Tryz.results6, go_sem]) rfl ⟨rfl, HGR.out _ hb5⟩
end Go.Proofs.YtnjlgllpfbkdoaaGreatDoor.ambiguousOwners
