/- The walk of BlastClauses. -/
import Derived.Test.YtjklebfggnllcaaBlastClauses
import Derived.Test.YtjklebfggnllcaaBlastRefClauses
import Derived.Test.YtjklebfggnllcaaBlastSameLists
import Derived.Test.YtjklebfggnllcaaBlastSame
import Derived.Test.YtjklebfggnllcaaBlastOpen
namespace Go.Proofs.Ytjklebfggnllcaa.blastClauses
open Go.RowKit
set_option linter.unusedVariables false
set_option linter.unusedSimpArgs false

theorem claims_short {N : Nat → ByteArray} {B P Q O : Nat → Int} {ni ng no : Nat} {o : Int} {n : Nat} {L : List (List Int)} {err : Nat} (h : ClsIs N B P Q O ni ng no o n L err) : L.length ≤ 1000000 ∧ ∀ l ∈ L, l.length ≤ 100 := by
  have hcl : ∀ k, ∀ l ∈ clausesTo P Q ni k, l.length ≤ 100 := by
    intro k
    induction k with
    | zero => intro l hl; simp [clausesTo] at hl; subst hl; simp
    | succ k ih =>
      intro l hl
      rw [clausesTo, List.mem_append] at hl
      rcases hl with hl | hl
      · exact ih l hl
      · simp [gateL] at hl; rcases hl with rfl | rfl | rfl <;> simp
  rcases h with ⟨_, _, rfl, _⟩ | ⟨_, _, _, rfl, _⟩ | ⟨_, _, _, _, rfl, _⟩ | ⟨j, _, _, _, h3, _, rfl, _⟩
  · exact ⟨by simp, fun l hl => by simp at hl⟩
  · exact ⟨by simp, fun l hl => by simp at hl⟩
  · exact ⟨by simp, fun l hl => by simp at hl⟩
  · refine ⟨by rw [clausesR, List.length_append, clausesTo_length]; simp; omega, fun l hl => ?_⟩
    rw [clausesR, List.mem_append] at hl
    rcases hl with hl | hl
    · exact hcl _ l hl
    · simp at hl; subst hl; simp

set_option maxRecDepth 100000 in
set_option maxHeartbeats 1000000 in
theorem core (pi pg po : Option Addr) (ni ng no ci cg co : Nat) (N : Nat → ByteArray) (B P Q O : Nat → Int) (w : World) (o : Int) (hm : ni ≤ maxLen) (hi : InsAt w pi ni N B) (hg : PairsAt w pg ng P Q) (ho : NumsAt w po no O) :
    Calls Try.prog 4 #[.agg #[.slice pi ni ci, .slice pg ng cg, .slice po no co], .int .i64 o] w fun e w' => e = .returned (.bool true) ∧ Below w.heap.size w w' := by
  obtain ⟨W1, hW1⟩ : ∃ W1, W1 = w.alloc (.cells #[.slice pi ni ci, .slice pg ng cg, .slice po no co] 26) := ⟨_, rfl⟩
  have hb1 : Below w.heap.size w W1 := by rw [hW1]; exact (Below.refl _ _).alloc (Nat.le_refl _) _
  have c0 : W1.cell? ⟨w.heap.size, 0, none⟩ = some (.slice pi ni ci) := by rw [hW1]; go_simp
  have c1 : W1.cell? ⟨w.heap.size, 1, none⟩ = some (.slice pg ng cg) := by rw [hW1]; go_simp
  have c2 : W1.cell? ⟨w.heap.size, 2, none⟩ = some (.slice po no co) := by rw [hW1]; go_simp
  have hsz : w.heap.size < W1.heap.size := by rw [hW1]; simp
  have HB := Lib.hid hb1
  have HX := Lib.hid (fun (wr : World) (h : Below W1.heap.size W1 wr) => (⟨by rw [h.cell hsz]; exact c0, by rw [h.cell hsz]; exact c1, by rw [h.cell hsz]; exact c2⟩ : wr.cell? ⟨w.heap.size, 0, none⟩ = some (.slice pi ni ci) ∧ wr.cell? ⟨w.heap.size, 1, none⟩ = some (.slice pg ng cg) ∧ wr.cell? ⟨w.heap.size, 2, none⟩ = some (.slice po no co)))
  have HG := Lib.hid (circuitGreat_any pi pg po ni ng no ci cg co N B W1 (hi.below hb1) hm)
  have HW := Lib.hid hW1
  obtain ⟨q, hq⟩ : ∃ q, greatR N ni ng no = q := ⟨_, rfl⟩
  rw [hq] at HG
  rw [hW1] at HG c0
  have HI := Lib.hid (And.intro hi (And.intro hg ho))
  clear hb1 c1 c2 hsz hW1 hi hg ho hm
  cases q with
  | true =>
    go_enter Try.func4, Try.ntmps4
    go_wp2_with (go_at_call 5; (with_reducible refine HG.out.mono ?_); rintro e w2 ⟨rfl, hb2⟩)
    go_ret
    rw [← HW.out] at hb2
    exact ⟨rfl, HB.out.trans (hb2.mono HB.out.size)⟩
  | false =>
    obtain ⟨x1, x2, x3, x4⟩ := greatR_no hq
    have HC := Lib.hid (⟨x1, x2, x3, x4, HI.out.1, HI.out.2.1, HI.out.2.2⟩ : CirAt w pi pg po ni ng no N B P Q O)
    clear x1 x2 x3 x4 hq HI
    obtain ⟨n, L, err, hL⟩ := clsIs_some N B P Q O ni ng no o
    have HL := Lib.hid hL
    have HLS := Lib.hid (claims_short hL)
    clear hL
    have HT := Lib.hid (fun (wr : World) (h : Below W1.heap.size W1 wr) => twin_any pi pg po ni ng no ci cg co N B P Q O wr (HC.out.below (HB.out.trans (h.mono HB.out.size))))
    have HK := Lib.hid (fun (pi pg po : Option Addr) (ci cg co : Nat) (wr : World) (h : CirAt wr pi pg po ni ng no N B P Q O) => clauses_any pi pg po ni ng no ci cg co N B P Q O wr h o n L err HL.out)
    have HF := Lib.hid (fun (wr : World) (h : Below W1.heap.size W1 wr) => refClauses_any pi pg po ni ng no ci cg co N B P Q O wr (HC.out.below (HB.out.trans (h.mono HB.out.size))) o n L err HL.out)
    go_enter Try.func4, Try.ntmps4
    go_wp2_with (first
      | (go_at_call 5; (with_reducible refine HG.out.mono ?_); rintro e w2 ⟨rfl, hb2⟩; rw [← HW.out] at hb2; obtain ⟨e0, e1, e2⟩ := HX.out _ hb2; have B2 := Lib.hid hb2; clear hb2 c0)
      | (go_at_call 7; (with_reducible refine (HT.out _ B2.out).mono ?_); rintro e w3 ⟨pi', pg', po', ci', cg', co', rfl, hc3, hb3⟩; obtain ⟨W4, hW4⟩ : ∃ W4, W4 = w3.alloc (.cells #[.slice pi' ni ci', .slice pg' ng cg', .slice po' no co'] 26) := ⟨_, rfl⟩
         have b4 : Below w3.heap.size w3 W4 := by rw [hW4]; exact (Below.refl _ _).alloc (Nat.le_refl _) _
         have f0 : W4.cell? ⟨w3.heap.size, 0, none⟩ = some (.slice pi' ni ci') := by rw [hW4]; clear hW4 e0 e1 e2; go_simp
         have f1 : W4.cell? ⟨w3.heap.size, 1, none⟩ = some (.slice pg' ng cg') := by rw [hW4]; clear hW4 e0 e1 e2; go_simp
         have f2 : W4.cell? ⟨w3.heap.size, 2, none⟩ = some (.slice po' no co') := by rw [hW4]; clear hW4 e0 e1 e2; go_simp
         have hs4 : w3.heap.size < W4.heap.size := by rw [hW4]; simp
         have HY := Lib.hid (fun (wr : World) (h : Below W4.heap.size W4 wr) => (⟨by rw [h.cell hs4]; exact f0, by rw [h.cell hs4]; exact f1, by rw [h.cell hs4]; exact f2⟩ : wr.cell? ⟨w3.heap.size, 0, none⟩ = some (.slice pi' ni ci') ∧ wr.cell? ⟨w3.heap.size, 1, none⟩ = some (.slice pg' ng cg') ∧ wr.cell? ⟨w3.heap.size, 2, none⟩ = some (.slice po' no co')))
         have HB4 := Lib.hid (B2.out.trans ((hb3.trans (b4.mono hb3.size)).mono B2.out.size))
         have HC4 := Lib.hid (hc3.below b4)
         have HW4 := Lib.hid hW4
         have B3 := Lib.hid hb3
         clear hc3 hb3 b4 f0 f1 f2 hs4 hW4 e0 e1 e2)
      | (go_at_call 16; rw [← HW4.out]; (with_reducible refine (HK.out _ _ _ _ _ _ _ HC4.out).mono ?_); rintro e w5 ⟨v, us, rfl, hl5, hb5⟩; obtain ⟨e0, e1, e2⟩ := HX.out _ (HB4.out.trans (hb5.mono HB4.out.size)); have HL5 := Lib.hid hl5; have B5 := Lib.hid hb5; clear hl5 hb5)
      | (go_at_call 17; (with_reducible refine (HF.out _ (HB4.out.trans (B5.out.mono HB4.out.size))).mono ?_); rintro e w6 ⟨v', us', rfl, hl6, hb6⟩; clear e0 e1 e2; have HL6 := Lib.hid hl6; have B6 := Lib.hid hb6; clear hl6 hb6)
      | (go_at_call 18; (with_reducible refine (sameLists_any _ _ _ _ _ us us' L (HL5.out.below B6.out) HL6.out HLS.out.1 HLS.out.2).mono ?_); rintro e w7 ⟨rfl, hb7⟩; have B67 := Lib.hid (B5.out.trans ((B6.out.trans (hb7.mono B6.out.size)).mono B5.out.size)); obtain ⟨f0, f1, f2⟩ := HY.out _ B67.out; obtain ⟨e0, e1, e2⟩ := HX.out _ (HB4.out.trans (B67.out.mono HB4.out.size)); clear hb7)
      | (go_at_call 15; (with_reducible refine (same_any _ _ _ _ _ _ ni ng no _ _ _ _ _ _ N B P Q O _ (HC4.out.below B67.out) (HC.out.below (HB.out.trans ((HB4.out.trans (B67.out.mono HB4.out.size)).mono HB.out.size)))).mono ?_); rintro e w8 ⟨rfl, hb8⟩; clear e0 e1 e2 f0 f1 f2))
    go_ret
    exact ⟨rfl, HB.out.trans (((HB4.out.trans (B67.out.mono HB4.out.size)).trans (hb8.mono (Nat.le_trans HB4.out.size B67.out.size))).mono HB.out.size)⟩

theorem walk {H : Type} {enc : TypeId × Value → H} {W : World} {base : Nat} (v0 : Value) {d0 : DataW H} {p0 : List MemPlace} (a1 : Int) (ok : Value.okWide Try.prog W .any base 26 v0)
    (h : DataW.Trod enc Try.prog W 0 (fun _ => true) true 26 v0 d0 p0) (w1 : (Lit.int .i64 a1).wf = true) (_ : World) :
    Calls Try.prog 4 #[v0, .int .i64 a1] W fun e w' => e = .returned (.bool true) ∧ Below W.heap.size W w' := by
  obtain ⟨pi, pg, po, ni, ng, no, ci, cg, co, N, B, P, Q, O, rfl, hi, _, _, HI, HG, HO⟩ := open_circuit ok h
  exact core pi pg po ni ng no ci cg co N B P Q O W a1 hi HI HG HO
end Go.Proofs.Ytjklebfggnllcaa.blastClauses
