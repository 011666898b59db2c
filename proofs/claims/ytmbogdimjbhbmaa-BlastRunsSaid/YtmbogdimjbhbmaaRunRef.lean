/- Contracts of the reference's Lit, Nodes, Run. -/
import Derived.Test.YtmbogdimjbhbmaaRunValue
import Derived.Test.YtmbogdimjbhbmaaBlastRefCheck
namespace Go.Proofs.Ytmbogdimjbhbmaa
open Go.RowKit Go.Sort
set_option linter.unusedVariables false
set_option linter.unusedSimpArgs false

theorem lit_any (p : Option Addr) (c : Nat) (L : List Bool) (l : Nat) (w : World) (hv : BoolsAt w p L.length (fun i => L.getD i false)) (hl : l / 2 < L.length) (hn : L.length ≤ 1000000) :
    Calls Try.prog 19 #[.slice p L.length c, .int .i64 (l : Int)] w fun e w' => e = .returned (.bool (litL L (l : Int))) ∧ Below w.heap.size w w' := by
  obtain ⟨b, o, rfl, hb, hc⟩ := hv (l / 2) hl
  obtain ⟨x, hx⟩ : ∃ x, litL L (l : Int) = x := ⟨_, rfl⟩
  rw [litL_nat] at hx
  obtain ⟨y, hy⟩ : ∃ y, L.getD (l / 2) false = y := ⟨_, rfl⟩
  rw [litL_nat, hy]
  simp only [hy] at hc hx
  obtain ⟨n, hln⟩ : ∃ n, L.length = n := ⟨_, rfl⟩
  rw [hln] at hl hn ⊢
  clear hv hx hln
  obtain ⟨i, hi⟩ : ∃ i : Nat, l / 2 = i := ⟨_, rfl⟩
  rw [hi] at hl hc
  have hw : ((l : Int) / 2) = (i : Int) := by omega
  have hw2 : IntKind.i64.wrap ((l : Int) / 2) = (i : Int) := by rw [IntWalk.i64_in _ (by omega)]; omega
  have hj0 : (0 : Int) ≤ (i : Int) := Int.natCast_nonneg _
  have hj1 : (i : Int) < (n : Int) := by omega
  by_cases h : (l : Int) % 2 = 1
  · have d : decide ((l : Int) % 2 = 1) = true := decide_eq_true h
    rw [d]
    go_enter Try.func19, Try.ntmps19
    go_wp2
    go_ret
    exact ⟨by cases y <;> rfl, Below.refl _ _⟩
  · have d : decide ((l : Int) % 2 = 1) = false := decide_eq_false h
    rw [d]
    go_enter Try.func19, Try.ntmps19
    go_wp2
    go_ret
    exact ⟨by cases y <;> rfl, Below.refl _ _⟩

def GaveB (L : List Bool) (w : World) (e : Ending) (w' : World) : Prop := ∃ v, e = .returned v ∧ RowB w' w.heap.size v L ∧ Below w.heap.size w w'

theorem litB_any {w : World} {base : Nat} {v : Value} {L : List Bool} (h : RowB w base v L) (hn : L.length ≤ 1000000) (l : Nat) (hl : l / 2 < L.length) (W : World) (hb : Below w.heap.size w W) :
    Calls Try.prog 19 #[v, .int .i64 (l : Int)] W fun e w' => e = .returned (.bool (litL L (l : Int))) ∧ Below W.heap.size W w' := by
  obtain ⟨p, c, rfl, hr⟩ := (h.kept hb).read
  exact lit_any p c L l W hr hl hn

set_option maxRecDepth 100000 in
set_option maxHeartbeats 4000000 in
theorem nodes_any (pi pg po pv : Option Addr) (ni ng no ci cg co cv : Nat) (N : Nat → ByteArray) (B P Q O : Nat → Int) (V : Nat → Bool) (w : World) (hc : CirAt w pi pg po ni ng no N B P Q O) (hv : BoolsAt w pv ni V) (hgt : gatesR P Q ni ng = true) :
    Calls Try.prog 18 #[.agg #[.slice pi ni ci, .slice pg ng cg, .slice po no co], .slice pv ni cv] w (GaveB (nodesL V P Q ni ng) w) := by
  have hni := hc.hi
  have hng := hc.hg
  have HC := Lib.hid hc
  have HVS := Lib.hid hv
  have HG := Lib.hid hgt
  clear hc hv hgt
  obtain ⟨i0, hi, hz0, hz1, hz2⟩ := info_parts bool_info
  obtain ⟨W1, hW1⟩ : ∃ W1, W1 = w.alloc (.cells #[.slice pi ni ci, .slice pg ng cg, .slice po no co] 26) := ⟨_, rfl⟩
  have hb1 : Below w.heap.size w W1 := by rw [hW1]; exact (Below.refl _ _).alloc (Nat.le_refl _) _
  have c1 : W1.cell? ⟨w.heap.size, 1, none⟩ = some (.slice pg ng cg) := by rw [hW1]; go_simp
  have hsz : w.heap.size < W1.heap.size := by rw [hW1]; simp
  have HB := Lib.hid hb1
  have HX := Lib.hid (fun (wr : World) (h : Below W1.heap.size W1 wr) => (by rw [h.cell hsz]; exact c1 : wr.cell? ⟨w.heap.size, 1, none⟩ = some (.slice pg ng cg)))
  have HB0 := Lib.hid (fun (wr : World) (h : Below W1.heap.size W1 wr) => hb1.trans (h.mono hb1.size))
  have HW := Lib.hid hW1
  have hs1 : W1.heap.size = w.heap.size + 1 := by rw [hW1]; simp
  have hone : RowB (W1.alloc (.cells #[.bool false] 4)) W1.heap.size (.slice (some ⟨w.heap.size + 1, 0, none⟩) 1 1) [false] := by
    have h := World.ownsRow_lit (base := W1.heap.size) (e := 4) (size := 1) W1 #[.bool false] 1 (Nat.le_refl _) (by unfold maxLen; omega) rfl
    rw [show (⟨w.heap.size + 1, 0, none⟩ : Addr) = ⟨W1.heap.size, 0, none⟩ by rw [hs1]]
    exact h
  have HS1 := Lib.hid hs1
  have HO := Lib.hid hone
  clear hb1 c1 hW1 hone hs1
  go_enter Try.func18, Try.ntmps18
  go_wp2_with (at_builtin; rw [← HW.out]; go_loud (refine wpList_append_src rfl _ _ 27 rfl W1.heap.size 4 i0 (.bool false) 1 1 Try.underlying27 hi hz0 hz1 hz2 rfl (by decide) (.slice (some ⟨w.heap.size + 1, 0, none⟩) 1 1) 1 (bls [false]) rfl HO.out pv ni cv (boolC V) rfl (HVS.out.src.below (HB.out.alloc HB.out.size _)) (fun _ => rfl) (by unfold maxLen; omega) (by omega) (by simp) ?_)
               intro v5 w5 hown5 hg5
               have HR5 := Lib.hid (show RowB w5 W1.heap.size v5 (nodesL V P Q ni 0) by (rw [show nodesL V P Q ni 0 = [false] ++ (List.range ni).map V from rfl]; unfold RowB; rw [bls_append, bls_range]; simpa [Nat.add_comm] using hown5))
               have HB5 := Lib.hid (((Below.refl W1.heap.size W1).alloc (Nat.le_refl _) (.cells #[.bool false] 4)).grown hg5 (by simp) (fun r hr => by cases hr; exact Nat.le_of_eq HS1.out))
               clear hown5 hg5)
  go_loopw [5, 6] (fun vo vi wr => ∃ k : Nat, vi = .int .i64 k ∧ k ≤ ng ∧ RowB wr W1.heap.size vo (nodesL V P Q ni k) ∧ Below W1.heap.size W1 wr) (fun _ vi _ => ng - (intOf vi).toNat)
  case atStart => exact ⟨0, rfl, by omega, HR5.out, HB5.out⟩
  case round =>
    obtain ⟨k, rfl, hk, hr, hb⟩ := hrel
    have e1 := HX.out wr hb
    by_cases hlt : k < ng
    · obtain ⟨b, og, hpg, hbn, a0, a1⟩ := HC.out.gates k hlt
      subst hpg
      rw [← (HB0.out _ hb).cell hbn] at a0 a1
      have hg := allTo_at _ ng HG.out k hlt
      unfold gateOk at hg
      rw [Bool.and_eq_true] at hg
      obtain ⟨p, hp, hp2⟩ := litOk_nat hg.1
      obtain ⟨q, hq, hq2⟩ := litOk_nat hg.2
      rw [hp] at a0
      rw [hq] at a1
      obtain ⟨NL, hNL⟩ : ∃ NL, nodesL V P Q ni k = NL := ⟨_, rfl⟩
      have hlen := nodesL_length V P Q ni k
      have hNS : nodesL V P Q ni (k + 1) = NL ++ [litL NL (p : Int) && litL NL (q : Int)] := by rw [nodesL_succ, hNL, hp, hq]
      rw [hNL] at hr hlen
      obtain ⟨x, hx⟩ : ∃ x, litL NL (p : Int) = x := ⟨_, rfl⟩
      obtain ⟨y, hy⟩ : ∃ y, litL NL (q : Int) = y := ⟨_, rfl⟩
      rw [hx, hy] at hNS
      have HNS := Lib.hid hNS
      have hVP := Lib.hid (fun (W : World) (h : Below wr.heap.size wr W) => by
        have h3 := litB_any hr (by omega) p (by omega) W h
        rw [hx] at h3; exact h3)
      have hVQ := Lib.hid (fun (W : World) (h : Below wr.heap.size wr W) => by
        have h3 := litB_any hr (by omega) q (by omega) W h
        rw [hy] at h3; exact h3)
      have hsw : w.heap.size < W1.heap.size := by have := HS1.out; omega
      have hsz1 := hb.size
      have hsk : b < wr.heap.size := by omega
      have hsl : w.heap.size < wr.heap.size := by omega
      have HOW := Lib.hid (fun (W : World) (h : Below wr.heap.size wr W) => (⟨⟨by rw [h.cell hsl]; exact e1, by rw [h.cell hsk]; exact a0, by rw [h.cell hsk]; exact a1, hb.trans (h.mono hb.size)⟩, hr.kept h⟩ :
        (W.cell? ⟨w.heap.size, 1, none⟩ = some (.slice (some ⟨b, og, none⟩) ng cg) ∧ W.cell? ⟨b, og + k * 2, none⟩ = some (.int .i64 (p : Int)) ∧ W.cell? ⟨b, og + k * 2 + 1, none⟩ = some (.int .i64 (q : Int)) ∧ Below W1.heap.size W1 W) ∧ RowB W W1.heap.size u5 NL))
      have HA9 := Lib.hid (fun (z : Bool) (W w9 : World) (v9 : Value) (hg9 : W.grownBy w9 u5.ownBlock) (hown9 : w9.ownsRow W1.heap.size 4 1 v9 (NL.length + 1) (bls NL ++ [.bool z])) (h : Below wr.heap.size wr W) => by
        obtain ⟨⟨s1, s2, s3, s4⟩, r1⟩ := HOW.out W h
        have ho : RowB w9 W1.heap.size v9 (NL ++ [z]) := by unfold RowB; rw [bls_append, List.length_append]; exact hown9
        have n1 : some w.heap.size ≠ u5.ownBlock := fun e => by have := (World.ownsRow.lt r1 _ e.symm).1; omega
        have n2 : some b ≠ u5.ownBlock := fun e => by have := (World.ownsRow.lt r1 _ e.symm).1; omega
        exact (⟨⟨hg9.cell s1 n1, hg9.cell s2 n2, hg9.cell s3 n2, s4.grown hg9 s4.size (fun r hr => (World.ownsRow.lt r1 r hr).1)⟩, ho⟩ :
          (w9.cell? ⟨w.heap.size, 1, none⟩ = some (.slice (some ⟨b, og, none⟩) ng cg) ∧ w9.cell? ⟨b, og + k * 2, none⟩ = some (.int .i64 (p : Int)) ∧ w9.cell? ⟨b, og + k * 2 + 1, none⟩ = some (.int .i64 (q : Int)) ∧ Below W1.heap.size W1 w9) ∧ RowB w9 W1.heap.size v9 (NL ++ [z])))
      have HLN := Lib.hid hlen
      have hj0 : (0 : Int) ≤ (k : Int) := Int.natCast_nonneg _
      have hj1 : (k : Int) < (ng : Int) := by omega
      have hroom : W1.heap.size ≤ wr.heap.size := hsz1
      clear hlen hr hb hx hy hNS hg hp hq hNL
      cases x
      all_goals
        go_wp2_with (first
          | (go_at_call 19; (with_reducible refine (hVP.out _ (Below.refl _ _)).mono ?_); rintro e w7 ⟨rfl, hb7⟩; obtain ⟨⟨d1, d2, d3, _⟩, _⟩ := HOW.out _ hb7; have HB7 := Lib.hid hb7; have hs7 := hb7.size; clear hb7)
          | (go_at_call 19; (with_reducible refine (hVQ.out _ HB7.out).mono ?_); rintro e w8 ⟨rfl, hb8⟩; have HB8 := Lib.hid (HB7.out.trans (hb8.mono HB7.out.size)); have hs8 := HB8.out.size; clear hb8)
          | (at_builtin; refine wpList_append_own_at _ rfl _ _ 27 rfl W1.heap.size 4 i0 (.bool false) 1 1 Try.underlying27 hi hz0 hz1 hz2 rfl (by decide) u5 NL.length (bls NL) rfl (by first | exact World.ownsRow.alloc (HOW.out _ HB8.out).2 _ | exact World.ownsRow.alloc (HOW.out _ HB7.out).2 _) ⟨_, 0, none⟩ 1 1 [_] rfl rfl (cell_one_new _ _ _) (one_cell1 rfl) (by have := HLN.out; unfold maxLen; omega) (by have := HLN.out; omega) (by simp; omega) ?_; intro v9 w9 hown9 hg9 _ _; obtain ⟨hS9, hr9⟩ := HA9.out _ _ _ _ hg9 hown9 (by first | exact HB8.out.alloc HB8.out.size _ | exact HB7.out.alloc HB7.out.size _); have HR9 := Lib.hid hr9; have HB9 := Lib.hid hS9.2.2.2; clear hown9 hg9 hr9 hS9))
        go_roundw
        case rel => exact ⟨k + 1, by first | rfl | go_num | (rw [wrap64_small _ (by omega) (by omega)]; rfl), by omega, by rw [HNS.out]; exact HR9.out, HB9.out⟩
        case measure => (try rw [wrap64_small _ (by omega) (by omega)]); simp only [intOf]; omega
    · obtain rfl : k = ng := by omega
      have HR := Lib.hid hr
      have HBJ := Lib.hid hb
      clear hr hb
      go_wp2
      go_ret
      exact ⟨_, rfl, HR.out.base HB.out.size, HB0.out _ HBJ.out⟩
end Go.Proofs.Ytmbogdimjbhbmaa
