/- Merged texts: AmbCommon, AmbHoles, AmbHolesAny, AmbCount. -/
import Derived.Test.YtnjlgllpfbkdoaaGreatDoorGr
import Derived.Test.YtnjlgllpfbkdoaaGreatDoorGs
import Derived.Test.YtnjlgllpfbkdoaaGreatDoorGe
namespace Go.Proofs.YtnjlgllpfbkdoaaGreatDoor
open Go.RowKit Go.Instr
set_option linter.unusedVariables false
set_option linter.unusedSimpArgs false
set_option maxRecDepth 100000

def comW (a b : Shp) : Nat := a.mtch ||| b.mtch
def comB (a b : Shp) : Bool := hasR a (comW a b) && hasR b (comW a b)
def comR (a b : Shp) : Nat := if comB a b then comW a b else 0
set_option warningAsError false in
set_option maxHeartbeats 2000000 in
theorem common_any (w : World) (va vb : Value) (a b : Shp) (hva : ShpV w va a) (hvb : ShpV w vb b) (ha : ShpOk a) (hb : ShpOk b) (ha2 : comW a b < 2 ^ a.size.toNat) (hb2 : comW a b < 2 ^ b.size.toNat) :
    Calls Tryz.prog 42 #[va, vb] w fun e w' => e = .returned (.tuple #[.int .u64 (comR a b : Nat), .bool (comB a b)]) ∧ Below w.heap.size w w' := by
  have hva' := hva
  have hvb' := hvb
  obtain ⟨sa, rfl, hsa, hma, hfa, _⟩ := hva
  obtain ⟨sb, rfl, hsb, hmb, hfb, _⟩ := hvb
  obtain ⟨W1, hW1⟩ : ∃ W1, W1 = (w.alloc (.cells #[.int .i64 a.size, .int .u64 (a.mtch : Nat), .int .u64 (a.free : Nat), sa] 87)).alloc (.cells #[.int .i64 b.size, .int .u64 (b.mtch : Nat), .int .u64 (b.free : Nat), sb] 87) := ⟨_, rfl⟩
  have hb1 : Below w.heap.size w W1 := by rw [hW1]; exact ((Below.refl _ _).alloc (Nat.le_refl _) _).alloc (by simp) _
  have hblkA : W1.heap[w.heap.size]? = some (.cells #[.int .i64 a.size, .int .u64 (a.mtch : Nat), .int .u64 (a.free : Nat), sa] 87) := by rw [hW1, Below.heap_alloc _ _ _ (by simp)]; exact heap_alloc_new _ _
  have hblkB : W1.heap[w.heap.size + 1]? = some (.cells #[.int .i64 b.size, .int .u64 (b.mtch : Nat), .int .u64 (b.free : Nat), sb] 87) := by
    rw [hW1]
    have := heap_alloc_new (w.alloc (.cells #[.int .i64 a.size, .int .u64 (a.mtch : Nat), .int .u64 (a.free : Nat), sa] 87)) (.cells #[.int .i64 b.size, .int .u64 (b.mtch : Nat), .int .u64 (b.free : Nat), sb] 87)
    simpa using this
  have hs1 : W1.heap.size = w.heap.size + 2 := by rw [hW1]; simp
  have HQ := Lib.hid (show ∀ X, Below W1.heap.size W1 X → X.cell? ⟨w.heap.size, 0, none⟩ = some (.int .i64 a.size) ∧ X.cell? ⟨w.heap.size, 1, none⟩ = some (.int .u64 (a.mtch : Nat)) ∧ X.cell? ⟨w.heap.size, 2, none⟩ = some (.int .u64 (a.free : Nat)) ∧ X.cell? ⟨w.heap.size, 3, none⟩ = some sa ∧ X.cell? ⟨w.heap.size + 1, 0, none⟩ = some (.int .i64 b.size) ∧ X.cell? ⟨w.heap.size + 1, 1, none⟩ = some (.int .u64 (b.mtch : Nat)) ∧ X.cell? ⟨w.heap.size + 1, 2, none⟩ = some (.int .u64 (b.free : Nat)) ∧ X.cell? ⟨w.heap.size + 1, 3, none⟩ = some sb from fun X hX => by
    have e1 := (hX.block _ (by omega)).trans hblkA
    have e2 := (hX.block _ (by omega)).trans hblkB
    exact ⟨cell_of e1 rfl, cell_of e1 rfl, cell_of e1 rfl, cell_of e1 rfl, cell_of e2 rfl, cell_of e2 rfl, cell_of e2 rfl, cell_of e2 rfl⟩)
  obtain ⟨q0, q1, q2, q3, q4, q5, q6, q7⟩ := HQ.out W1 (Below.refl _ _)
  have HGR := Lib.hid (show ∀ X, Below W1.heap.size W1 X → Below w.heap.size w X from fun X hX => hb1.trans (hX.mono hb1.size))
  have HF1 := Lib.hid (Below.refl W1.heap.size W1)
  obtain ⟨wd, hwd⟩ : ∃ z, comW a b = z := ⟨_, rfl⟩
  obtain ⟨ga, hga⟩ : ∃ z, hasR a wd = z := ⟨_, rfl⟩
  obtain ⟨gb, hgb⟩ : ∃ z, hasR b wd = z := ⟨_, rfl⟩
  have HHA := Lib.hid (show ∀ X, Below W1.heap.size W1 X → Calls Tryz.prog 33 #[.agg #[.int .i64 a.size, .int .u64 (a.mtch : Nat), .int .u64 (a.free : Nat), sa], .int .u64 wd] X fun e w' => e = .returned (.bool ga) ∧ Below W1.heap.size W1 w' from fun X hX => (has_any X _ a (hva'.kept (HGR.out X hX)) ha wd (by rw [← hwd]; exact ha2)).mono fun e w' ⟨h1, h2⟩ => ⟨by rw [h1, hga], hX.trans (h2.mono hX.size)⟩)
  have HHB := Lib.hid (show ∀ X, Below W1.heap.size W1 X → Calls Tryz.prog 33 #[.agg #[.int .i64 b.size, .int .u64 (b.mtch : Nat), .int .u64 (b.free : Nat), sb], .int .u64 wd] X fun e w' => e = .returned (.bool gb) ∧ Below W1.heap.size W1 w' from fun X hX => (has_any X _ b (hvb'.kept (HGR.out X hX)) hb wd (by rw [← hwd]; exact hb2)).mono fun e w' ⟨h1, h2⟩ => ⟨by rw [h1, hgb], hX.trans (h2.mono hX.size)⟩)
  have hcb : comB a b = (ga && gb) := by unfold comB; rw [hwd, hga, hgb]
  have hcr : comR a b = if (ga && gb) then wd else 0 := by unfold comR; rw [hcb, hwd]
  have hor : bits .or .u64 (a.mtch : Int) (b.mtch : Int) = ((wd : Nat) : Int) := by rw [← hwd]; exact u64_or_nat _ _ hma hmb
  rw [hcb, hcr]
  rw [hW1] at q0 q1 q2 q3 q4 q5 q6 q7
  have HW1 := Lib.hid hW1
  have HOR := Lib.hid hor
  obtain ⟨am, ham⟩ : ∃ z, a.mtch = z := ⟨_, rfl⟩
  obtain ⟨bm, hbm⟩ : ∃ z, b.mtch = z := ⟨_, rfl⟩
  clear hva' hvb' hsa hma hfa hsb hmb hfb hW1 hb1 hblkA hblkB hs1 hwd hga hgb hcb hcr ha hb ha2 hb2 ham hbm
  cases ga with
  | false =>
    have hor := HOR.out
    go_enter Tryz.func42, Tryz.ntmps42
    go_wp2_with (go_at_call 33; (with_reducible refine (HHA.out _ (by first | assumption | (rw [← HW1.out]; exact HF1.out))).mono ?_); rintro e w3 ⟨rfl, hb3⟩)
    exact bodyPost_ret (v := .tuple #[.int .u64 0, .bool false]) (by simp [results, Tryz.results42, go_sem]) rfl ⟨rfl, HGR.out _ hb3⟩
  | true =>
    cases gb with
    | false =>
      have hor := HOR.out
      go_enter Tryz.func42, Tryz.ntmps42
      go_wp2_with (first
        | (go_at_call 33; (with_reducible refine (HHA.out _ (by first | assumption | (rw [← HW1.out]; exact HF1.out))).mono ?_); rintro e w3 ⟨rfl, hb3⟩; obtain ⟨r0, r1, r2, r3, r4, r5, r6, r7⟩ := HQ.out _ hb3)
        | (go_at_call 33; (with_reducible refine (HHB.out _ (by assumption)).mono ?_); rintro e w4 ⟨rfl, hb4⟩))
      exact bodyPost_ret (v := .tuple #[.int .u64 0, .bool false]) (by simp [results, Tryz.results42, go_sem]) rfl ⟨rfl, HGR.out _ hb4⟩
    | true =>
      have hor := HOR.out
      go_enter Tryz.func42, Tryz.ntmps42
      go_wp2_with (first
        | (go_at_call 33; (with_reducible refine (HHA.out _ (by first | assumption | (rw [← HW1.out]; exact HF1.out))).mono ?_); rintro e w3 ⟨rfl, hb3⟩; obtain ⟨r0, r1, r2, r3, r4, r5, r6, r7⟩ := HQ.out _ hb3)
        | (go_at_call 33; (with_reducible refine (HHB.out _ (by assumption)).mono ?_); rintro e w4 ⟨rfl, hb4⟩))
      exact bodyPost_ret (v := .tuple #[.int .u64 (wd : Nat), .bool true]) (by simp [results, Tryz.results42, go_sem]) rfl ⟨rfl, HGR.out _ hb4⟩
end Go.Proofs.YtnjlgllpfbkdoaaGreatDoor
namespace Go.Proofs.YtnjlgllpfbkdoaaGreatDoor
open Go.RowKit Go.Instr
set_option linter.unusedVariables false
set_option linter.unusedSimpArgs false
set_option maxRecDepth 100000

set_option maxHeartbeats 4000000 in
theorem idx_shape (v : Value) (L : List Shp) (w : World) (hR : RowsAt 4 shpE w v L) (g : Nat) (lb : Array Value) (eg : ∀ args w, (callFunc g args).run Tryz.prog w = .ok (.enter g args) w) (p : Shp → Bool) (hp : Says shpE w g lb p L) :
    Calls Tryz.prog 68 #[v, .func (.func g) #[] lb] w fun e w' => e = .returned (.int .i64 (ixF p L)) ∧ Below w.heap.size w w' := by
  have HR := Lib.hid hR
  have HP := Lib.hid hp
  obtain ⟨A, c, rfl, hn1, _, _, _⟩ := hR
  obtain ⟨n, hn⟩ : ∃ n, L.length = n := ⟨_, rfl⟩
  have HN := Lib.hid hn
  have hmx : maxLen ≤ 9223372036854775807 := by decide
  rw [hn] at hn1 ⊢
  have hn2 : n ≤ 9223372036854775807 := Nat.le_trans hn1 hmx
  clear hp hn1 hmx hn
  go_enter Tryz.func68, Tryz.ntmps68
  go_wp2
  go_loopw [5, 8] (fun _ v wr => ∃ i : Nat, v = .int .i64 i ∧ i ≤ n ∧ Hid (Below w.heap.size w wr ∧ ∀ j y, j < i → L[j]? = some y → p y = false)) (fun _ v _ => n - (intOf v).toNat)
  case atStart => exact ⟨0, rfl, Nat.zero_le _, Lib.hid ⟨Below.refl _ _, fun j y hj => absurd hj (Nat.not_lt_zero _)⟩⟩
  case round =>
    obtain ⟨i, rfl, hi, HI⟩ := hrel
    by_cases hlt : i < n
    · obtain ⟨x, hx⟩ : ∃ x, L[i]? = some x := ⟨_, List.getElem?_eq_getElem (by rw [HN.out]; exact hlt)⟩
      obtain ⟨A', c', e1, _, _, _, hall⟩ := HR.out.kept (fun cs x hx => shpE.kept hx HI.out.1) HI.out.1
      obtain ⟨b, o, cs, e2, hb, hcl, hcell, hE⟩ := hall i x hx
      obtain ⟨rfl, rfl⟩ : A = A' ∧ c = c' := by cases e1; exact ⟨rfl, rfl⟩
      subst e2
      have hcall := HP.out wr HI.out.1 x (List.mem_of_getElem? hx) cs hE
      have HX := Lib.hid hx
      have HLT := Lib.hid hlt
      clear hE hx e1
      match cs, hcl with
      | [u0, u1, u2, u3], _ =>
      have c0 : wr.cell? ⟨b, o + i * 4, none⟩ = some u0 := hcell 0 _ rfl
      have c1 : wr.cell? ⟨b, o + i * 4 + 1, none⟩ = some u1 := hcell 1 _ rfl
      have c2 : wr.cell? ⟨b, o + i * 4 + 2, none⟩ = some u2 := hcell 2 _ rfl
      have c3 : wr.cell? ⟨b, o + i * 4 + 3, none⟩ = some u3 := hcell 3 _ rfl
      have hcall : Calls Tryz.prog g (#[.agg #[u0, u1, u2, u3]] ++ lb) wr fun e w' => e = .returned (.bool (p x)) ∧ Below w.heap.size w w' := hcall.mono fun e w' ⟨h1, h2⟩ => ⟨h1, HI.out.1.trans (h2.mono HI.out.1.size)⟩
      clear hall hcell
      cases hq : p x with
      | true =>
        have HQ := Lib.hid hq
        rw [hq] at hcall
        have HCL := Lib.hid hcall
        clear hq hcall
        go_wp2_with ((with_reducible refine HCL.out.mono ?_); rintro e w' ⟨rfl, hb'⟩)
        go_ret
        exact ⟨by rw [ixF_hit HX.out HQ.out HI.out.2]; rfl, hb'⟩
      | false =>
        have HQ := Lib.hid hq
        rw [hq] at hcall
        have HCL := Lib.hid hcall
        clear hq hcall
        go_wp2_with ((with_reducible refine HCL.out.mono ?_); rintro e w' ⟨rfl, hb'⟩)
        go_roundw
        case rel =>
          refine ⟨i + 1, by first | rfl | go_num | (congr 1), by have := HLT.out; omega, Lib.hid ⟨hb', fun j y hj hy => ?_⟩⟩
          by_cases e : j = i
          · subst e
            rw [HX.out] at hy
            obtain rfl := Option.some.inj hy
            exact HQ.out
          · exact HI.out.2 j y (by omega) hy
        case measure => simp only [intOf]; have := HLT.out; omega
    · obtain rfl : i = n := by omega
      go_wp2
      go_ret
      exact ⟨by rw [ixF_miss (by rw [HN.out]; exact HI.out.2)]; rfl, HI.out.1⟩

theorem cont_shape (v : Value) (L : List Shp) (w : World) (hR : RowsAt 4 shpE w v L) (g : Nat) (lb : Array Value) (eg : ∀ args w, (callFunc g args).run Tryz.prog w = .ok (.enter g args) w) (p : Shp → Bool) (hp : Says shpE w g lb p L) :
    Calls Tryz.prog 45 #[v, .func (.func g) #[] lb] w fun e w' => e = .returned (.bool (L.any p)) ∧ Below w.heap.size w w' := by
  have HC := Lib.hid (idx_shape v L w hR g lb eg p hp)
  rw [← ixF_any p L]
  clear hR hp eg
  go_enter Tryz.func45, Tryz.ntmps45
  go_wp2_with (go_at_call 68; (with_reducible refine HC.out.mono ?_); rintro e w1 ⟨rfl, hb⟩)
  go_ret
  exact ⟨rfl, hb⟩
theorem holes1_any (W : World) (b : Nat) (x : Nat) (hb : b < W.heap.size) (hc : W.cell? ⟨b, 0, none⟩ = some (.int .u64 (x : Nat))) (s : Shp) (cs : List Value) (hE : shpE W cs s) (hok : ShpOk s) (hx : x < 2 ^ s.size.toNat) :
    Calls Tryz.prog 46 (#[.agg cs.toArray] ++ #[.pointer (some ⟨b, 0, none⟩)]) W fun e w' => e = .returned (.bool (hasR s x)) ∧ Below W.heap.size W w' := by
  have hE0 := hE
  obtain ⟨sf, rfl, _⟩ := hE
  have hb1 : Below W.heap.size W (W.alloc (.cells #[.int .i64 s.size, .int .u64 (s.mtch : Nat), .int .u64 (s.free : Nat), sf] 87)) := (Below.refl _ _).alloc (Nat.le_refl _) _
  have hc1 : (W.alloc (.cells #[.int .i64 s.size, .int .u64 (s.mtch : Nat), .int .u64 (s.free : Nat), sf] 87)).cell? ⟨b, 0, none⟩ = some (.int .u64 (x : Nat)) := by rw [hb1.cell hb]; exact hc
  have HH := Lib.hid ((has_any (W.alloc (.cells #[.int .i64 s.size, .int .u64 (s.mtch : Nat), .int .u64 (s.free : Nat), sf] 87)) _ s (shpV_of (hE0.kept hb1)) hok x hx).mono (R' := fun e w' => e = .returned (.bool (hasR s x)) ∧ Below W.heap.size W w') fun e w' ⟨h1, h2⟩ => ⟨h1, hb1.trans (h2.mono hb1.size)⟩)
  obtain ⟨r, hr⟩ : ∃ z, hasR s x = z := ⟨_, rfl⟩
  rw [hr] at HH ⊢
  clear hE0 hb1 hok hx hr hc
  show Calls Tryz.prog 46 #[.agg #[.int .i64 s.size, .int .u64 (s.mtch : Nat), .int .u64 (s.free : Nat), sf], .pointer (some ⟨b, 0, none⟩)] W _
  go_enter Tryz.func46, Tryz.ntmps46
  go_wp2_with (go_at_call 33; (with_reducible refine HH.out.mono ?_); rintro e w3 ⟨rfl, hb3⟩)
  exact bodyPost_ret (v := .bool r) (by simp [results, Tryz.results46, go_sem]) rfl ⟨rfl, hb3⟩
theorem holes1_says {w : World} {b x : Nat} (hb : b < w.heap.size) (hc : w.cell? ⟨b, 0, none⟩ = some (.int .u64 (x : Nat))) {L : List Shp} (hL : ∀ s ∈ L, ShpOk s ∧ x < 2 ^ s.size.toNat) : Says shpE w 46 #[.pointer (some ⟨b, 0, none⟩)] (fun s => hasR s x) L :=
  fun W hW s hs cs hE => holes1_any W b x (Nat.lt_of_lt_of_le hb hW.size) (by rw [hW.cell hb]; exact hc) s cs hE (hL s hs).1 (hL s hs).2
theorem en_holes1 : ∀ (args : Array Value) (w : World), (callFunc 46 args).run Tryz.prog w = .ok (.enter 46 args) w := fun _ _ => by kernel_rfl
def u64C (w : World) (cs : List Value) (x : Nat) : Prop := cs = [.int .u64 (x : Nat)] ∧ x < 18446744073709551616
noncomputable def holErr (m : Mach) (fr : Nat) (n : Int) : Int := if chkR m = 0 then (if 0 ≤ n ∧ n ≤ 4096 then (if fr ≤ endR m ∧ n.toNat ≤ endR m - fr then 0 else 24) else 2) else chkR m
/-- Whether a word is a hole. -/
def holeB (L : List Shp) (fr i : Nat) : Bool := !(L.any fun s => hasR s (fr + i))
def holeK (L : List Shp) (fr k : Nat) : List Nat := (plK (holeB L fr) k).map fun i => fr + i
noncomputable def holL (m : Mach) (fr : Nat) (n : Int) : List Nat := if holErr m fr n = 0 then holeK (m.instrs.map (shapeR m)) fr n.toNat else []
theorem holeK_succ (L : List Shp) (fr k : Nat) : holeK L fr (k + 1) = holeK L fr k ++ (if holeB L fr k then [fr + k] else []) := by
  unfold holeK
  rw [plK_succ, List.map_append]
  cases holeB L fr k <;> rfl
theorem holeK_len (L : List Shp) (fr k : Nat) : (holeK L fr k).length ≤ k := by unfold holeK; rw [List.length_map]; exact plK_le _ _
theorem u64_info : (Tryz.prog.info? 28).map (fun i => (i.zero, i.size, i.bytes)) = some (some (.int .u64 0), 1, 8) := by kernel_rfl
end Go.Proofs.YtnjlgllpfbkdoaaGreatDoor
namespace Go.Proofs.YtnjlgllpfbkdoaaGreatDoor
open Go.RowKit Go.Instr
set_option linter.unusedVariables false
set_option linter.unusedSimpArgs false
set_option maxRecDepth 100000

set_option warningAsError false in
set_option maxHeartbeats 4000000 in
theorem holes_any (w : World) (v : Value) (m : Mach) (hm : MachV w v m) (hT : ShapesAt w) (hef : ∀ x ∈ m.instrs, ∀ f ∈ x.effs, EffOk f) (fr : Nat) (hfr : fr < 18446744073709551616) (cn : Int) (hcn : -9223372036854775808 ≤ cn ∧ cn ≤ 9223372036854775807) :
    Calls Tryz.prog 21 #[v, .int .u64 fr, .int .i64 cn] w fun e w' => ∃ sv, e = .returned (.tuple #[sv, .int .i64 (holErr m fr cn)]) ∧ RowsAt 1 u64C w' sv (holL m fr cn) ∧ Below w.heap.size w w' := by
  have hm' := hm
  obtain ⟨cs0, rfl, sr, sb, su, si, hcs, h1, h2, h3, hR, hB, hU, hI⟩ := hm
  obtain rfl : cs0 = #[.string m.name, .int .i64 m.word, .int .i64 m.address, sr, sb, su, si] := by cases cs0; simp_all
  obtain ⟨W1, hW1⟩ : ∃ W1, W1 = w.alloc (.cells #[.string m.name, .int .i64 m.word, .int .i64 m.address, sr, sb, su, si] 27) := ⟨_, rfl⟩
  have hb1 : Below w.heap.size w W1 := by rw [hW1]; exact (Below.refl _ _).alloc (Nat.le_refl _) _
  have hl1 : w.heap.size < W1.heap.size := by rw [hW1]; simp
  have hblk1 : W1.heap[w.heap.size]? = some (.cells #[.string m.name, .int .i64 m.word, .int .i64 m.address, sr, sb, su, si] 27) := by rw [hW1]; exact heap_alloc_new _ _
  have HQ := Lib.hid (show ∀ X, Below W1.heap.size W1 X → X.cell? ⟨w.heap.size, 0, none⟩ = some (.string m.name) ∧ X.cell? ⟨w.heap.size, 1, none⟩ = some (.int .i64 m.word) ∧ X.cell? ⟨w.heap.size, 2, none⟩ = some (.int .i64 m.address) ∧ X.cell? ⟨w.heap.size, 3, none⟩ = some sr ∧ X.cell? ⟨w.heap.size, 4, none⟩ = some sb ∧ X.cell? ⟨w.heap.size, 5, none⟩ = some su ∧ X.cell? ⟨w.heap.size, 6, none⟩ = some si from fun X hX => by
    have e1 := (hX.block _ hl1).trans hblk1
    exact ⟨cell_of e1 rfl, cell_of e1 rfl, cell_of e1 rfl, cell_of e1 rfl, cell_of e1 rfl, cell_of e1 rfl, cell_of e1 rfl⟩)
  have HGR := Lib.hid (show ∀ X, Below W1.heap.size W1 X → Below w.heap.size w X from fun X hX => hb1.trans (hX.mono hb1.size))
  obtain ⟨ce, hce⟩ : ∃ y, chkR m = y := ⟨_, rfl⟩
  have hMV : ∀ X, Below W1.heap.size W1 X → MachV X (.agg #[.string m.name, .int .i64 m.word, .int .i64 m.address, sr, sb, su, si]) m := fun X hX => hm'.kept (HGR.out X hX)
  have HCI := Lib.hid ((amCheck_any W1 (.agg #[.string m.name, .int .i64 m.word, .int .i64 m.address, sr, sb, su, si]) m (hMV _ (Below.refl _ _)) (hT.below hb1) hef (.slice none 0 0) [] rows_nil (by simp)).mono (R' := fun e w' => e = .returned (.int .i64 ce) ∧ Below W1.heap.size W1 w') fun e w' ⟨h1, h2⟩ => ⟨by rw [h1, amErr_nil, hce], h2⟩)
  rw [hW1] at HCI
  have HW1 := Lib.hid hW1
  have CL : True := trivial
  by_cases hk : ce = 0
  · subst hk
    have hwd := word_of hce
    obtain ⟨en, hen⟩ : ∃ y, endR m = y := ⟨_, rfl⟩
    have hen32 : en ≤ 4294967296 := by rw [← hen]; exact pow_le32 (by omega)
    have HEN := Lib.hid (show ∀ X, Below W1.heap.size W1 X → Calls Tryz.prog 31 #[.agg #[.string m.name, .int .i64 m.word, .int .i64 m.address, sr, sb, su, si]] X fun e w' => e = .returned (.int .u64 (en : Nat)) ∧ Below W1.heap.size W1 w' from fun X hX => (end_any X _ m (hMV X hX) hwd).mono fun e w' ⟨h1, h2⟩ => ⟨by rw [h1, hen], hX.trans (h2.mono hX.size)⟩)
    by_cases hrange : 0 ≤ cn ∧ cn ≤ 4096
    · obtain ⟨n, rfl⟩ : ∃ n : Nat, cn = (n : Int) := ⟨cn.toNat, by omega⟩
      have hn : n ≤ 4096 := by omega
      have hwn : IntKind.u64.wrap (n : Int) = (n : Int) := by have := wrap_nat n n (by omega); exact this
      have hg0 : ¬ (n : Int) < 0 := by omega
      have hg1 : ¬ (n : Int) > 4096 := by omega
      by_cases hA : fr ≤ en ∧ n ≤ en - fr
      · have hhe : holErr m fr (n : Int) = 0 := by unfold holErr; rw [if_pos hce, if_pos hrange, hen, Int.toNat_natCast, if_pos hA]
        obtain ⟨L, hL⟩ : ∃ y, m.instrs.map (shapeR m) = y := ⟨_, rfl⟩
        have hhl : holL m fr (n : Int) = holeK L fr n := by unfold holL; rw [if_pos hhe, hL, Int.toNat_natCast]
        have hLS : ∀ s ∈ L, ShpOk s ∧ s.size = 8 * m.word := fun s hs => by
          rw [← hL] at hs
          obtain ⟨i, hi, rfl⟩ := List.mem_map.1 hs
          exact ⟨shpOk_of hce hi, rfl⟩
        have HSH := Lib.hid (show ∀ X, Below W1.heap.size W1 X → Calls Tryz.prog 39 #[.agg #[.string m.name, .int .i64 m.word, .int .i64 m.address, sr, sb, su, si]] X fun e w' => ∃ (As : Option Addr) (ls cs : Nat), e = .returned (.slice As ls cs) ∧ RowsAt 4 shpE w' (.slice As ls cs) L ∧ Below W1.heap.size W1 w' from fun X hX => (shapes_any X _ m (hMV X hX) (fun i hi => insOk_of hce hi) (lim_ins hce)).mono fun e w' ⟨sv, h1, h2, h3⟩ => by
          obtain ⟨As, cs, e1, _⟩ := id h2
          subst e1
          exact ⟨As, _, cs, h1, hL ▸ h2, hX.trans (h3.mono hX.size)⟩)
        have HCO := Lib.hid (show ∀ sv X b (i : Nat), i < n → b < X.heap.size → RowsAt 4 shpE X sv L → X.cell? ⟨b, 0, none⟩ = some (.int .u64 ((fr + i : Nat) : Int)) → Calls Tryz.prog 45 #[sv, .func (.func 46) #[] #[.pointer (some ⟨b, 0, none⟩)]] X fun e w' => e = .returned (.bool (!(holeB L fr i))) ∧ Below X.heap.size X w' from fun sv X b i hi hb hr hc => (cont_shape sv L X hr _ _ en_holes1 (fun s => hasR s (fr + i)) (holes1_says hb hc fun s hs => ⟨(hLS s hs).1, by rw [(hLS s hs).2]; unfold endR at hen; rw [hen]; omega⟩)).mono fun e w' ⟨h1, h2⟩ => ⟨by rw [h1]; unfold holeB; simp, h2⟩)
        have hgA : ¬ (en : Nat) < fr := by omega
        have hsub : IntKind.u64.wrap ((en : Int) - (fr : Int)) = ((en - fr : Nat) : Int) := by
          have := wrap_nat (en - fr) (en - fr) (by omega)
          rw [← this]; congr 1; omega
        have hgB : ¬ (en - fr : Nat) < n := by omega
        obtain ⟨df, hdf⟩ : ∃ z, en - fr = z := ⟨_, rfl⟩
        rw [hdf] at hsub hgB
        obtain ⟨i0, hi0, hz0, hz1, hz2⟩ := info_parts u64_info
        have HI0 := Lib.hid hi0
        have HZ0 := Lib.hid hz0
        have HZ1 := Lib.hid hz1
        have HZ2 := Lib.hid hz2
        have HA := Lib.hid hA
        have HE32 := Lib.hid hen32
        have HNN := Lib.hid hn
        rw [hhe, hhl]
        clear hhe hhl hce hT hef hMV hm' hcs h1 h2 h3 hR hB hU hI hW1 hb1 hl1 hblk1 hrange hA hL hLS hen hen32 hwd hdf hi0 hz0 hz1 hz2 hfr hcn
        go_enter Tryz.func21, Tryz.ntmps21
        go_wp2_with (first
          | (go_at_call 30; (with_reducible refine HCI.out.mono ?_); rintro e w3 ⟨rfl, hb3⟩; rw [← HW1.out] at hb3; obtain ⟨p0, p1, p2, p3, p4, p5, p6⟩ := HQ.out _ hb3)
          | (go_at_call 31; (with_reducible refine (HEN.out _ (by assumption)).mono ?_); rintro e w4 ⟨rfl, hb4⟩; obtain ⟨q0, q1, q2, q3, q4, q5, q6⟩ := HQ.out _ hb4)
          | (go_at_call 39; (with_reducible refine (HSH.out _ (by assumption)).mono ?_); rintro e w5 ⟨As, ls, cs, rfl, hr5, hb5⟩))
        have HR5 := Lib.hid hr5
        have HB5 := Lib.hid hb5
        clear hr5 hb5 p0 p1 p2 p3 p4 p5 p6 q0 q1 q2 q3 q4 q5 q6
        go_loopw [10, 41] (fun vv vi wr => ∃ i : Nat, vi = .int .u64 i ∧ i ≤ n ∧ Hid (∃ C, Below w5.heap.size w5 wr ∧ wr.ownsRow w5.heap.size 28 1 vv (holeK L fr i).length C.flatten ∧ OwnOf 1 u64C wr C (holeK L fr i))) (fun _ vi _ => n - (intOf vi).toNat)
        case atStart => exact ⟨0, rfl, Nat.zero_le _, Lib.hid ⟨[], Below.refl _ _, World.ownsRow_nil _ _ _ _, OwnOf.nil⟩⟩
        case round =>
          obtain ⟨i, rfl, hi, HJ⟩ := hrel
          obtain ⟨C, hbw, hown, hOw⟩ := HJ.out
          by_cases hlt : i < n
          · have hsu := holeK_succ L fr i
            have hle := holeK_len L fr i
            have hbound : fr + i < 18446744073709551616 := by have := HA.out; have := HE32.out; omega
            have hwr : IntKind.u64.wrap ((fr : Int) + (i : Int)) = ((fr + i : Nat) : Int) := by have := wrap_nat (fr + i) (fr + i) (by omega); simpa using this
            have hw1 : IntKind.u64.wrap ((i : Int) + 1) = ((i + 1 : Nat) : Int) := by have := HNN.out; have := wrap_nat (i + 1) (i + 1) (by omega); simpa using this
            obtain ⟨wd, hwd⟩ : ∃ z, fr + i = z := ⟨_, rfl⟩
            obtain ⟨W6, hW6⟩ : ∃ z, z = wr.alloc (.cells #[.int .u64 (wd : Nat)] 28) := ⟨_, rfl⟩
            have hb6 : Below wr.heap.size wr W6 := by rw [hW6]; exact (Below.refl _ _).alloc (Nat.le_refl _) _
            have hblk6 : W6.heap[wr.heap.size]? = some (.cells #[.int .u64 (wd : Nat)] 28) := by rw [hW6]; exact heap_alloc_new _ _
            have hbw6 := hbw.trans (hb6.mono hbw.size)
            obtain ⟨q, hq⟩ : ∃ q, holeB L fr i = q := ⟨_, rfl⟩
            have hcall := HCO.out (.slice As ls cs) W6 wr.heap.size i hlt (by rw [hW6]; simp) (HR5.out.kept (fun cs x hx => shpE.kept hx hbw6) hbw6) (by rw [hwd]; exact cell_of hblk6 rfl)
            rw [hq] at hcall hsu
            have r0 := cell_of hblk6 (i := 0) rfl
            have HC6 := Lib.hid (show ∀ X, Below W6.heap.size W6 X → X.cell? ⟨wr.heap.size, 0, none⟩ = some (.int .u64 (wd : Nat)) from fun X hX => cell_of ((hX.block _ (by rw [hW6]; simp)).trans hblk6) rfl)
            rw [hwd] at hwr hbound
            rw [hW6] at hcall r0
            have HCL := Lib.hid hcall
            have HW6 := Lib.hid hW6
            have HB6 := Lib.hid hb6
            have HBW6 := Lib.hid hbw6
            have HLT := Lib.hid hlt
            have HLE := Lib.hid hle
            have HOWN := Lib.hid hown
            have HOW := Lib.hid hOw
            have HBD := Lib.hid hbound
            have HSU := Lib.hid hsu
            have HWD := Lib.hid hwd
            have hin : (i : Int) < (n : Int) := by omega
            clear hbw hown hOw HJ hsu hle hbound hwd hW6 hb6 hblk6 hbw6 hcall hq
            cases q with
            | false =>
              go_wp2_with (go_at_call 45; (with_reducible refine HCL.out.mono ?_); rintro e w7 ⟨rfl, hb7⟩; rw [← HW6.out] at hb7)
              have HB7 := Lib.hid hb7
              clear hb7
              go_roundw
              case rel =>
                refine ⟨i + 1, by first | rfl | go_num | (congr 1), by have := HLT.out; omega, Lib.hid ⟨C, HBW6.out.trans (HB7.out.mono HBW6.out.size), ?_, ?_⟩⟩
                · rw [HSU.out]; simp only [Bool.false_eq_true, if_false, List.append_nil]; exact own_kept (own_kept HOWN.out HB6.out) HB7.out
                · rw [HSU.out]; simp only [Bool.false_eq_true, if_false, List.append_nil]; exact HOW.out.kept fun cs x h => h
              case measure => simp only [intOf]; have := HLT.out; omega
            | true =>
              go_wp2_with (first
                | (go_at_call 45; (with_reducible refine HCL.out.mono ?_); rintro e w7 ⟨rfl, hb7⟩; rw [← HW6.out] at hb7; have z0 := HC6.out _ hb7)
                | (at_builtin; refine Hid.out ?_))
              refine Lib.hid ?_
              refine wpList_append_own _ rfl _ _ 53 rfl w5.heap.size 28 i0 (.int .u64 0) 1 8 Tryz.underlying53 HI0.out HZ0.out HZ1.out HZ2.out rfl (by decide) _ (holeK L fr i).length C.flatten rfl (World.ownsRow.alloc (own_kept (own_kept HOWN.out HB6.out) hb7) _) ⟨_, 0, none⟩ 1 1 [.int .u64 (wd : Nat)] rfl rfl (one_cells _ _ _ _ rfl) (by intro u hu; simp at hu; subst hu; rfl) (by have := HLE.out; have := HLT.out; have := HNN.out; unfold maxLen; omega) (by have := HLE.out; have := HLT.out; have := HNN.out; omega) (by have := HBW6.out.size; have := hb7.size; simp; omega) ?_
              intro v' w9 hown' hgrow _
              have hb9 : Below w5.heap.size w5 w9 := by
                have h0 := HBW6.out.trans (hb7.mono HBW6.out.size)
                exact (h0.alloc h0.size (.cells #[.int .u64 (wd : Nat)] 28)).grown hgrow (by have := h0.size; simp; omega) (fun r hr => (HOWN.out.lt r hr).1)
              have HNX := Lib.hid (show ∃ C, Below w5.heap.size w5 w9 ∧ w9.ownsRow w5.heap.size 28 1 v' (holeK L fr (i + 1)).length C.flatten ∧ OwnOf 1 u64C w9 C (holeK L fr (i + 1)) from by
                refine ⟨C ++ [[.int .u64 (wd : Nat)]], hb9, ?_, ?_⟩
                · rw [HSU.out, List.flatten_append]
                  simp only [if_true, List.length_append]
                  simpa using hown'
                · rw [HSU.out, HWD.out]
                  simp only [if_true]
                  exact (HOW.out.kept fun cs x h => h).snoc rfl ⟨rfl, HBD.out⟩)
              clear hown' hgrow hb9 hb7
              go_wp2
              go_roundw
              case rel => exact ⟨i + 1, by first | rfl | go_num | (congr 1), by have := HLT.out; omega, HNX⟩
              case measure => simp only [intOf]; have := HLT.out; omega
          · obtain rfl : i = n := by omega
            have HF := Lib.hid (rows_own hown hOw (by have := holeK_len L fr i; have := HNN.out; unfold maxLen; omega))
            have HBF := Lib.hid (HGR.out _ (HB5.out.trans (hbw.mono HB5.out.size)))
            have hin : ¬ (i : Int) < (i : Int) := by omega
            clear hbw hown hOw HJ
            go_wp2
            exact bodyPost_ret (v := .tuple #[u10, .int .i64 0]) (by simp [results, Tryz.results21, go_sem]) rfl ⟨_, rfl, HF.out, HBF.out⟩
      · have hhe : holErr m fr (n : Int) = 24 := by unfold holErr; rw [if_pos hce, if_pos hrange, hen, Int.toNat_natCast, if_neg hA]
        have hhl : holL m fr (n : Int) = [] := by unfold holL; rw [if_neg (by rw [hhe]; decide)]
        rw [hhe, hhl]
        by_cases hA1 : en < fr
        · clear hhe hhl hce hT hef hMV hm' hcs h1 h2 h3 hR hB hU hI hW1 hb1 hl1 hblk1 hfr hcn hA hen
          go_enter Tryz.func21, Tryz.ntmps21
          go_wp2_with (first
            | (go_at_call 30; (with_reducible refine HCI.out.mono ?_); rintro e w3 ⟨rfl, hb3⟩; rw [← HW1.out] at hb3; obtain ⟨p0, p1, p2, p3, p4, p5, p6⟩ := HQ.out _ hb3)
            | (go_at_call 31; (with_reducible refine (HEN.out _ (by assumption)).mono ?_); rintro e w4 ⟨rfl, hb4⟩; obtain ⟨q0, q1, q2, q3, q4, q5, q6⟩ := HQ.out _ hb4))
          exact bodyPost_ret (v := .tuple #[.slice none 0 0, .int .i64 24]) (by simp [results, Tryz.results21, go_sem]) rfl ⟨_, rfl, rows_nil, HGR.out _ (by assumption)⟩
        · have hgA : ¬ (en : Nat) < fr := hA1
          have hsub : IntKind.u64.wrap ((en : Int) - (fr : Int)) = ((en - fr : Nat) : Int) := by
            have := wrap_nat (en - fr) (en - fr) (by omega)
            rw [← this]; congr 1; omega
          have hgB : (en - fr : Nat) < n := by omega
          obtain ⟨df, hdf⟩ : ∃ z, en - fr = z := ⟨_, rfl⟩
          rw [hdf] at hsub hgB
          clear hhe hhl hce hT hef hMV hm' hcs h1 h2 h3 hR hB hU hI hW1 hb1 hl1 hblk1 hfr hcn hA hen hdf hA1
          go_enter Tryz.func21, Tryz.ntmps21
          go_wp2_with (first
            | (go_at_call 30; (with_reducible refine HCI.out.mono ?_); rintro e w3 ⟨rfl, hb3⟩; rw [← HW1.out] at hb3; obtain ⟨p0, p1, p2, p3, p4, p5, p6⟩ := HQ.out _ hb3)
            | (go_at_call 31; (with_reducible refine (HEN.out _ (by assumption)).mono ?_); rintro e w4 ⟨rfl, hb4⟩; obtain ⟨q0, q1, q2, q3, q4, q5, q6⟩ := HQ.out _ hb4))
          exact bodyPost_ret (v := .tuple #[.slice none 0 0, .int .i64 24]) (by simp [results, Tryz.results21, go_sem]) rfl ⟨_, rfl, rows_nil, HGR.out _ (by assumption)⟩
    · have hhe : holErr m fr cn = 2 := by unfold holErr; rw [if_pos hce, if_neg hrange]
      have hhl : holL m fr cn = [] := by unfold holL; rw [if_neg (by rw [hhe]; decide)]
      rw [hhe, hhl]
      by_cases hneg : cn < 0
      · clear hhe hhl hce hT hef hMV hm' hcs h1 h2 h3 hR hB hU hI hW1 hb1 hl1 hblk1 hfr hcn hen hrange
        go_enter Tryz.func21, Tryz.ntmps21
        go_wp2_with (go_at_call 30; (with_reducible refine HCI.out.mono ?_); rintro e w3 ⟨rfl, hb3⟩; rw [← HW1.out] at hb3; obtain ⟨p0, p1, p2, p3, p4, p5, p6⟩ := HQ.out _ hb3)
        exact bodyPost_ret (v := .tuple #[.slice none 0 0, .int .i64 2]) (by simp [results, Tryz.results21, go_sem]) rfl ⟨_, rfl, rows_nil, HGR.out _ (by assumption)⟩
      · have hbig : cn > 4096 := by omega
        clear hhe hhl hce hT hef hMV hm' hcs h1 h2 h3 hR hB hU hI hW1 hb1 hl1 hblk1 hfr hcn hen hrange
        go_enter Tryz.func21, Tryz.ntmps21
        go_wp2_with (go_at_call 30; (with_reducible refine HCI.out.mono ?_); rintro e w3 ⟨rfl, hb3⟩; rw [← HW1.out] at hb3; obtain ⟨p0, p1, p2, p3, p4, p5, p6⟩ := HQ.out _ hb3)
        exact bodyPost_ret (v := .tuple #[.slice none 0 0, .int .i64 2]) (by simp [results, Tryz.results21, go_sem]) rfl ⟨_, rfl, rows_nil, HGR.out _ (by assumption)⟩
  · have hhe : holErr m fr cn = ce := by unfold holErr; rw [if_neg (by rw [hce]; exact hk), hce]
    have hhl : holL m fr cn = [] := by unfold holL; rw [if_neg (by rw [hhe]; exact hk)]
    have g : (ce != 0) = true := by simp [hk]
    rw [hhe, hhl]
    clear hhe hhl hce hT hef hMV hm' hcs h1 h2 h3 hR hB hU hI hW1 hb1 hl1 hblk1 hk hfr hcn
    go_enter Tryz.func21, Tryz.ntmps21
    go_wp2_with (go_at_call 30; (with_reducible refine HCI.out.mono ?_); rintro e w3 ⟨rfl, hb3⟩; rw [← HW1.out] at hb3; obtain ⟨p0, p1, p2, p3, p4, p5, p6⟩ := HQ.out _ hb3)
    exact bodyPost_ret (v := .tuple #[.slice none 0 0, .int .i64 ce]) (by simp [results, Tryz.results21, go_sem]) rfl ⟨_, rfl, rows_nil, HGR.out _ (by assumption)⟩
end Go.Proofs.YtnjlgllpfbkdoaaGreatDoor
namespace Go.Proofs.YtnjlgllpfbkdoaaGreatDoor
open Go.RowKit Go.Instr
set_option linter.unusedVariables false
set_option linter.unusedSimpArgs false
set_option maxRecDepth 100000

/-- The product of the first fields' numbers of values. -/
def prodK (L : List Fld) (k : Nat) : Nat := (L.take k).foldl (fun a f => a * f.values % 18446744073709551616) 1
theorem prodK_succ {L : List Fld} {k : Nat} {f : Fld} (h : L[k]? = some f) : prodK L (k + 1) = prodK L k * f.values % 18446744073709551616 := by
  have ht : L.take (k + 1) = L.take k ++ [f] := by rw [List.take_add_one, h]; rfl
  unfold prodK
  rw [ht, List.foldl_append]
  rfl
theorem prodK_lt (L : List Fld) : ∀ k, prodK L k < 18446744073709551616 := fun k => by
  unfold prodK
  have : ∀ (l : List Fld) (a : Nat), a < 18446744073709551616 → l.foldl (fun a f => a * f.values % 18446744073709551616) a < 18446744073709551616 := by
    intro l
    induction l with
    | nil => intro a h; exact h
    | cons f l ih => intro a h; exact ih _ (Nat.mod_lt _ (by omega))
  exact this _ 1 (by omega)
theorem field3 (a b c d : Value) (w : World) : (Go.Instr.field 87 (.agg #[a, b, c, d]) 3).run Tryz.prog w = .ok d w := by kernel_rfl
noncomputable def cntR (m : Mach) (z : Int) : Nat := if amErr m [z] = 0 then (match m.instrs[z.toNat]? with | some i => prodK (shapeR m i).fields (shapeR m i).fields.length | none => 0) else 0
set_option warningAsError false in
set_option maxHeartbeats 2000000 in
theorem amCount_any (w : World) (v : Value) (m : Mach) (hm : MachV w v m) (hT : ShapesAt w) (hef : ∀ x ∈ m.instrs, ∀ f ∈ x.effs, EffOk f) (z : Int) (hz : -9223372036854775808 ≤ z ∧ z ≤ 9223372036854775807) :
    Calls Tryz.prog 23 #[v, .int .i64 z] w fun e w' => e = .returned (.tuple #[.int .u64 (cntR m z : Nat), .int .i64 (amErr m [z])]) ∧ Below w.heap.size w w' := by
  have hm' := hm
  obtain ⟨cs0, rfl, sr, sb, su, si, hcs, h1, h2, h3, hR, hB, hU, hI⟩ := hm
  obtain rfl : cs0 = #[.string m.name, .int .i64 m.word, .int .i64 m.address, sr, sb, su, si] := by cases cs0; simp_all
  obtain ⟨A, c, rfl, _⟩ := id hI
  obtain ⟨n, hn⟩ : ∃ z, m.instrs.length = z := ⟨_, rfl⟩
  have HI := Lib.hid hI
  have HN := Lib.hid hn
  rw [hn] at hm' HI
  rw [hn]
  obtain ⟨W1, hW1⟩ : ∃ W1, W1 = w.alloc (.cells #[.string m.name, .int .i64 m.word, .int .i64 m.address, sr, sb, su, .slice A n c] 27) := ⟨_, rfl⟩
  have hb1 : Below w.heap.size w W1 := by rw [hW1]; exact (Below.refl _ _).alloc (Nat.le_refl _) _
  have hl1 : w.heap.size < W1.heap.size := by rw [hW1]; simp
  have hs1 : W1.heap.size = w.heap.size + 1 := by rw [hW1]; simp
  have hblk1 : W1.heap[w.heap.size]? = some (.cells #[.string m.name, .int .i64 m.word, .int .i64 m.address, sr, sb, su, .slice A n c] 27) := by rw [hW1]; exact heap_alloc_new _ _
  obtain ⟨W2, hW2⟩ : ∃ W2, W2 = W1.alloc (.cells #[.int .i64 z] 3) := ⟨_, rfl⟩
  have hb2 : Below W1.heap.size W1 W2 := by rw [hW2]; exact (Below.refl _ _).alloc (Nat.le_refl _) _
  have hblk2 : W2.heap[w.heap.size + 1]? = some (.cells #[.int .i64 z] 3) := by rw [hW2, ← hs1]; exact heap_alloc_new _ _
  have hw2 : Below w.heap.size w W2 := hb1.trans (hb2.mono hb1.size)
  have HQ := Lib.hid (show ∀ X, Below W1.heap.size W1 X → X.cell? ⟨w.heap.size, 0, none⟩ = some (.string m.name) ∧ X.cell? ⟨w.heap.size, 1, none⟩ = some (.int .i64 m.word) ∧ X.cell? ⟨w.heap.size, 2, none⟩ = some (.int .i64 m.address) ∧ X.cell? ⟨w.heap.size, 3, none⟩ = some sr ∧ X.cell? ⟨w.heap.size, 4, none⟩ = some sb ∧ X.cell? ⟨w.heap.size, 5, none⟩ = some su ∧ X.cell? ⟨w.heap.size, 6, none⟩ = some (.slice A n c) from fun X hX => by
    have e1 := (hX.block _ hl1).trans hblk1
    exact ⟨cell_of e1 rfl, cell_of e1 rfl, cell_of e1 rfl, cell_of e1 rfl, cell_of e1 rfl, cell_of e1 rfl, cell_of e1 rfl⟩)
  have HGR := Lib.hid (show ∀ X, Below W1.heap.size W1 X → Below w.heap.size w X from fun X hX => hb1.trans (hX.mono hb1.size))
  obtain ⟨ce, hce⟩ : ∃ y, amErr m [z] = y := ⟨_, rfl⟩
  have HCI := Lib.hid ((amCheck_any W2 (.agg #[.string m.name, .int .i64 m.word, .int .i64 m.address, sr, sb, su, .slice A n c]) m (hm'.kept hw2) (hT.below hw2) hef _ [z] (row_one hblk2 hz) (by simp)).mono (R' := fun e w' => e = .returned (.int .i64 ce) ∧ Below W1.heap.size W1 w') fun e w' ⟨h1, h2⟩ => ⟨by rw [h1, hce], hb2.trans (h2.mono hb2.size)⟩)
  have hMV : ∀ X, Below W1.heap.size W1 X → MachV X (.agg #[.string m.name, .int .i64 m.word, .int .i64 m.address, sr, sb, su, .slice A n c]) m := fun X hX => hm'.kept (HGR.out X hX)
  rw [hW2, hW1] at HCI
  have HW1 := Lib.hid hW1
  have HCE := Lib.hid hce
  by_cases hk : ce = 0
  · subst hk
    have hc0 : chkR m = 0 ∧ insIdx m z = true := by
      unfold amErr at hce
      by_cases h : chkR m = 0
      · rw [if_pos h] at hce
        refine ⟨h, ?_⟩
        cases hq : insIdx m z with
        | true => rfl
        | false => simp [hq] at hce
      · rw [if_neg h] at hce; exact absurd hce h
    obtain ⟨hc0, hidx⟩ := hc0
    unfold insIdx at hidx
    simp only [decide_eq_true_eq] at hidx
    rw [hn] at hidx
    obtain ⟨k, rfl⟩ : ∃ k : Nat, z = (k : Int) := ⟨z.toNat, by omega⟩
    have hkn : (k : Int) < (n : Int) := hidx.2
    obtain ⟨i, hi⟩ : ∃ y, m.instrs[k]? = some y := ⟨_, List.getElem?_eq_getElem (by omega)⟩
    have him := List.mem_of_getElem? hi
    have hwd := (ins_good hc0 him).1
    obtain ⟨s, hs⟩ : ∃ y, shapeR m i = y := ⟨_, rfl⟩
    obtain ⟨A', c', e1, _, _, _, hall⟩ := HI.out
    obtain ⟨b, o, cs, e2, hb, hcl, hcell, hE⟩ := hall k i hi
    obtain ⟨rfl, rfl⟩ : A = A' ∧ c = c' := by cases e1; exact ⟨rfl, rfl⟩
    subst e2
    have hE0 := hE
    obtain ⟨so, se, rfl, _⟩ := hE
    have hIV : ∀ X, Below W1.heap.size W1 X → InsV X (.agg #[.string i.name, .int .u64 (i.mask : Nat), .int .u64 (i.mtch : Nat), so, se, .int .i64 i.unit, .int .i64 i.busy, .int .i64 i.lat, .int .i64 i.slots]) i := fun X hX => ⟨_, rfl, hE0.kept (HGR.out X hX)⟩
    have HS := Lib.hid (show ∀ X, Below W1.heap.size W1 X → X.cell? ⟨w.heap.size, 0, none⟩ = some (.string m.name) ∧ X.cell? ⟨w.heap.size, 1, none⟩ = some (.int .i64 m.word) ∧ X.cell? ⟨w.heap.size, 2, none⟩ = some (.int .i64 m.address) ∧ X.cell? ⟨w.heap.size, 3, none⟩ = some sr ∧ X.cell? ⟨w.heap.size, 4, none⟩ = some sb ∧ X.cell? ⟨w.heap.size, 5, none⟩ = some su ∧ X.cell? ⟨w.heap.size, 6, none⟩ = some (.slice (some ⟨b, o, none⟩) n c) ∧ X.cell? ⟨b, o + k * 9, none⟩ = some (.string i.name) ∧ X.cell? ⟨b, o + k * 9 + 1, none⟩ = some (.int .u64 (i.mask : Nat)) ∧ X.cell? ⟨b, o + k * 9 + 2, none⟩ = some (.int .u64 (i.mtch : Nat)) ∧ X.cell? ⟨b, o + k * 9 + 3, none⟩ = some so ∧ X.cell? ⟨b, o + k * 9 + 4, none⟩ = some se ∧ X.cell? ⟨b, o + k * 9 + 5, none⟩ = some (.int .i64 i.unit) ∧ X.cell? ⟨b, o + k * 9 + 6, none⟩ = some (.int .i64 i.busy) ∧ X.cell? ⟨b, o + k * 9 + 7, none⟩ = some (.int .i64 i.lat) ∧ X.cell? ⟨b, o + k * 9 + 8, none⟩ = some (.int .i64 i.slots) from fun X hX => by
      obtain ⟨q0, q1, q2, q3, q4, q5, q6⟩ := HQ.out X hX
      have hd : ∀ j u, ([.string i.name, .int .u64 (i.mask : Nat), .int .u64 (i.mtch : Nat), so, se, .int .i64 i.unit, .int .i64 i.busy, .int .i64 i.lat, .int .i64 i.slots] : List Value)[j]? = some u → X.cell? ⟨b, o + k * 9 + j, none⟩ = some u := fun j u hj => by rw [(HGR.out X hX).cell hb]; exact hcell j u hj
      exact ⟨q0, q1, q2, q3, q4, q5, q6, by simpa using hd 0 _ rfl, hd 1 _ rfl, hd 2 _ rfl, hd 3 _ rfl, hd 4 _ rfl, hd 5 _ rfl, hd 6 _ rfl, hd 7 _ rfl, hd 8 _ rfl⟩)
    have HSO := Lib.hid (show ∀ X, Below W1.heap.size W1 X → Calls Tryz.prog 32 #[.agg #[.string m.name, .int .i64 m.word, .int .i64 m.address, sr, sb, su, .slice (some ⟨b, o, none⟩) n c], .agg #[.string i.name, .int .u64 (i.mask : Nat), .int .u64 (i.mtch : Nat), so, se, .int .i64 i.unit, .int .i64 i.busy, .int .i64 i.lat, .int .i64 i.slots]] X fun e w' => ∃ (sz : Int) (mt fz : Nat) (Af : Option Addr) (nf cf : Nat), e = .returned (.agg #[.int .i64 sz, .int .u64 (mt : Nat), .int .u64 (fz : Nat), .slice Af nf cf]) ∧ (RowsAt 2 fldE w' (.slice Af nf cf) s.fields ∧ nf = s.fields.length) ∧ Below W1.heap.size W1 w' from fun X hX => (shapeOf_any X _ _ m (hMV X hX) i (hIV X hX) (insOk_of hc0 him)).mono fun e w' ⟨sv, h1, h2, h3⟩ => by
      rw [hs] at h2
      obtain ⟨sf, k1, k2, k3, k4, k5⟩ := h2
      obtain ⟨Af, cf, k6, _⟩ := id k5
      subst k1
      subst k6
      exact ⟨_, _, _, Af, _, cf, h1, ⟨k5, rfl⟩, hX.trans (h3.mono hX.size)⟩)
    have hfl4 : s.fields.length ≤ 4 := by rw [← hs]; exact (shpOk_of hc0 him).1
    have hcn : cntR m (k : Int) = prodK s.fields s.fields.length := by unfold cntR; rw [if_pos hce, Int.toNat_natCast, hi]; show prodK (shapeR m i).fields _ = _; rw [hs]
    obtain ⟨FL, hFL⟩ : ∃ y, s.fields = y := ⟨_, rfl⟩
    rw [hFL] at HSO hcn hfl4
    have HFL4 := Lib.hid hfl4
    rw [hce, hcn]
    have hk0 : (0 : Int) ≤ (k : Int) := by omega
    clear hR hB hU hI hcs hW1 hW2 hblk1 hblk2 hl1 hs1 hb1 hb2 hw2 hm' hT hef hMV hce hn hc0 hidx hi him hwd hs hall hcell hcl hE0 hIV e1 hz hfl4 hcn hFL
    go_enter Tryz.func23, Tryz.ntmps23
    go_wp2_with (go_at_call 30; (with_reducible refine HCI.out.mono ?_); rintro e w3 ⟨rfl, hb3⟩; rw [← HW1.out] at hb3; obtain ⟨p0, p1, p2, p3, p4, p5, p6⟩ := HQ.out _ hb3)
    have HB4 := Lib.hid hb3
    obtain ⟨s0, s1, s2, s3, s4, s5, s6, s7, s8, s9, sa, sb1, sc, sd, se1, sf⟩ := HS.out _ hb3
    have hfd := field3
    first | (go_region_held3 (fun w' => w'.cell? ⟨w.heap.size, 0, none⟩ = some (.string m.name) ∧ w'.cell? ⟨w.heap.size, 1, none⟩ = some (.int .i64 m.word) ∧ w'.cell? ⟨w.heap.size, 2, none⟩ = some (.int .i64 m.address) ∧ w'.cell? ⟨w.heap.size, 3, none⟩ = some sr ∧ w'.cell? ⟨w.heap.size, 4, none⟩ = some sb ∧ w'.cell? ⟨w.heap.size, 5, none⟩ = some su ∧ w'.cell? ⟨w.heap.size, 6, none⟩ = some (.slice (some ⟨b, o, none⟩) n c) ∧ w'.cell? ⟨b, o + k * 9, none⟩ = some (.string i.name) ∧ w'.cell? ⟨b, o + k * 9 + 1, none⟩ = some (.int .u64 (i.mask : Nat)) ∧ w'.cell? ⟨b, o + k * 9 + 2, none⟩ = some (.int .u64 (i.mtch : Nat)) ∧ w'.cell? ⟨b, o + k * 9 + 3, none⟩ = some so ∧ w'.cell? ⟨b, o + k * 9 + 4, none⟩ = some se ∧ w'.cell? ⟨b, o + k * 9 + 5, none⟩ = some (.int .i64 i.unit) ∧ w'.cell? ⟨b, o + k * 9 + 6, none⟩ = some (.int .i64 i.busy) ∧ w'.cell? ⟨b, o + k * 9 + 7, none⟩ = some (.int .i64 i.lat) ∧ w'.cell? ⟨b, o + k * 9 + 8, none⟩ = some (.int .i64 i.slots))
      (first | (refine HS.out _ ?_; (repeat (first | assumption | exact HB4.out | refine Below.drew ?_)); done) | exact ⟨by assumption, by assumption, by assumption, by assumption, by assumption, by assumption, by assumption, by assumption, by assumption, by assumption, by assumption, by assumption, by assumption, by assumption, by assumption, by assumption⟩ | go_keep)
      (first
        | (go_at_call 32; go_loud ((with_reducible refine (HSO.out _ (by (repeat (first | assumption | exact HB4.out | refine Below.drew ?_)))).mono ?_); rintro e w5 ⟨sz, mt, fz, Af, nf, cf, rfl, hsv, hb5⟩)))) | fail "stood"
    all_goals (
      obtain ⟨hr5, hnf⟩ := hsv
      first | subst hnf | skip
      obtain ⟨nl, hnl⟩ : ∃ z, FL.length = z := ⟨_, rfl⟩
      rw [hnl] at hr5 ⊢
      have hn4 : nl ≤ 9223372036854775807 := by have := HFL4.out; omega
      have HR5 := Lib.hid hr5
      have HB5 := Lib.hid hb5
      have HNL := Lib.hid hnl
      clear hr5 hb5 hnl s0 s1 s2 s3 s4 s5 s6 s7 s8 s9 sa sb1 sc sd se1 sf hfd
      go_wp2
      go_loopw [7, 26] (fun va vi wr => ∃ j : Nat, vi = .int .i64 j ∧ va = .int .u64 (prodK FL j : Nat) ∧ j ≤ nl ∧ Hid (Below w5.heap.size w5 wr)) (fun _ vi _ => nl - (intOf vi).toNat)
      case atStart => exact ⟨0, rfl, rfl, Nat.zero_le _, Lib.hid (Below.refl _ _)⟩
      case round =>
        obtain ⟨j, rfl, rfl, hj, HJ⟩ := hrel
        by_cases hlt : j < nl
        · obtain ⟨f, hf⟩ : ∃ z, FL[j]? = some z := ⟨_, List.getElem?_eq_getElem (by rw [HNL.out]; exact hlt)⟩
          have hbw := HJ.out
          obtain ⟨A', c', e1, _, _, _, hall⟩ := HR5.out.kept (fun cs x hx => fldE.kept hx hbw) hbw
          obtain ⟨b2, o2, cs2, e2, hb2', hcl2, hcell2, hE2⟩ := hall j f hf
          obtain ⟨rfl, rfl⟩ : Af = A' ∧ cf = c' := by cases e1; exact ⟨rfl, rfl⟩
          subst e2
          obtain ⟨sp, rfl, hsp, hval⟩ := hE2
          obtain ⟨Ap, cp, rfl, _⟩ := hsp
          have c0 : wr.cell? ⟨b2, o2 + j * 2, none⟩ = some (.slice Ap f.pieces.length cp) := by simpa using hcell2 0 _ rfl
          have c1 : wr.cell? ⟨b2, o2 + j * 2 + 1, none⟩ = some (.int .u64 (f.values : Nat)) := hcell2 1 _ rfl
          obtain ⟨lp, hlp⟩ : ∃ z, f.pieces.length = z := ⟨_, rfl⟩
          rw [hlp] at c0
          obtain ⟨fv, hfv⟩ : ∃ z, f.values = z := ⟨_, rfl⟩
          have hsu := prodK_succ hf
          obtain ⟨pk, hpk⟩ : ∃ z, prodK FL j = z := ⟨_, rfl⟩
          rw [hpk, hfv] at hsu
          rw [hfv] at c1
          rw [hpk]
          have hmul : IntKind.u64.wrap ((pk : Int) * (fv : Int)) = ((pk * fv % 18446744073709551616 : Nat) : Int) := by have := wrap_nat (pk * fv) _ rfl; simpa using this
          obtain ⟨np, hnp⟩ : ∃ z, pk * fv % 18446744073709551616 = z := ⟨_, rfl⟩
          rw [hnp] at hmul hsu
          have HSU := Lib.hid hsu
          have HLT := Lib.hid hlt
          have hb6 : Below w5.heap.size w5 (wr.alloc (.cells #[.slice Ap lp cp, .int .u64 (fv : Nat)] 109)) := hbw.alloc hbw.size _
          have HB6 := Lib.hid hb6
          obtain ⟨d0, d1⟩ := fld_cells wr (.slice Ap lp cp) (.int .u64 (fv : Nat)) _ rfl
          have hin : (j : Int) < (nl : Int) := by omega
          clear hall hcell2 hf hbw hcl2 e1 hval hlp hfv hsu hpk hnp hb6 HJ
          go_wp2
          go_roundw
          case rel => exact ⟨j + 1, by first | rfl | go_num | (congr 1), by rw [HSU.out], by have := HLT.out; omega, HB6⟩
          case measure => simp only [intOf]; have := HLT.out; omega
        · obtain rfl : j = nl := by omega
          have HBF := Lib.hid (HGR.out _ (HB5.out.trans (HJ.out.mono HB5.out.size)))
          obtain ⟨pk, hpk⟩ : ∃ z, prodK FL j = z := ⟨_, rfl⟩
          have HPK := Lib.hid (show prodK FL FL.length = pk by rw [HNL.out, hpk])
          rw [hpk]
          have hin : ¬ (j : Int) < (j : Int) := by omega
          clear HJ hpk
          go_wp2
          exact bodyPost_ret (v := .tuple #[.int .u64 (pk : Nat), .int .i64 0]) (by simp [results, Tryz.results23, go_sem]) rfl ⟨by rw [← HPK.out, HNL.out], HBF.out⟩)
  · have hcn : cntR m z = 0 := by unfold cntR; rw [if_neg (by rw [hce]; exact hk)]
    have g : (ce != 0) = true := by simp [hk]
    rw [hce, hcn]
    clear hR hB hU hI hcs hW1 hW2 hblk1 hblk2 hl1 hs1 hb1 hb2 hw2 hm' hT hef hMV hce hn hcn hz hk
    go_enter Tryz.func23, Tryz.ntmps23
    go_wp2_with (go_at_call 30; (with_reducible refine HCI.out.mono ?_); rintro e w3 ⟨rfl, hb3⟩; rw [← HW1.out] at hb3; obtain ⟨p0, p1, p2, p3, p4, p5, p6⟩ := HQ.out _ hb3)
    exact bodyPost_ret (v := .tuple #[.int .u64 0, .int .i64 ce]) (by simp [results, Tryz.results23, go_sem]) rfl ⟨rfl, HGR.out _ hb3⟩
end Go.Proofs.YtnjlgllpfbkdoaaGreatDoor
