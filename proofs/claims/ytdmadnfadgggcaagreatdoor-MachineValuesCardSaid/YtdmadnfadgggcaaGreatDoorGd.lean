import Derived.Test.YtdmadnfadgggcaaGreatDoorGc
import Derived.RangeFuncNested
import Derived.RangeFuncBox
import Derived.Maps.OwnIn
import Derived.Maps.OwnSet
set_option linter.unusedVariables false
set_option linter.unusedSimpArgs false
set_option warningAsError false
set_option maxHeartbeats 4000000
open Go.Lib (hid)
open Go.Proofs.Tryz (prog)
noncomputable section
namespace Go.Proofs.YtdmadnfadgggcaaGreatDoor
open Go.RowKit Go.Shelf
attribute [local go_sem] Oper.semAt_some
def z9v : Code := match Tryz.f189.body with
 | some (.seq _ (.seq _ (.seq (.seq _ (.block _ (.rangeFunc _ _ _ c))) _))) => c
 | _ => .skip
theorem zt {W : World} {a p : Addr} {u v : Value} (h : p.block ≠ a.block) (hc : W.cell? p = some v) : (W.setCell a u).cell? p = some v := by rw [World.cell?_of_block (w := W) (Below.heap_setCell W a u p.block h)];exact hc
theorem z1u {H : Type} {P : Program} {k : TypeId} {R : Value -> Option (DataW H × List MemPlace)} {W W1 : World} {b n : Nat} {D : DataW H} (h : W.ownsMap P k R b n D) (hb : Below W.heap.size W W1) : W1.ownsMap P k R b n D := by have hl := h.lt;obtain ⟨es, clock, hb', Ft, hs, hD⟩ := h;exact ⟨es, clock, (hb.block b hl).trans hb', Ft, hs, hD⟩
set_option maxRecDepth 100000 in
theorem zav {Q : Exit -> Act -> World -> Prop} (F : Fence) (l kk b m d Bx : Nat) (T0 T1 T2 T3 : Value) (W : World) (q5 q6 : Bool) (hroom : ∀ k : Nat, (F.depth.isSome = true -> 1 <= k)) (f1 : F.fn 193)
 (c1 : W.cell? ⟨b + 1, 0, none⟩ = some (.map none)) (c2 : W.cell? ⟨b + 1 + 1, 0, none⟩ = some (.int .i64 0)) (c4 : W.cell? ⟨b + 1 + 1 + 1 + 1, 0, none⟩ = some (.int .i64 m)) (c5 : W.cell? ⟨b + 1 + 1 + 1 + 1 + 1, 0, none⟩ = some (.bool q5)) (c6 : W.cell? ⟨b + 1 + 1 + 1 + 1 + 1 + 1, 0, none⟩ = some (.bool q6)) (c7 : W.cell? ⟨b + 1 + 1 + 1 + 1 + 1 + 1 + 1, 0, none⟩ = some (.map (some (b + 1 + 1 + 1))))
 (z1 : W.frozen? ⟨b + 1, 0, none⟩ = false) (z2 : W.frozen? ⟨b + 1 + 1, 0, none⟩ = false) (z4 : W.frozen? ⟨b + 1 + 1 + 1 + 1, 0, none⟩ = false) (z5 : W.frozen? ⟨b + 1 + 1 + 1 + 1 + 1, 0, none⟩ = false) (z6 : W.frozen? ⟨b + 1 + 1 + 1 + 1 + 1 + 1, 0, none⟩ = false)
 (hs : wrap64 ((m : Int) + 1) = (m : Int) + 1) (hg : (400 : Int) < (m : Int) + 1) (hQ : ∀ a, Q .ret a (((W.setCell ⟨b + 1 + 1 + 1 + 1, 0, none⟩ (.int .i64 ((m : Int) + 1))).setCell ⟨b + 1, 0, none⟩ (.map none)).setCell ⟨b + 1 + 1, 0, none⟩ (.int .i64 4))) :
 z9v.wpIn (F.inRound l) kk prog Q { tmps := #[T0, .pointer (some ⟨b, 0, none⟩), .pointer (some ⟨b + 1, 0, none⟩), .pointer (some ⟨b + 1 + 1, 0, none⟩), .pointer (some ⟨b + 1 + 1 + 1 + 1, 0, none⟩), .pointer (some ⟨b + 1 + 1 + 1 + 1 + 1, 0, none⟩), .pointer (some ⟨b + 1 + 1 + 1 + 1 + 1 + 1, 0, none⟩), .pointer (some ⟨b + 1 + 1 + 1 + 1 + 1 + 1 + 1, 0, none⟩), .int .i64 d, .pointer (some ⟨Bx, 0, none⟩), undef, undef, .map (some (b + 1 + 1 + 1)), T1, T2, .int .i64 d, T3, undef, undef, undef, undef, undef, undef, undef, undef, undef, undef, undef, undef, undef, undef, undef, undef, undef, undef, undef, undef, undef, undef, undef, undef, undef, undef, undef, undef, undef, undef, undef, undef, undef, undef, undef, undef, undef, undef, undef, undef, undef, undef, undef, undef], defers := [] } W := by
 simp only [z9v, Tryz.f189];gi_wp2
 all_goals exact hQ _
set_option maxRecDepth 100000 in
theorem zau {Q : Exit -> Act -> World -> Prop} (F : Fence) (l kk b m d Bx : Nat) (T0 T1 T2 T3 : Value) (W : World) (q5 q6 : Bool) (hroom : ∀ k : Nat, (F.depth.isSome = true -> 1 <= k)) (f1 : F.fn 193)
 (c1 : W.cell? ⟨b + 1, 0, none⟩ = some (.map none)) (c2 : W.cell? ⟨b + 1 + 1, 0, none⟩ = some (.int .i64 0)) (c4 : W.cell? ⟨b + 1 + 1 + 1 + 1, 0, none⟩ = some (.int .i64 m)) (c5 : W.cell? ⟨b + 1 + 1 + 1 + 1 + 1, 0, none⟩ = some (.bool q5)) (c6 : W.cell? ⟨b + 1 + 1 + 1 + 1 + 1 + 1, 0, none⟩ = some (.bool q6)) (c7 : W.cell? ⟨b + 1 + 1 + 1 + 1 + 1 + 1 + 1, 0, none⟩ = some (.map (some (b + 1 + 1 + 1))))
 (z1 : W.frozen? ⟨b + 1, 0, none⟩ = false) (z2 : W.frozen? ⟨b + 1 + 1, 0, none⟩ = false) (z4 : W.frozen? ⟨b + 1 + 1 + 1 + 1, 0, none⟩ = false) (z5 : W.frozen? ⟨b + 1 + 1 + 1 + 1 + 1, 0, none⟩ = false) (z6 : W.frozen? ⟨b + 1 + 1 + 1 + 1 + 1 + 1, 0, none⟩ = false)
 (hs : wrap64 ((m : Int) + 1) = (m : Int) + 1) (hg : ¬ (400 : Int) < (m : Int) + 1) (hd6 : (60 : Int) < (d : Int)) (hQ : ∀ a, Q .ret a (((W.setCell ⟨b + 1 + 1 + 1 + 1, 0, none⟩ (.int .i64 ((m : Int) + 1))).setCell ⟨b + 1, 0, none⟩ (.map none)).setCell ⟨b + 1 + 1, 0, none⟩ (.int .i64 4))) :
 z9v.wpIn (F.inRound l) kk prog Q { tmps := #[T0, .pointer (some ⟨b, 0, none⟩), .pointer (some ⟨b + 1, 0, none⟩), .pointer (some ⟨b + 1 + 1, 0, none⟩), .pointer (some ⟨b + 1 + 1 + 1 + 1, 0, none⟩), .pointer (some ⟨b + 1 + 1 + 1 + 1 + 1, 0, none⟩), .pointer (some ⟨b + 1 + 1 + 1 + 1 + 1 + 1, 0, none⟩), .pointer (some ⟨b + 1 + 1 + 1 + 1 + 1 + 1 + 1, 0, none⟩), .int .i64 d, .pointer (some ⟨Bx, 0, none⟩), undef, undef, .map (some (b + 1 + 1 + 1)), T1, T2, .int .i64 d, T3, undef, undef, undef, undef, undef, undef, undef, undef, undef, undef, undef, undef, undef, undef, undef, undef, undef, undef, undef, undef, undef, undef, undef, undef, undef, undef, undef, undef, undef, undef, undef, undef, undef, undef, undef, undef, undef, undef, undef, undef, undef, undef, undef, undef], defers := [] } W := by
 simp only [z9v, Tryz.f189];gi_wp2
 all_goals exact hQ _
set_option maxRecDepth 100000 in
theorem z9y {Q : Exit -> Act -> World -> Prop} (F : Fence) (l kk b m d Bx : Nat) (T0 T1 T2 T3 : Value) (W : World) (q5 q6 : Bool) (uk ub : Nat) (uw ul : Int) (us : ByteArray) (up : Option Addr) (un uc : Nat) (r : Bool) (hroom : ∀ k : Nat, (F.depth.isSome = true -> 1 <= k)) (f1 : F.fn 193)
 (c1 : W.cell? ⟨b + 1, 0, none⟩ = some (.map none)) (c2 : W.cell? ⟨b + 1 + 1, 0, none⟩ = some (.int .i64 0)) (c4 : W.cell? ⟨b + 1 + 1 + 1 + 1, 0, none⟩ = some (.int .i64 m)) (c5 : W.cell? ⟨b + 1 + 1 + 1 + 1 + 1, 0, none⟩ = some (.bool q5)) (c6 : W.cell? ⟨b + 1 + 1 + 1 + 1 + 1 + 1, 0, none⟩ = some (.bool q6)) (c7 : W.cell? ⟨b + 1 + 1 + 1 + 1 + 1 + 1 + 1, 0, none⟩ = some (.map (some (b + 1 + 1 + 1))))
 (z1 : W.frozen? ⟨b + 1, 0, none⟩ = false) (z2 : W.frozen? ⟨b + 1 + 1, 0, none⟩ = false) (z4 : W.frozen? ⟨b + 1 + 1 + 1 + 1, 0, none⟩ = false) (z5 : W.frozen? ⟨b + 1 + 1 + 1 + 1 + 1, 0, none⟩ = false) (z6 : W.frozen? ⟨b + 1 + 1 + 1 + 1 + 1 + 1, 0, none⟩ = false)
 (hs : wrap64 ((m : Int) + 1) = (m : Int) + 1) (hg : ¬ (400 : Int) < (m : Int) + 1) (hd6 : ¬ (60 : Int) < (d : Int)) (hbl : b + 9 <= W.heap.size) (hBx : Bx < W.heap.size) (hB7 : b + 8 <= Bx) (m0 : W.cell? ⟨Bx, 0, none⟩ = some (.int .u8 uk)) (m1 : W.cell? ⟨Bx, 1, none⟩ = some (.int .i64 uw)) (m2 : W.cell? ⟨Bx, 2, none⟩ = some (.int .u64 ub)) (m3 : W.cell? ⟨Bx, 3, none⟩ = some (.string us)) (m4 : W.cell? ⟨Bx, 4, none⟩ = some (.int .i64 ul)) (m5 : W.cell? ⟨Bx, 5, none⟩ = some (.slice up un uc)) (HF : Hid (∀ (k : Nat) (X : World), Below b W X -> CallsIn (F.inRound l) k prog 193 #[.agg #[.int .u8 uk, .int .i64 uw, .int .u64 ub, .string us, .int .i64 ul, .slice up un uc]] X fun e w' => e = .returned (.bool r) /\ Below X.heap.size X w')) (hk : ((uk : Int) == 2) = false) (hQ : Hid (∀ a W1, Below ((W.setCell ⟨b + 1 + 1 + 1 + 1, 0, none⟩ (.int .i64 ((m : Int) + 1)))).heap.size ((W.setCell ⟨b + 1 + 1 + 1 + 1, 0, none⟩ (.int .i64 ((m : Int) + 1)))) W1 -> Q .normal a (W1.setCell ⟨b + 1 + 1 + 1 + 1 + 1, 0, none⟩ (.bool (q5 || !r))))) :
 z9v.wpIn (F.inRound l) kk prog Q { tmps := #[T0, .pointer (some ⟨b, 0, none⟩), .pointer (some ⟨b + 1, 0, none⟩), .pointer (some ⟨b + 1 + 1, 0, none⟩), .pointer (some ⟨b + 1 + 1 + 1 + 1, 0, none⟩), .pointer (some ⟨b + 1 + 1 + 1 + 1 + 1, 0, none⟩), .pointer (some ⟨b + 1 + 1 + 1 + 1 + 1 + 1, 0, none⟩), .pointer (some ⟨b + 1 + 1 + 1 + 1 + 1 + 1 + 1, 0, none⟩), .int .i64 d, .pointer (some ⟨Bx, 0, none⟩), undef, undef, .map (some (b + 1 + 1 + 1)), T1, T2, .int .i64 d, T3, undef, undef, undef, undef, undef, undef, undef, undef, undef, undef, undef, undef, undef, undef, undef, undef, undef, undef, undef, undef, undef, undef, undef, undef, undef, undef, undef, undef, undef, undef, undef, undef, undef, undef, undef, undef, undef, undef, undef, undef, undef, undef, undef, undef], defers := [] } W := by
 simp only [z9v, Tryz.f189]
 have KC : Hid (∀ w' : World, Below ((W.setCell ⟨b + 1 + 1 + 1 + 1, 0, none⟩ (.int .i64 ((m : Int) + 1)))).heap.size ((W.setCell ⟨b + 1 + 1 + 1 + 1, 0, none⟩ (.int .i64 ((m : Int) + 1)))) w' -> w'.cell? ⟨b + 1 + 1 + 1 + 1 + 1, 0, none⟩ = some (.bool q5) /\ w'.frozen? ⟨b + 1 + 1 + 1 + 1 + 1, 0, none⟩ = false /\ w'.cell? ⟨b + 1 + 1 + 1 + 1 + 1 + 1, 0, none⟩ = some (.bool q6) /\ w'.frozen? ⟨b + 1 + 1 + 1 + 1 + 1 + 1, 0, none⟩ = false /\ w'.cell? ⟨b + 1 + 1 + 1 + 1 + 1 + 1 + 1, 0, none⟩ = some (.map (some (b + 1 + 1 + 1))) /\
  w'.cell? ⟨Bx, 0, none⟩ = some (.int .u8 uk) /\ w'.cell? ⟨Bx, 1, none⟩ = some (.int .i64 uw) /\ w'.cell? ⟨Bx, 3, none⟩ = some (.string us)) := hid (fun w' h => by
  have n4 : ∀ k, b + 1 + 1 + 1 + 1 ≠ Bx + k := fun k => by omega
  refine ⟨?_, ?_, ?_, ?_, ?_, ?_, ?_, ?_⟩
  ·rw [h.cell (by simp; omega)]; exact zt (by show _ ≠ _; simp only []; omega) c5
  ·rw [h.frozen (by simp; omega), World.frozen?_setCell]; exact z5
  ·rw [h.cell (by simp; omega)]; exact zt (by show _ ≠ _; simp only []; omega) c6
  ·rw [h.frozen (by simp; omega), World.frozen?_setCell]; exact z6
  ·rw [h.cell (by simp; omega)]; exact zt (by show _ ≠ _; simp only []; omega) c7
  ·rw [h.cell (by simp; omega)]; exact zt (by show _ ≠ _; simp only []; omega) m0
  ·rw [h.cell (by simp; omega)]; exact zt (by show _ ≠ _; simp only []; omega) m1
  ·rw [h.cell (by simp; omega)]; exact zt (by show _ ≠ _; simp only []; omega) m3)
 have HH := fun k => HF.out k ((W.setCell ⟨b + 1 + 1 + 1 + 1, 0, none⟩ (.int .i64 ((m : Int) + 1)))) ((Below.refl b W).setCell (p := ⟨b + 1 + 1 + 1 + 1, 0, none⟩) (by simp; omega) _);cases q5
 ·gi_wp2_with ((try refine ⟨hroom _, ?_⟩); gi_at_call 193; refine (HH _).mono ?_; rintro e w' ⟨rfl, hb1⟩; obtain ⟨k5, y5, k6, y6, k7, k0, k1, k3⟩ := KC.out _ hb1)
  exact hQ.out _ _ hb1
 ·gi_wp2
  exact hQ.out _ _ (Below.refl _ _)
set_option maxRecDepth 100000 in
theorem zcs {Q : Exit -> Act -> World -> Prop} (F : Fence) (l kk b m d Bx : Nat) (T0 T1 T2 T3 : Value) (W : World) (q5 q6 : Bool) (uk ub : Nat) (uw ul : Int) (us : ByteArray) (up : Option Addr) (un uc : Nat) (r : Bool) {H : Type} (D : DataW H) (c0 : Int) (mt : Bool) (nmap : Nat) (hroom : ∀ k : Nat, (F.depth.isSome = true -> 1 <= k)) (f1 : F.fn 193)
 (c1 : W.cell? ⟨b + 1, 0, none⟩ = some (.map none)) (c2 : W.cell? ⟨b + 1 + 1, 0, none⟩ = some (.int .i64 0)) (c4 : W.cell? ⟨b + 1 + 1 + 1 + 1, 0, none⟩ = some (.int .i64 m)) (c5 : W.cell? ⟨b + 1 + 1 + 1 + 1 + 1, 0, none⟩ = some (.bool q5)) (c6 : W.cell? ⟨b + 1 + 1 + 1 + 1 + 1 + 1, 0, none⟩ = some (.bool q6)) (c7 : W.cell? ⟨b + 1 + 1 + 1 + 1 + 1 + 1 + 1, 0, none⟩ = some (.map (some (b + 1 + 1 + 1))))
 (z1 : W.frozen? ⟨b + 1, 0, none⟩ = false) (z2 : W.frozen? ⟨b + 1 + 1, 0, none⟩ = false) (z4 : W.frozen? ⟨b + 1 + 1 + 1 + 1, 0, none⟩ = false) (z5 : W.frozen? ⟨b + 1 + 1 + 1 + 1 + 1, 0, none⟩ = false) (z6 : W.frozen? ⟨b + 1 + 1 + 1 + 1 + 1 + 1, 0, none⟩ = false)
 (hs : wrap64 ((m : Int) + 1) = (m : Int) + 1) (hg : ¬ (400 : Int) < (m : Int) + 1) (hd6 : ¬ (60 : Int) < (d : Int)) (hbl : b + 9 <= W.heap.size) (hBx : Bx < W.heap.size) (hB7 : b + 8 <= Bx) (m0 : W.cell? ⟨Bx, 0, none⟩ = some (.int .u8 uk)) (m1 : W.cell? ⟨Bx, 1, none⟩ = some (.int .i64 uw)) (m2 : W.cell? ⟨Bx, 2, none⟩ = some (.int .u64 ub)) (m3 : W.cell? ⟨Bx, 3, none⟩ = some (.string us)) (m4 : W.cell? ⟨Bx, 4, none⟩ = some (.int .i64 ul)) (m5 : W.cell? ⟨Bx, 5, none⟩ = some (.slice up un uc)) (HF : Hid (∀ (k : Nat) (X : World), Below b W X -> CallsIn (F.inRound l) k prog 193 #[.agg #[.int .u8 uk, .int .i64 uw, .int .u64 ub, .string us, .int .i64 ul, .slice up un uc]] X fun e w' => e = .returned (.bool r) /\ Below X.heap.size X w')) (hk : ((uk : Int) == 2) = true) (hown : W.ownsMap prog 9 (plainElem prog 3) (b + 1 + 1 + 1) nmap D) (HN : Hid (nmap < maxLen)) (HL : Hid (us.size <= maxLen)) (HW : Hid ((Lit.int .i64 uw).wf = true)) (hat : D.atKey (z1b us) (.lit (.int .i64 0)) = .lit (.int .i64 c0)) (hmt : Maps.has D (z1b us) = mt) (hQ : Hid (∀ a W1 w2, Below ((W.setCell ⟨b + 1 + 1 + 1 + 1, 0, none⟩ (.int .i64 ((m : Int) + 1)))).heap.size ((W.setCell ⟨b + 1 + 1 + 1 + 1, 0, none⟩ (.int .i64 ((m : Int) + 1)))) W1 -> w2.ownsMap prog 9 (plainElem prog 3) (b + 1 + 1 + 1) (nmap + 1) (D.put (z1b us) (.lit (.int .i64 uw))) -> ((W1.setCell ⟨b + 1 + 1 + 1 + 1 + 1, 0, none⟩ (.bool (q5 || !r))).setCell ⟨b + 1 + 1 + 1 + 1 + 1 + 1, 0, none⟩ (.bool (q6 || mt && c0 != uw))).grownBy w2 (some (b + 1 + 1 + 1)) -> Q .normal a w2)) :
 z9v.wpIn (F.inRound l) kk prog Q { tmps := #[T0, .pointer (some ⟨b, 0, none⟩), .pointer (some ⟨b + 1, 0, none⟩), .pointer (some ⟨b + 1 + 1, 0, none⟩), .pointer (some ⟨b + 1 + 1 + 1 + 1, 0, none⟩), .pointer (some ⟨b + 1 + 1 + 1 + 1 + 1, 0, none⟩), .pointer (some ⟨b + 1 + 1 + 1 + 1 + 1 + 1, 0, none⟩), .pointer (some ⟨b + 1 + 1 + 1 + 1 + 1 + 1 + 1, 0, none⟩), .int .i64 d, .pointer (some ⟨Bx, 0, none⟩), undef, undef, .map (some (b + 1 + 1 + 1)), T1, T2, .int .i64 d, T3, undef, undef, undef, undef, undef, undef, undef, undef, undef, undef, undef, undef, undef, undef, undef, undef, undef, undef, undef, undef, undef, undef, undef, undef, undef, undef, undef, undef, undef, undef, undef, undef, undef, undef, undef, undef, undef, undef, undef, undef, undef, undef, undef, undef], defers := [] } W := by
 simp only [z9v, Tryz.f189]
 have KC : Hid (∀ w' : World, Below ((W.setCell ⟨b + 1 + 1 + 1 + 1, 0, none⟩ (.int .i64 ((m : Int) + 1)))).heap.size ((W.setCell ⟨b + 1 + 1 + 1 + 1, 0, none⟩ (.int .i64 ((m : Int) + 1)))) w' -> w'.cell? ⟨b + 1 + 1 + 1 + 1 + 1, 0, none⟩ = some (.bool q5) /\ w'.frozen? ⟨b + 1 + 1 + 1 + 1 + 1, 0, none⟩ = false /\ w'.cell? ⟨b + 1 + 1 + 1 + 1 + 1 + 1, 0, none⟩ = some (.bool q6) /\ w'.frozen? ⟨b + 1 + 1 + 1 + 1 + 1 + 1, 0, none⟩ = false /\ w'.cell? ⟨b + 1 + 1 + 1 + 1 + 1 + 1 + 1, 0, none⟩ = some (.map (some (b + 1 + 1 + 1))) /\
  w'.cell? ⟨Bx, 0, none⟩ = some (.int .u8 uk) /\ w'.cell? ⟨Bx, 1, none⟩ = some (.int .i64 uw) /\ w'.cell? ⟨Bx, 3, none⟩ = some (.string us)) := hid (fun w' h => by
  have n4 : ∀ k, b + 1 + 1 + 1 + 1 ≠ Bx + k := fun k => by omega
  refine ⟨?_, ?_, ?_, ?_, ?_, ?_, ?_, ?_⟩
  ·rw [h.cell (by simp; omega)]; exact zt (by show _ ≠ _; simp only []; omega) c5
  ·rw [h.frozen (by simp; omega), World.frozen?_setCell]; exact z5
  ·rw [h.cell (by simp; omega)]; exact zt (by show _ ≠ _; simp only []; omega) c6
  ·rw [h.frozen (by simp; omega), World.frozen?_setCell]; exact z6
  ·rw [h.cell (by simp; omega)]; exact zt (by show _ ≠ _; simp only []; omega) c7
  ·rw [h.cell (by simp; omega)]; exact zt (by show _ ≠ _; simp only []; omega) m0
  ·rw [h.cell (by simp; omega)]; exact zt (by show _ ≠ _; simp only []; omega) m1
  ·rw [h.cell (by simp; omega)]; exact zt (by show _ ≠ _; simp only []; omega) m3)
 have HH := fun k => HF.out k ((W.setCell ⟨b + 1 + 1 + 1 + 1, 0, none⟩ (.int .i64 ((m : Int) + 1)))) ((Below.refl b W).setCell (p := ⟨b + 1 + 1 + 1 + 1, 0, none⟩) (by simp; omega) _);have HO : Hid (∀ w' : World, Below ((W.setCell ⟨b + 1 + 1 + 1 + 1, 0, none⟩ (.int .i64 ((m : Int) + 1)))).heap.size ((W.setCell ⟨b + 1 + 1 + 1 + 1, 0, none⟩ (.int .i64 ((m : Int) + 1)))) w' -> w'.ownsMap prog 9 (plainElem prog 3) (b + 1 + 1 + 1) nmap D) := hid (fun w' h => z1u (hown.setCell (by simp) _) h);clear hown;obtain ⟨e, he⟩ : ∃ e, (c0 != uw) = e := ⟨_, rfl⟩;rw [he] at hQ;have HA := hid hat;have HM := hid hmt;clear hat hmt;cases q5 <;> cases q6 <;> cases mt
 all_goals
  gi_wp2_with first | ((try refine ⟨hroom _, ?_⟩); gi_at_call 193; refine (HH _).mono ?_; rintro e w' ⟨rfl, hb1⟩; obtain ⟨k5, y5, k6, y6, k7, k0, k1, k3⟩ := KC.out _ hb1) | (gi_at_lookup; refine wpListIn_lookup_own_ok_int _ rfl _ _ 139 rfl 9 3 .i64 (Maps.string_keyed Tryz.underlying9) Tryz.underlying139 Tryz.underlying3 (Tryz.zeroValue3 _) (b + 1 + 1 + 1) nmap D rfl ((HO.out _ (by first | exact hb1 | exact Below.refl _ _)).setCell (by simp) _) _ (z1b us) rfl (Go.WideMaps.keyOf_string_mk Tryz.underlying9 HL.out) ?_; rw [HA.out, HM.out]; intro c hc hwc; obtain rfl : c0 = c := by injection hc with hc; injection hc) | (gi_at_mapUpdate; refine wpListIn_mapUpdate_own _ rfl _ _ _ 139 rfl 9 3 (Maps.string_keyed Tryz.underlying9) Tryz.underlying139 _ (b + 1 + 1 + 1) nmap D rfl (((HO.out _ (by first | exact hb1 | exact Below.refl _ _)).setCell (by simp) _).setCell (by simp) _) HN.out _ _ (z1b us) rfl rfl (Go.WideMaps.keyOf_string_mk Tryz.underlying9 HL.out) _ [] (plainElem_int Tryz.underlying3 HW.out) ?_; intro w2 hown2 hgrow2)
  first | exact hQ.out _ _ _ hb1 hown2 hgrow2 | exact hQ.out _ _ _ (Below.refl _ _) hown2 hgrow2
attribute [local go_sem] Oper.semAt_some
theorem Kp.putObj {n₀ m₀ : Nat} {w : World} (hn : n₀ <= w.heap.size) (W : World) (l : Nat) (o o' : Obj) (hl : w.heap.size <= l) (h : W.heap[l]? = some o) (ho : o.isCells = false) (hw : o.isWalk = false) : Kp n₀ m₀ W (W.putObj l o') :=
 ⟨belowK_b hn W l o o' hl h ho hw, fun k c e f hk hc => by
  by_cases hkl : k = l
  ·subst hkl; rw [h] at hc; cases hc; simp [Obj.isCells] at ho
  ·exact (World.putObj_heap_other hkl).trans hc⟩
structure WInv {H : Type} (n₀ : Nat) (w0 : World) (w : World) (pre : List (El w0 n₀)) (W : World) : Prop where
 below : Below n₀ w W
 size : n₀ + 9 <= W.heap.size
 b1 : Boxed W (n₀ + 1) 139 (.map none)
 b2 : Boxed W (n₀ + 1 + 1) 29 (.int .i64 0)
 b4 : Boxed W (n₀ + 1 + 1 + 1 + 1) 3 (.int .i64 pre.length)
 b5 : Boxed W (n₀ + 1 + 1 + 1 + 1 + 1) 4 (.bool ((pre.map (·.1.2.1)).any fun u => !zp u))
 b6 : Boxed W (n₀ + 1 + 1 + 1 + 1 + 1 + 1) 4 (.bool (z4w (pre.map (·.1.2.1))))
 b7 : Boxed W (n₀ + 1 + 1 + 1 + 1 + 1 + 1 + 1) 139 (.map (some (n₀ + 1 + 1 + 1)))
 own : ∃ D : DataW H, W.ownsMap prog 9 (plainElem prog 3) (n₀ + 1 + 1 + 1) pre.length D /\ Knows (pre.map (·.1.2.1)) D
 small : pre.length <= 400 /\ ∀ x ∈ pre, x.1.1 <= 60
theorem WInv.own_from {H : Type} {n₀ B : Nat} {w0 w : World} (hB : n₀ + 9 <= B) (hw : n₀ <= w.heap.size) : OwnFrom B (fun (pre : List (El w0 n₀)) W => WInv (H := H) n₀ w0 w pre W) := fun s A B' row hs hg hr =>
 have ne : ∀ k, k < n₀ + 9 -> some k ≠ row := fun k hk e => by have := (hr k e.symm).1; omega
 ⟨hs.below.grown hg (Nat.le_trans hw hs.below.size) (fun k e => by have := (hr k e).1; omega), Nat.le_trans hs.size hg.size, hs.b1.kept hg (ne _ (by omega)), hs.b2.kept hg (ne _ (by omega)), hs.b4.kept hg (ne _ (by omega)), hs.b5.kept hg (ne _ (by omega)), hs.b6.kept hg (ne _ (by omega)), hs.b7.kept hg (ne _ (by omega)),
  (by obtain ⟨D, h1, h2⟩ := hs.own; exact ⟨D, h1.kept hg (ne _ (by omega)), h2⟩), hs.small⟩
structure WEx (n₀ : Nat) (w0 : World) (w : World) (pre : List (El w0 n₀)) (W : World) : Prop where
 below : Below n₀ w W
 b1 : Boxed W (n₀ + 1) 139 (.map none)
 b2 : Boxed W (n₀ + 1 + 1) 29 (.int .i64 4)
 great : 400 < pre.length ∨ ∃ x ∈ pre, 60 < x.1.1
theorem WEx.own_from {n₀ B : Nat} {w0 w : World} (hB : n₀ + 9 <= B) (hw : n₀ <= w.heap.size) (p : Prop) : OwnFrom B (fun (pre : List (El w0 n₀)) W => p /\ WEx n₀ w0 w pre W) := fun s A B' row hs hg hr =>
 have ne : ∀ k, k < n₀ + 9 -> some k ≠ row := fun k hk e => by have := (hr k e.symm).1; omega
 ⟨hs.1, hs.2.below.grown hg (Nat.le_trans hw hs.2.below.size) (fun k e => by have := (hr k e).1; omega), hs.2.b1.kept hg (ne _ (by omega)), hs.2.b2.kept hg (ne _ (by omega)), hs.2.great⟩
theorem zgx {α : Type} (N : Nat) (l : List α) (x : α) (h : (N : Int) < (l.length : Int) + 1) : N < (l ++ [x]).length := by rw [List.length_append, List.length_cons, List.length_nil]; omega
theorem z3g {X Y : World} (h : Below X.heap.size X Y) : KeepsOthers X Y := ⟨h.size, fun k o hk ho => (h.block k (Array.getElem?_eq_some_iff.1 hk).1).trans hk⟩
theorem z1h {X Y : World} {B : Nat} {t : TypeId} {v : Value} (h : Boxed X B t v) (hb : Below X.heap.size X Y) : Boxed Y B t v := (hb.block B h.lt).trans h
theorem Kp.grown {n₀ m₀ r : Nat} {A B : World} (h : A.grownBy B (some r)) (hr : ∃ o : Obj, A.heap[r]? = some o /\ o.isCells = false) (hn : n₀ <= r) (hs : n₀ <= A.heap.size) : Kp n₀ m₀ A B :=
 ⟨(Below.refl n₀ A).grown h hs (fun k e => by cases e; exact hn), fun k c e f _ hc => (grownBy_keeps_cells h (fun q e => by cases e; exact hr) hc rfl).trans hc⟩
theorem Kp.set {n₀ m₀ : Nat} (A : World) (B : Nat) (v : Value) (h0 : n₀ <= B) (h1 : B < m₀) : Kp n₀ m₀ A (A.setCell ⟨B, 0, none⟩ v) :=
 ⟨(Below.refl n₀ A).setCell h0 v, fun k c e f hk hc => (Below.heap_setCell A ⟨B, 0, none⟩ v k (by simp; omega)).trans hc⟩
theorem Kp.of_below {n₀ m₀ : Nat} {A B : World} (h : Below A.heap.size A B) (hn : n₀ <= A.heap.size) : Kp n₀ m₀ A B := ⟨h.mono hn, fun k c e f _ hc => (h.block k (Array.getElem?_eq_some_iff.1 hc).1).trans hc⟩
theorem Boxed.atw {W : World} {k : Nat} (hk : k = W.heap.size) (t : TypeId) (v : Value) : Boxed (W.alloc (.cells #[v] t)) k t v := by subst hk; exact Boxed.new W t v
theorem z5p {W : World} {k : Nat} (hk : k = W.heap.size) (o : Obj) : (W.alloc o).heap[k]? = some o := by subst hk; exact World.alloc_heap_new W o
theorem zbn {B : Nat} {a b c : World} (h1 : Below B a b) (h2 : Below B a c) (hs : b.heap.size <= c.heap.size) : Below B b c :=
 ⟨h2.os.trans h1.os.symm, h2.tape.trans h1.tape.symm, h2.output.trans h1.output.symm, hs, fun k hk => (h2.block k hk).trans (h1.block k hk).symm⟩
theorem zs.below {W W' : World} (h : zs W) (hb : Below W.heap.size W W') : zs W' := fun k hk => by have h1 := h k hk;rw [hb.cell (p := ⟨0, k * 2 + 1, none⟩) (z3y h1)];exact h1
theorem z2r {W : World} {B l : Nat} {t : TypeId} {v : Value} {o : Obj} (h : Boxed W B t v) (hne : B ≠ l) : Boxed (W.putObj l o) B t v := (World.putObj_heap_other hne).trans h
theorem zgz {H : Type} {P : Program} {k : TypeId} {R : Value -> Option (DataW H × List MemPlace)} {W : World} {b n l : Nat} {D : DataW H} (h : W.ownsMap P k R b n D) (hne : b ≠ l) (o : Obj) : (W.putObj l o).ownsMap P k R b n D := by obtain ⟨es, clock, hb', Ft, hs, hD⟩ := h;exact ⟨es, clock, (World.putObj_heap_other hne).trans hb', Ft, hs, hD⟩
theorem z3z {t : Tm} (h : ¬ (t.sz <= 400 /\ t.dp <= 60)) : z1r t = 4 := by unfold z1r; rw [if_pos h]
theorem z7f {t : Tm} (h1 : t.sz <= 400) (h2 : t.dp <= 60) (h3 : ¬ ∀ u ∈ t.nodes, zp u = true) : z1r t = 8 := by unfold z1r; rw [if_neg (fun q => q ⟨h1, h2⟩), if_pos h3]
theorem z5u {t : Tm} (h1 : t.sz <= 400) (h2 : t.dp <= 60) (h3 : ∀ u ∈ t.nodes, zp u = true) (h4 : ¬ Agrees t.nodes) : z1r t = 14 := by unfold z1r; rw [if_neg (fun q => q ⟨h1, h2⟩), if_neg (fun q => q h3), if_pos h4]
theorem SubAt.up {w : World} {B B' : Nat} {v : Value} {ts : List Tm} (h : SubAt w B v ts) (hB : B <= B') : SubAt w B' v ts := by
 induction h with
 | mk p n cap ts S hn hm hf hp hs ih => refine .mk p n cap ts S hn hm hf (fun i t hi => ?_) (fun i t hi => ih i t hi);obtain ⟨b, o, e, h0, hr⟩ := hp i t hi;exact ⟨b, o, e, Nat.lt_of_lt_of_le h0 hB, hr⟩
set_option maxRecDepth 100000 in
theorem zcr {H : Type} (F : Fence) (hd : F.depth = none) (hro : F.round = none) (hfn : ∀ k, F.fn k) (hC : ∀ {c : FuncId} {args : Array Value} {W : World} {R : Ending -> World -> Prop} (n : Nat), Calls prog c args W R -> CallsIn F n prog c args W R) (n : Nat) (t : Tm) (p : Option Addr) (nn cap : Nat) (w : World) (hdp : t.dp <= 9000) (hs : SubAt w w.heap.size (.slice p nn cap) t.sub) (hfit : t.fit) (hT : zs w) (hlong : t.long = false) (hn : 3 <= n) :
 CallsIn F n prog 189 #[.agg (Tm.cells t (.slice p nn cap)).toArray] w fun e w' => Below w.heap.size w w' /\
  ((z1r t ≠ 0 /\ e = .returned (.tuple #[.map none, .int .i64 (z1r t)])) ∨ (z1r t = 0 /\ ∃ B, w.heap.size <= B /\ e = .returned (.tuple #[.map (some B), .int .i64 0]) /\ ∃ D : DataW H, w'.ownsMap prog 9 (plainElem prog 3) B t.sz D /\ Knows t.nodes D)) := by
 have hroom : ∀ k : Nat, (F.depth.isSome = true -> 1 <= k) := fun k h => by rw [hd] at h; cases h
 have f0 := hfn 192;have f1 := hfn 193;have hmm := @run_makeMap prog;have HN := fun n w => zfy F n (hfn _) hro t p nn cap w;simp only [Tm.cells] at HN;refine callsIn_of_wp_marks Tryz.func189 rfl (hfn _) ?_ hro;simp only [Tryz.ntmps189, Tm.cells, List.size_toArray, List.length_cons, List.length_nil, Nat.reduceAdd, Nat.reduceSub, Array.replicate_succ, Array.replicate_zero, List.push_toArray, List.append_toArray, List.nil_append, List.cons_append];gi_wp2_with ((try refine ⟨hroom _, ?_⟩); gi_at_call 192; refine (HN _ _).mono ?_; rintro e w' ⟨rfl, rfl⟩)
 obtain ⟨W0, hW0⟩ : ∃ W0, W0 = (((((((((w.alloc (.cells #[.int .u8 t.kind, .int .i64 t.width, .int .u64 t.bits, .string t.name, .int .i64 t.low, .slice p nn cap] 90)).alloc (.cells #[.map none] 139)).alloc (.cells #[.int .i64 0] 29)).alloc (.map #[] 0)).alloc (.cells #[.int .i64 0] 3)).alloc (.cells #[.bool false] 4)).alloc (.cells #[.bool false] 4)).alloc (.cells #[.map (some (w.heap.size + 1 + 1 + 1))] 139)).alloc (.cells #[.int .u8 t.kind, .int .i64 t.width, .int .u64 t.bits, .string t.name, .int .i64 t.low, .slice p nn cap] 90)) := ⟨_, rfl⟩;have hsz : W0.heap.size = w.heap.size + 9 := by rw [hW0]; simp
 have hbel : Below w.heap.size w W0 := by rw [hW0];exact ((((((((((Below.refl _ w).alloc (Nat.le_refl _) _).alloc (by simp) _).alloc (by simp; omega) _).alloc (by simp; omega) _).alloc (by simp; omega) _).alloc (by simp; omega) _).alloc (by simp; omega) _).alloc (by simp; omega) _).alloc (by simp; omega) _)
 have hown : W0.ownsMap (H := H) prog 9 (plainElem prog 3) (w.heap.size + 1 + 1 + 1) 0 (.map []) := by rw [hW0];have h0 := World.ownsMap_made (H := H) (((w.alloc (.cells #[.int .u8 t.kind, .int .i64 t.width, .int .u64 t.bits, .string t.name, .int .i64 t.low, .slice p nn cap] 90)).alloc (.cells #[.map none] 139)).alloc (.cells #[.int .i64 0] 29)) prog 9 (plainElem prog 3);simp only [World.size_alloc] at h0;exact ((((h0.alloc _).alloc _).alloc _).alloc _).alloc _
 have hinv : WInv (H := H) w.heap.size W0 w [] W0 := by
  refine ⟨hbel, by omega, ?_, ?_, ?_, ?_, ?_, ?_, ⟨_, hown, Knows.none⟩, by simp⟩
  ·rw [hW0]; exact (((((((Boxed.atw (by simp) _ _).alloc _).alloc _).alloc _).alloc _).alloc _).alloc _).alloc _
  ·rw [hW0]; exact ((((((Boxed.atw (by simp) _ _).alloc _).alloc _).alloc _).alloc _).alloc _).alloc _
  ·rw [hW0]; exact ((((Boxed.atw (by simp) _ _).alloc _).alloc _).alloc _).alloc _
  ·rw [hW0]; exact (((Boxed.atw (by simp) _ _).alloc _).alloc _).alloc _
  ·rw [hW0]; exact ((Boxed.atw (by simp) _ _).alloc _).alloc _
  ·rw [hW0]; exact (Boxed.atw (by simp) _ _).alloc _
 have hB8 : W0.heap[w.heap.size + 1 + 1 + 1 + 1 + 1 + 1 + 1 + 1]? = some (.cells (Tm.cells t (.slice p nn cap)).toArray 90 (0, 0)) := by rw [hW0]; exact z5p (by simp) _
 rw [<- hW0];clear hW0
 refine wpIn_rangeFunc_ownH hro (by omega) (gf := 195) (lb := #[.pointer (some ⟨w.heap.size + 1 + 1 + 1 + 1 + 1 + 1 + 1 + 1, 0, none⟩)]) rfl (hfn _) (enters_of Tryz.func195 (by kernel_rfl) rfl)
  (zaj F hd (n - 1) (hfn _) (hfn _) hro W0 (w.heap.size + 1 + 1 + 1 + 1 + 1 + 1 + 1 + 1) w.heap.size W0.heap.size t (.slice p nn cap) hdp (hs.kept hinv.below) hfit hlong W0 (Below.refl _ _) (by omega) (Nat.le_refl _) (by omega) hB8)
  (fun h k => h.trans k) (Kp.putObj (by omega)) (Below.refl _ _) (fun _ => rfl)
  (fun pre W => WInv (H := H) w.heap.size W0 w pre W) (fun c pre W => c = .ret /\ WEx w.heap.size W0 w pre W)
  (WInv.own_from (by omega) (Nat.le_refl _)) (fun c => WEx.own_from (by omega) (Nat.le_refl _) _) hinv
  (fun x a' W => ∃ Bx, W0.heap.size <= Bx /\ W.heap[Bx]? = some (.cells (Tm.cells x.1.2.1 x.1.2.2).toArray 90 (0, 0)) /\ a' = { tmps := #[.agg #[.int .u8 t.kind, .int .i64 t.width, .int .u64 t.bits, .string t.name, .int .i64 t.low, .slice p nn cap], .pointer (some ⟨w.heap.size, 0, none⟩), .pointer (some ⟨w.heap.size + 1, 0, none⟩), .pointer (some ⟨w.heap.size + 1 + 1, 0, none⟩), .pointer (some ⟨w.heap.size + 1 + 1 + 1 + 1, 0, none⟩), .pointer (some ⟨w.heap.size + 1 + 1 + 1 + 1 + 1, 0, none⟩), .pointer (some ⟨w.heap.size + 1 + 1 + 1 + 1 + 1 + 1, 0, none⟩), .pointer (some ⟨w.heap.size + 1 + 1 + 1 + 1 + 1 + 1 + 1, 0, none⟩), .int .i64 x.1.1, .pointer (some ⟨Bx, 0, none⟩), undef, undef, .map (some (w.heap.size + 1 + 1 + 1)), .agg #[.int .u8 t.kind, .int .i64 t.width, .int .u64 t.bits, .string t.name, .int .i64 t.low, .slice p nn cap], .func (.func 195) #[] #[.pointer (some ⟨w.heap.size + 1 + 1 + 1 + 1 + 1 + 1 + 1 + 1, 0, none⟩)], .int .i64 x.1.1, .agg (Tm.cells x.1.2.1 x.1.2.2).toArray, undef, undef, undef, undef, undef, undef, undef, undef, undef, undef, undef, undef, undef, undef, undef, undef, undef, undef, undef, undef, undef, undef, undef, undef, undef, undef, undef, undef, undef, undef, undef, undef, undef, undef, undef, undef, undef, undef, undef, undef, undef, undef, undef, undef], defers := [] })
  (fun x a' _ X Y row hs hg hr => by obtain ⟨Bx, h1, h2, h3⟩ := hs; exact ⟨Bx, h1, (grownBy_keeps_cells hg (fun r e => (hr r e).2) h2 rfl).trans h2, h3⟩)
  ?assign ?body ?done ?stop
 case assign =>
  rintro l pre ⟨⟨d, u, sv⟩, hsu, hfu, hlu⟩ W K hi hK;obtain ⟨p', n', cap', _, rfl, _⟩ := hsu.inv;simp only [El.encs, Tm.cells] at hK ⊢;have hbW := hi.below.size;gi_wp2
  exact hK _ _ ((KeepsOthers.alloc _ _).from _) ((Kp.refl _ _ W).alloc hbW _) (WInv.own_from (B := w.heap.size + 9) (Nat.le_refl _) (Nat.le_refl _) pre W _ none hi (World.grownBy_alloc W _ none) (fun r e => by cases e)) ⟨W.heap.size, by have := hi.size; omega, World.alloc_heap_new W _, rfl⟩
 case body =>
  rintro l pre ⟨⟨d, u, sv⟩, hsu, hfu, hlu⟩ a' W hl _ hi ⟨Bx, hBx, hcx, rfl⟩ hlt;obtain ⟨p', n', cap', S', rfl, hrest⟩ := hsu.inv;clear hrest;have hbW := hi.below.size;have hcS : ∀ k v, (Tm.cells u (.slice p' n' cap'))[k]? = some v -> W.cell? ⟨Bx, k, none⟩ = some v := fun k v h => zb (i := k) hcx (by rw [List.getElem?_toArray]; exact h);have hBl : Bx < W.heap.size := (Array.getElem?_eq_some_iff.1 hcx).1;have hWs := hi.size;have hlen := hi.small.1;have s4 : wrap64 ((pre.length : Int) + 1) = (pre.length : Int) + 1 := zd _ (by omega) (by omega);obtain ⟨q5, h5⟩ : ∃ q, ((pre.map (·.1.2.1)).any fun u => !zp u) = q := ⟨_, rfl⟩;obtain ⟨q6, h6⟩ : ∃ q, z4w (pre.map (·.1.2.1)) = q := ⟨_, rfl⟩;have b5 := hi.b5;have b6 := hi.b6;rw [h5] at b5;rw [h6] at b6;have hst : ∀ a, (400 : Int) < (pre.length : Int) + 1 ∨ (60 : Int) < (d : Int) -> ownPostG W0.heap.size (Kp w.heap.size W0.heap.size) (WInv (H := H) w.heap.size W0 w) (fun c pre W => c = .ret /\ WEx w.heap.size W0 w pre W) (pre ++ [⟨(d, u, .slice p' n' cap'), hsu, hfu, hlu⟩]) W .ret a (((W.setCell ⟨w.heap.size + 1 + 1 + 1 + 1, 0, none⟩ (.int .i64 ((pre.length : Int) + 1))).setCell ⟨w.heap.size + 1, 0, none⟩ (.map none)).setCell ⟨w.heap.size + 1 + 1, 0, none⟩ (.int .i64 4)) := fun a hor => by
   refine ⟨(((KeepsOthers.setCell _ _ _).from _).trans ((KeepsOthers.setCell _ _ _).from _)).trans ((KeepsOthers.setCell _ _ _).from _), rfl, ((hi.below.setCell (p := ⟨w.heap.size + 1 + 1 + 1 + 1, 0, none⟩) (by simp; omega) _).setCell (p := ⟨w.heap.size + 1, 0, none⟩) (by simp) _).setCell (p := ⟨w.heap.size + 1 + 1, 0, none⟩) (by simp; omega) _, ((hi.b1.other (by omega) _).set _).other (by omega) _, ((hi.b2.other (by omega) _).other (by omega) _).set _, ?_⟩;rcases hor with h | h
   ·exact .inl (zgx 400 pre _ h)
   ·exact .inr ⟨_, List.mem_append_right _ (List.mem_singleton.2 rfl), by simp only; omega⟩
  by_cases ha : (400 : Int) < (pre.length : Int) + 1
  ·exact zav F l _ w.heap.size pre.length d Bx _ _ _ _ W q5 q6 hroom f1 hi.b1.cell hi.b2.cell hi.b4.cell b5.cell b6.cell hi.b7.cell hi.b1.frozen hi.b2.frozen hi.b4.frozen b5.frozen b6.frozen s4 ha (fun a => hst a (.inl ha))
  by_cases hb : (60 : Int) < (d : Int)
  ·exact zau F l _ w.heap.size pre.length d Bx _ _ _ _ W q5 q6 hroom f1 hi.b1.cell hi.b2.cell hi.b4.cell b5.cell b6.cell hi.b7.cell hi.b1.frozen hi.b2.frozen hi.b4.frozen b5.frozen b6.frozen s4 ha hb (fun a => hst a (.inr hb))
  have hBx9 : w.heap.size + 8 <= Bx := by omega
  have hun : u.name.size <= 200 := by rw [Tm.long_eq] at hlu;have := (Bool.or_eq_false_iff.1 hlu).2;simpa using this
  have HF : Hid (∀ (k : Nat) (X : World), Below w.heap.size W X -> CallsIn (F.inRound l) k prog 193 #[.agg #[.int .u8 u.kind, .int .i64 u.width, .int .u64 u.bits, .string u.name, .int .i64 u.low, .slice p' n' cap']] X fun e w' => e = .returned (.bool (zp u)) /\ Below X.heap.size X w') := hid (fun k X hX =>
   (hC k (zbv u (.slice p' n' cap') w.heap.size X (Nat.le_trans hbW hX.size) (hsu.kept (zbn hbel (hi.below.trans hX) (by have := hX.size; omega))) (by omega) (hT.below (hi.below.trans hX)))).inRound l)
  have hpn : (pre ++ [(⟨(d, u, .slice p' n' cap'), hsu, hfu, hlu⟩ : El W0 w.heap.size)]).map (fun x => x.1.2.1) = pre.map (fun x => x.1.2.1) ++ [u] := by simp
  have h5' : ((pre.map (fun x => x.1.2.1) ++ [u]).any fun u => !zp u) = (q5 || !zp u) := by rw [List.any_append, h5]; simp
  have hsm' : (pre ++ [(⟨(d, u, .slice p' n' cap'), hsu, hfu, hlu⟩ : El W0 w.heap.size)]).length <= 400 /\ ∀ x ∈ pre ++ [(⟨(d, u, .slice p' n' cap'), hsu, hfu, hlu⟩ : El W0 w.heap.size)], x.1.1 <= 60 := by
   refine ⟨by rw [List.length_append, List.length_cons, List.length_nil]; omega, fun x hx => ?_⟩;rcases List.mem_append.1 hx with hx | hx
   ·exact hi.small.2 x hx
   ·rw [List.mem_singleton.1 hx]; simp only; omega
  have hln : ((pre ++ [(⟨(d, u, .slice p' n' cap'), hsu, hfu, hlu⟩ : El W0 w.heap.size)]).length : Int) = (pre.length : Int) + 1 := by rw [List.length_append, List.length_cons, List.length_nil]; omega
  obtain ⟨W1, hW1⟩ : ∃ W1, W1 = W.setCell ⟨w.heap.size + 1 + 1 + 1 + 1, 0, none⟩ (.int .i64 ((pre.length : Int) + 1)) := ⟨_, rfl⟩;have k1 : KeepsFrom W0.heap.size W W1 := by rw [hW1]; exact (KeepsOthers.setCell _ _ _).from _
  have kp1 : Kp w.heap.size W0.heap.size W W1 := by rw [hW1]; exact Kp.set W _ _ (by omega) (by omega)
  have hs1 : W1.heap.size = W.heap.size := by rw [hW1]; simp
  obtain ⟨D, hown, hknow⟩ := hi.own;have hown1 : W1.ownsMap (H := H) prog 9 (plainElem prog 3) (w.heap.size + 1 + 1 + 1) pre.length D := by rw [hW1]; exact hown.setCell (by simp) _
  have g1 : Boxed W1 (w.heap.size + 1) 139 (.map none) := by rw [hW1]; exact hi.b1.other (by omega) _
  have g2 : Boxed W1 (w.heap.size + 1 + 1) 29 (.int .i64 0) := by rw [hW1]; exact hi.b2.other (by omega) _
  have g4 : Boxed W1 (w.heap.size + 1 + 1 + 1 + 1) 3 (.int .i64 ((pre.length : Int) + 1)) := by rw [hW1]; exact hi.b4.set _
  have g5 : Boxed W1 (w.heap.size + 1 + 1 + 1 + 1 + 1) 4 (.bool q5) := by rw [hW1]; exact b5.other (by omega) _
  have g6 : Boxed W1 (w.heap.size + 1 + 1 + 1 + 1 + 1 + 1) 4 (.bool q6) := by rw [hW1]; exact b6.other (by omega) _
  have g7 : Boxed W1 (w.heap.size + 1 + 1 + 1 + 1 + 1 + 1 + 1) 139 (.map (some (w.heap.size + 1 + 1 + 1))) := by rw [hW1]; exact hi.b7.other (by omega) _
  have nw1 : w.heap.size <= W1.heap.size := by omega
  by_cases hk : u.kind = 2
  ·have hk2 : ((u.kind : Int) == 2) = true := by rw [beq_iff_eq]; omega
   obtain ⟨c0, hat⟩ : ∃ c0, c0 = z83 (pre.map (·.1.2.1)) u.name := ⟨_, rfl⟩;obtain ⟨mt, hmt⟩ : ∃ mt, mt = metR (pre.map (·.1.2.1)) u.name := ⟨_, rfl⟩;have hat2 := (hknow.2 u.name).2;have hmt2 := (hknow.2 u.name).1;rw [<- hat] at hat2;rw [<- hmt] at hmt2;have h6' : z4w (pre.map (fun x => x.1.2.1) ++ [u]) = (q6 || mt && c0 != u.width) := by rw [z4o, h6, hk, <- hat, <- hmt]; rfl
   have hwf : (Lit.int .i64 u.width).wf = true := by have := hfu.2.1;simp [Lit.wf, IntKind.min, IntKind.max, IntKind.bits, IntKind.signed];omega
   refine zcs F l _ w.heap.size pre.length d Bx _ _ _ _ W q5 q6 u.kind u.bits u.width u.low u.name p' n' cap' (zp u) D c0 mt pre.length hroom f1 hi.b1.cell hi.b2.cell hi.b4.cell b5.cell b6.cell hi.b7.cell hi.b1.frozen hi.b2.frozen hi.b4.frozen b5.frozen b6.frozen
    s4 ha hb (by omega) hBl hBx9 (hcS 0 _ rfl) (hcS 1 _ rfl) (hcS 2 _ rfl) (hcS 3 _ rfl) (hcS 4 _ rfl) (hcS 5 _ rfl) HF hk2 hown (hid (by unfold maxLen; omega)) (hid (by unfold maxLen; omega)) (hid hwf) hat2 hmt2 (hid ?_)
   rw [<- hW1];intro a X1 X2 hX hXown hXg;have hXs := hX.size;have y5 := (z1h g5 hX).set (.bool (q5 || !zp u));have y6 := ((z1h g6 hX).other (B' := w.heap.size + 1 + 1 + 1 + 1 + 1) (by omega) (.bool (q5 || !zp u))).set (.bool (q6 || mt && c0 != u.width));have ne : ∀ k, k ≠ w.heap.size + 1 + 1 + 1 -> some k ≠ some (w.heap.size + 1 + 1 + 1) := fun k h e => h (Option.some.inj e);have hmapX : ∃ o : Obj, ((X1.setCell ⟨w.heap.size + 1 + 1 + 1 + 1 + 1, 0, none⟩ (.bool (q5 || !zp u))).setCell ⟨w.heap.size + 1 + 1 + 1 + 1 + 1 + 1, 0, none⟩ (.bool (q6 || mt && c0 != u.width))).heap[w.heap.size + 1 + 1 + 1]? = some o /\ o.isCells = false := by obtain ⟨es, clock, hb', _⟩ := hown1;refine ⟨.map es clock, ?_, rfl⟩;rw [Below.heap_setCell _ _ _ _ (by simp), Below.heap_setCell _ _ _ _ (by simp), hX.block _ (by omega)];exact hb'
   have kk : KeepsFrom W0.heap.size W X2 := (k1.trans ((z3g hX).from _)).trans ((((KeepsOthers.setCell _ _ _).from _).trans ((KeepsOthers.setCell _ _ _).from _)).trans (KeepsFrom.of_grownBy hXg (fun j e => by cases e; omega)));have kpp : Kp w.heap.size W0.heap.size W X2 := (kp1.trans (Kp.of_below hX nw1)).trans (((Kp.set _ _ _ (by omega) (by omega)).trans (Kp.set _ _ _ (by omega) (by omega))).trans (Kp.grown hXg hmapX (by omega) (by simp; omega)));refine ⟨kk, kpp, ?_⟩;refine ⟨hi.below.trans kpp.1, by have := kk.size; omega, ?_, ?_, ?_, ?_, ?_, ?_, ?_, hsm'⟩
   ·exact (((z1h g1 hX).other (by omega) _).other (by omega) _).kept hXg (ne _ (by omega))
   ·exact (((z1h g2 hX).other (by omega) _).other (by omega) _).kept hXg (ne _ (by omega))
   ·rw [hln]; exact (((z1h g4 hX).other (by omega) _).other (by omega) _).kept hXg (ne _ (by omega))
   ·rw [hpn, h5']; exact (y5.other (by omega) _).kept hXg (ne _ (by omega))
   ·rw [hpn, h6']; exact y6.kept hXg (ne _ (by omega))
   ·exact (((z1h g7 hX).other (by omega) _).other (by omega) _).kept hXg (ne _ (by omega))
   ·rw [hpn];exact ⟨_, by rw [List.length_append]; exact hXown, hknow.put hk⟩
  ·have hk2 : ((u.kind : Int) == 2) = false := by
    cases h : ((u.kind : Int) == 2) with
    | false => rfl
    | true => rw [beq_iff_eq] at h; exact absurd (by omega) hk
   have h6' : z4w (pre.map (fun x => x.1.2.1) ++ [u]) = q6 := by rw [z4o, h6, show decide (u.kind = 2) = false from decide_eq_false hk]; simp
   refine z9y F l _ w.heap.size pre.length d Bx _ _ _ _ W q5 q6 u.kind u.bits u.width u.low u.name p' n' cap' (zp u) hroom f1 hi.b1.cell hi.b2.cell hi.b4.cell b5.cell b6.cell hi.b7.cell hi.b1.frozen hi.b2.frozen hi.b4.frozen b5.frozen b6.frozen
    s4 ha hb (by omega) hBl hBx9 (hcS 0 _ rfl) (hcS 1 _ rfl) (hcS 2 _ rfl) (hcS 3 _ rfl) (hcS 4 _ rfl) (hcS 5 _ rfl) HF hk2 (hid ?_)
   rw [<- hW1];intro a X1 hX;have hXs := hX.size;have kk : KeepsFrom W0.heap.size W (X1.setCell ⟨w.heap.size + 1 + 1 + 1 + 1 + 1, 0, none⟩ (.bool (q5 || !zp u))) := (k1.trans ((z3g hX).from _)).trans ((KeepsOthers.setCell _ _ _).from _);have kpp : Kp w.heap.size W0.heap.size W (X1.setCell ⟨w.heap.size + 1 + 1 + 1 + 1 + 1, 0, none⟩ (.bool (q5 || !zp u))) := (kp1.trans (Kp.of_below hX nw1)).trans (Kp.set _ _ _ (by omega) (by omega));refine ⟨kk, kpp, ?_⟩;refine ⟨hi.below.trans kpp.1, by have := kk.size; omega, ?_, ?_, ?_, ?_, ?_, ?_, ?_, hsm'⟩
   ·exact (z1h g1 hX).other (by omega) _
   ·exact (z1h g2 hX).other (by omega) _
   ·rw [hln]; exact (z1h g4 hX).other (by omega) _
   ·rw [hpn, h5']; exact (z1h g5 hX).set _
   ·rw [hpn, h6']; exact (z1h g6 hX).other (by omega) _
   ·exact (z1h g7 hX).other (by omega) _
   ·rw [hpn];exact ⟨D, by rw [List.length_append]; exact ((z1u hown1 hX).setCell (by simp) _).mono (by simp), hknow.skip hk⟩
 case done =>
  rintro D xs W hD hxs hi hK;have hnod : xs.map (fun x => x.1.2.1) = t.nodes := by have h := congrArg (List.map Prod.snd) hxs;rw [List.map_map] at h;exact h
  have b5 := hi.b5;have b6 := hi.b6;rw [hnod] at b5 b6;obtain ⟨q5, h5⟩ : ∃ q, (t.nodes.any fun u => !zp u) = q := ⟨_, rfl⟩;obtain ⟨q6, h6⟩ : ∃ q, z4w t.nodes = q := ⟨_, rfl⟩;rw [h5] at b5;rw [h6] at b6;have c1 := hi.b1.cell;have c2 := hi.b2.cell;have c5 := b5.cell;have c6 := b6.cell;have c7 := hi.b7.cell;have z1 := hi.b1.frozen;have z2 := hi.b2.frozen;have hlen : t.sz <= 400 := by have h1 := congrArg List.length hnod;rw [List.length_map, Tm.nodes_length] at h1;rw [<- h1]; exact hi.small.1
  have hdep : t.dp <= 60 := by obtain ⟨x, hx, hxd⟩ := Tm.pre_deepest 1 t;rw [<- hxs] at hx;obtain ⟨y, hy, rfl⟩ := List.mem_map.1 hx;have := hi.small.2 y hy;simp only [El.at] at hxd;omega
  have hsz0 : xs.length = t.sz := by
   have h1 := congrArg List.length hnod
   rwa [List.length_map, Tm.nodes_length] at h1
  have HI := hid hi;clear hi b5 b6;cases q5
  ·have hallf : ∀ u ∈ t.nodes, zp u = true := fun u hu => by
    have := List.any_eq_false.1 h5 u hu;simpa using this
   cases q6
   ·have hag := (z5v t.nodes).1 h6;gi_wp2
    obtain ⟨Y, hY⟩ : ∃ Y, Y = (W.setCell ⟨w.heap.size + 1, 0, none⟩ (.map (some (w.heap.size + 1 + 1 + 1)))).setCell ⟨w.heap.size + 1 + 1, 0, none⟩ (.int .i64 0) := ⟨_, rfl⟩;have hi := HI.out;have x1 : Boxed Y (w.heap.size + 1) 139 (.map (some (w.heap.size + 1 + 1 + 1))) := (by rw [hY]; exact (hi.b1.set _).other (by omega) _);have x2 : Boxed Y (w.heap.size + 1 + 1) 29 (.int .i64 0) := (by rw [hY]; exact (hi.b2.other (by omega) _).set _);have KD : Y.heap[D]? = some (.deferred (some [])) := (by rw [hY]; exact ((KeepsOthers.setCell W _ _).trans (KeepsOthers.setCell _ _ _)).same D _ hK rfl);have hbY : Below w.heap.size w Y := (by rw [hY]; exact (hi.below.setCell (p := ⟨w.heap.size + 1, 0, none⟩) (by simp) _).setCell (p := ⟨w.heap.size + 1 + 1, 0, none⟩) (by simp; omega) _);rw [<- hY];refine ⟨by simp, .inl ⟨_, _, rfl, run_takeDeferred KD, ?_⟩⟩;have e1 := Boxed.cell (z2r x1 (o := .deferred none) (l := D) (by omega));have e2 := Boxed.cell (z2r x2 (o := .deferred none) (l := D) (by omega));refine ⟨_, by simp [results, Tryz.f189, go_sem, e1, e2]; rfl, ?_⟩;refine ⟨hbY.trans (belowK_b (w := w) (Nat.le_refl _) Y D _ _ (by omega) KD rfl rfl), .inr ⟨(z2l t).2 ⟨hlen, hdep, hallf, hag⟩, _, by omega, rfl, ?_⟩⟩;obtain ⟨Dm, ho, hkn⟩ := hi.own;rw [hnod] at hkn;refine ⟨Dm, ?_, hkn⟩;rw [<- hsz0];refine zgz (l := D) ?_ (by omega) _;rw [hY];exact (ho.setCell (by simp; omega) _).setCell (by simp) _
   ·have hag : ¬ Agrees t.nodes := fun h => by rw [(z5v t.nodes).2 h] at h6; cases h6
    gi_wp2
    obtain ⟨Y, hY⟩ : ∃ Y, Y = (W.setCell ⟨w.heap.size + 1, 0, none⟩ (.map none)).setCell ⟨w.heap.size + 1 + 1, 0, none⟩ (.int .i64 14) := ⟨_, rfl⟩;have hi := HI.out;have x1 : Boxed Y (w.heap.size + 1) 139 (.map none) := (by rw [hY]; exact (hi.b1.set _).other (by omega) _);have x2 : Boxed Y (w.heap.size + 1 + 1) 29 (.int .i64 14) := (by rw [hY]; exact (hi.b2.other (by omega) _).set _);have KD : Y.heap[D]? = some (.deferred (some [])) := (by rw [hY]; exact ((KeepsOthers.setCell W _ _).trans (KeepsOthers.setCell _ _ _)).same D _ hK rfl);have hbY : Below w.heap.size w Y := (by rw [hY]; exact (hi.below.setCell (p := ⟨w.heap.size + 1, 0, none⟩) (by simp) _).setCell (p := ⟨w.heap.size + 1 + 1, 0, none⟩) (by simp; omega) _);rw [<- hY];refine ⟨by simp, .inl ⟨_, _, rfl, run_takeDeferred KD, ?_⟩⟩;have e1 := Boxed.cell (z2r x1 (o := .deferred none) (l := D) (by omega));have e2 := Boxed.cell (z2r x2 (o := .deferred none) (l := D) (by omega));refine ⟨_, by simp [results, Tryz.f189, go_sem, e1, e2]; rfl, ?_⟩;refine ⟨hbY.trans (belowK_b (w := w) (Nat.le_refl _) Y D _ _ (by omega) KD rfl rfl), .inl ?_⟩;rw [z5u hlen hdep hallf hag];exact ⟨by decide, rfl⟩
  ·have hnf : ¬ ∀ u ∈ t.nodes, zp u = true := fun h => by
    obtain ⟨u, hu, h7⟩ := List.any_eq_true.1 h5;rw [h u hu] at h7;cases h7
   gi_wp2
   obtain ⟨Y, hY⟩ : ∃ Y, Y = (W.setCell ⟨w.heap.size + 1, 0, none⟩ (.map none)).setCell ⟨w.heap.size + 1 + 1, 0, none⟩ (.int .i64 8) := ⟨_, rfl⟩;have hi := HI.out;have x1 : Boxed Y (w.heap.size + 1) 139 (.map none) := by rw [hY]; exact (hi.b1.set _).other (by omega) _
   have x2 : Boxed Y (w.heap.size + 1 + 1) 29 (.int .i64 8) := by rw [hY]; exact (hi.b2.other (by omega) _).set _
   have KD : Y.heap[D]? = some (.deferred (some [])) := by rw [hY]; exact ((KeepsOthers.setCell W _ _).trans (KeepsOthers.setCell _ _ _)).same D _ hK rfl
   have hbY : Below w.heap.size w Y := by rw [hY]; exact (hi.below.setCell (p := ⟨w.heap.size + 1, 0, none⟩) (by simp) _).setCell (p := ⟨w.heap.size + 1 + 1, 0, none⟩) (by simp; omega) _
   rw [<- hY];refine ⟨by simp, .inl ⟨_, _, rfl, run_takeDeferred KD, ?_⟩⟩;have e1 := Boxed.cell (z2r x1 (o := .deferred none) (l := D) (by omega));have e2 := Boxed.cell (z2r x2 (o := .deferred none) (l := D) (by omega));refine ⟨_, by simp [results, Tryz.f189, go_sem, e1, e2]; rfl, ?_⟩;refine ⟨hbY.trans (belowK_b (w := w) (Nat.le_refl _) Y D _ _ (by omega) KD rfl rfl), .inl ?_⟩;rw [z7f hlen hdep hnf];exact ⟨by decide, rfl⟩
 case stop =>
  rintro D c pre W hD hpre ⟨rfl, hx⟩ hK;have x1 := hx.b1;have x2 := hx.b2;have hbY := hx.below;have hgr : ¬ (t.sz <= 400 /\ t.dp <= 60) := by
   rintro ⟨h1, h2⟩;rcases hx.great with h | ⟨x, hx2, h⟩
   ·have := hpre.length_le;rw [List.length_map, Tm.pre_length] at this;omega
   ·have hm : El.at x ∈ t.pre 1 := hpre.subset (List.mem_map_of_mem hx2);have := (Tm.pre_depth 1 t _ hm).2;simp only [El.at] at this;omega
  have KD := hK;gi_wp2
  refine ⟨by simp, .inl ⟨_, _, rfl, run_takeDeferred KD, ?_⟩⟩;have e1 := Boxed.cell (z2r x1 (o := .deferred none) (l := D) (by omega));have e2 := Boxed.cell (z2r x2 (o := .deferred none) (l := D) (by omega));refine ⟨_, by simp [results, Tryz.f189, go_sem, e1, e2]; rfl, ?_⟩;refine ⟨hbY.trans (belowK_b (w := w) (Nat.le_refl _) W D _ _ (by omega) KD rfl rfl), .inl ?_⟩;rw [z3z hgr];exact ⟨by decide, rfl⟩
theorem zcq {H : Type} (t : Tm) (p : Option Addr) (nn cap : Nat) (w : World) (hdp : t.dp <= 9000) (hs : SubAt w w.heap.size (.slice p nn cap) t.sub) (hfit : t.fit) (hT : zs w) (hlong : t.long = false) :
 Calls prog 189 #[.agg (Tm.cells t (.slice p nn cap)).toArray] w fun e w' => Below w.heap.size w w' /\
  ((z1r t ≠ 0 /\ e = .returned (.tuple #[.map none, .int .i64 (z1r t)])) ∨ (z1r t = 0 /\ ∃ B, w.heap.size <= B /\ e = .returned (.tuple #[.map (some B), .int .i64 0]) /\ ∃ D : DataW H, w'.ownsMap prog 9 (plainElem prog 3) B t.sz D /\ Knows t.nodes D)) :=
 (callsIn_wide (n := 3)).1 (zcr Fence.wide rfl rfl (fun _ => trivial) (fun _ h => callsIn_wide.2 h) 3 t p nn cap w hdp hs hfit hT hlong (by omega))
theorem z8s (t : Tm) (p : Option Addr) (nn cap : Nat) (w : World) (hdp : t.dp <= 9000) (hs : SubAt w w.heap.size (.slice p nn cap) t.sub) (hfit : t.fit) (hT : zs w) (hlong : t.long = false) :
 Calls prog 186 #[.agg (Tm.cells t (.slice p nn cap)).toArray] w fun e w' => e = .returned (.int .i64 (z1r t)) /\ Below w.heap.size w w' := by
 obtain ⟨W1, hW1⟩ : ∃ W1, W1 = w.alloc (.cells (Tm.cells t (.slice p nn cap)).toArray 90) := ⟨_, rfl⟩;have hb1 : Below w.heap.size w W1 := by rw [hW1]; exact (Below.refl _ _).alloc (Nat.le_refl _) _
 have HC := hid (zcq (H := Unit) t p nn cap W1 hdp (hs.kept hb1 |>.up hb1.size) hfit (hT.below hb1) hlong);rw [hW1] at HC;simp only [Tm.cells] at HC;have HB := hid hb1;clear hb1 hs hT;rw [hW1] at HB;simp only [Tm.cells] at HB ⊢;go_enter Tryz.func186, Tryz.ntmps186
 go_wp2_with (go_at_call 189; refine HC.out.mono ?_; rintro e w' ⟨hb, (⟨hne, rfl⟩ | ⟨h0, B, hB, rfl, _⟩)⟩)
 ·go_ret
  exact ⟨rfl, HB.out.trans (hb.mono HB.out.size)⟩
 ·go_ret
  exact ⟨by rw [h0]; rfl, HB.out.trans (hb.mono HB.out.size)⟩
end Go.Proofs.YtdmadnfadgggcaaGreatDoor
namespace Go.Proofs.YtdmadnfadgggcaaGreatDoor
open Go.RowKit
mutual
theorem z61 : ∀ t : Tm, t.dp <= t.sz
 | .mk k w b s lo l => by simp only [Tm.dp, Tm.sz]; have := z30 l; omega
theorem z30 : ∀ l : List Tm, Tm.dps l <= Tm.szs l
 | [] => by simp [Tm.dps, Tm.szs]
 | t :: l => by simp only [Tm.dps, Tm.szs]; have := z61 t; have := z30 l; omega
end
set_option maxRecDepth 100000 in
theorem z6r : ∀ (z : Nat) (t : Tm), t.sz <= z -> z <= 9000 -> ∀ (sv : Value) (B : Nat) (W : World), B <= W.heap.size -> SubAt W B sv t.sub ->
 Calls prog 73 #[.agg (Tm.cells t sv).toArray] W fun e w' => e = .returned (.int .i64 (t.sz : Nat)) /\ Below W.heap.size W w' := by
 intro z
 induction z with
 | zero => intro t ht; rw [Tm.sz_eq] at ht; omega
 | succ z ih =>
   intro t ht hz sv B W hB hs;obtain ⟨p, nn, cap, S, rfl, hlen, hmax, _, hcells, hsubs⟩ := hs.inv;obtain ⟨W1, hW1⟩ : ∃ W1, W1 = W.alloc (.cells #[.int .u8 t.kind, .int .i64 t.width, .int .u64 t.bits, .string t.name, .int .i64 t.low, .slice p nn cap] 90) := ⟨_, rfl⟩;have hb1 : Below W.heap.size W W1 := by rw [hW1]; exact (Below.refl _ _).alloc (Nat.le_refl _) _
   have hnew : W1.heap[W.heap.size]? = some (.cells #[.int .u8 t.kind, .int .i64 t.width, .int .u64 t.bits, .string t.name, .int .i64 t.low, .slice p nn cap] 90 (0, 0)) := by rw [hW1]; exact z5p rfl _
   have hsz1 : W1.heap.size = W.heap.size + 1 := by rw [hW1]; simp
   have H1 := hid (And.intro hb1 (And.intro hnew (And.intro hsz1 (And.intro hcells hsubs))));have HW := hid hW1;have HE := hid (Tm.sz_eq t);have hszt := Tm.sz_eq t;have hmx : t.sz <= 9000 := by omega
   have HTS := hid (And.intro hszt (And.intro hmx ht));clear hb1 hnew hsz1 hcells hsubs hs;simp only [Tm.cells];go_enter Tryz.func73, Tryz.ntmps73
   go_wp2
   rw [<- HW.out];clear hW1;go_loopw [3, 4] (fun vn vi wr => ∃ k : Nat, vi = .int .i64 k /\ vn = .int .i64 ((Tm.szs (t.sub.take k) + 1 : Nat) : Int) /\ k <= nn /\ Below W1.heap.size W1 wr) (fun _ vi _ => nn - (intOf vi).toNat)
   case atStart => exact ⟨0, rfl, by simp [Tm.szs], by omega, Below.refl _ _⟩
   case round =>
    obtain ⟨k, rfl, rfl, hk, hb⟩ := hrel;have HB := hid hb;clear hb;obtain ⟨hb1, hnew, hsz1, hcells, hsubs⟩ := H1.out;have b5 : wr.cell? ⟨W.heap.size, 5, none⟩ = some (.slice p nn cap) := (by rw [HB.out.cell (by simp [hsz1])]; simp [World.cell?, hnew]);have hWB : Below W.heap.size W wr := hb1.trans (HB.out.mono hb1.size);by_cases hlt : k < nn
    ·obtain ⟨u, hu⟩ : ∃ u, t.sub[k]? = some u := ⟨_, List.getElem?_eq_getElem (by omega)⟩;obtain ⟨b, o, rfl, hbn, a0, a1, a2, a3, a4, a5⟩ := hcells k u hu;rw [<- hWB.cell (Nat.lt_of_lt_of_le hbn hB)] at a0 a1 a2 a3 a4 a5;have hsz := Tm.sz_mem (List.mem_of_getElem? hu);have hC := ih u (by omega) (by omega) (S k) B wr (Nat.le_trans hB hWB.size) ((hsubs k u hu).kept (hWB.mono hB));simp only [Tm.cells] at hC;have HC := hid hC;have HU := hid hu;have hsp : Tm.szs (t.sub.take k) + u.sz <= Tm.szs t.sub := by
      have e := congrArg Tm.szs (List.take_append_drop (k + 1) t.sub);rw [Tm.szs_append, z1f hu, Tm.szs_append, Tm.szs_cons, Tm.szs_nil] at e;omega
     have HSP := hid hsp;have hdt := z61 u;have hds := z30 (t.sub.take k);obtain ⟨ru, hru⟩ : ∃ ru, ru = u.sz := ⟨_, rfl⟩;obtain ⟨rs, hrs⟩ : ∃ rs, rs = Tm.szs (t.sub.take k) + 1 := ⟨_, rfl⟩;rw [<- hru] at HC;have hrb : rs <= 9001 /\ ru <= 9001 := (by rw [hru, hrs]; omega);have HRU := hid hru;have HRS := hid hrs;rw [<- hrs];clear hC hu hsz hszt hWB hbn hcells hsubs hb1 hnew hsz1 hsp hru hrs hdt hds;go_wp2_with (go_at_call 73; (with_reducible refine HC.out.mono ?_); rintro e w2 ⟨rfl, hb2⟩)
     go_roundw
     case rel => exact ⟨k + 1, by first | rfl | (rw [zd _ (by unfold maxLen at hmax; omega) (by unfold maxLen at hmax; omega)]; rfl), by (try rw [zd _ (by omega) (by omega)]); rw [z1f HU.out, Tm.szs_append, Tm.szs_cons, Tm.szs_nil]; have h1 := HRU.out; have h2 := HRS.out; congr 1; omega, by omega, HB.out.trans (hb2.mono HB.out.size)⟩
     case measure => (try rw [zd _ (by unfold maxLen at hmax; omega) (by unfold maxLen at hmax; omega)]); simp only [intOf]; omega
    ·obtain rfl : k = nn := by omega
     have hall : t.sub.take k = t.sub := List.take_of_length_le (by omega);have hdt := z30 t.sub;obtain ⟨hszt2, hmx2, _⟩ := HTS.out;rw [hall];obtain ⟨rs, hrs⟩ : ∃ rs, rs = Tm.szs t.sub + 1 := ⟨_, rfl⟩;have hrb : rs <= 9001 := (by rw [hrs]; omega);have HRS := hid hrs;rw [<- hrs];clear hcells hsubs hnew hsz1 hrs hdt hszt2 hmx2 hszt;go_wp2
     go_ret
     refine ⟨?_, hWB⟩;rw [HE.out, <- HRS.out]; rfl
set_option maxRecDepth 100000 in
theorem z9m : ∀ (z : Nat) (t : Tm), t.sz <= z -> z <= 9000 -> ∀ (sv : Value) (B : Nat) (W : World), B <= W.heap.size -> SubAt W B sv t.sub ->
 Calls prog 166 #[.agg (Tm.cells t sv).toArray] W fun e w' => e = .returned (.int .i64 (t.dp : Nat)) /\ Below W.heap.size W w' := by
 intro z
 induction z with
 | zero => intro t ht; rw [Tm.sz_eq] at ht; omega
 | succ z ih =>
   intro t ht hz sv B W hB hs;obtain ⟨p, nn, cap, S, rfl, hlen, hmax, _, hcells, hsubs⟩ := hs.inv;obtain ⟨W1, hW1⟩ : ∃ W1, W1 = W.alloc (.cells #[.int .u8 t.kind, .int .i64 t.width, .int .u64 t.bits, .string t.name, .int .i64 t.low, .slice p nn cap] 90) := ⟨_, rfl⟩;have hb1 : Below W.heap.size W W1 := by rw [hW1]; exact (Below.refl _ _).alloc (Nat.le_refl _) _
   have hnew : W1.heap[W.heap.size]? = some (.cells #[.int .u8 t.kind, .int .i64 t.width, .int .u64 t.bits, .string t.name, .int .i64 t.low, .slice p nn cap] 90 (0, 0)) := by rw [hW1]; exact z5p rfl _
   have hsz1 : W1.heap.size = W.heap.size + 1 := by rw [hW1]; simp
   have H1 := hid (And.intro hb1 (And.intro hnew (And.intro hsz1 (And.intro hcells hsubs))));have HW := hid hW1;have HE := hid (Tm.dp_eq t);have hszt := Tm.sz_eq t;have hmx : t.sz <= 9000 := by omega
   have HTS := hid (And.intro hszt (And.intro hmx ht));clear hb1 hnew hsz1 hcells hsubs hs;simp only [Tm.cells];go_enter Tryz.func166, Tryz.ntmps166
   go_wp2
   rw [<- HW.out];clear hW1;go_loopw [3, 4] (fun vn vi wr => ∃ k : Nat, vi = .int .i64 k /\ vn = .int .i64 ((Tm.dps (t.sub.take k) : Nat) : Int) /\ k <= nn /\ Below W1.heap.size W1 wr) (fun _ vi _ => nn - (intOf vi).toNat)
   case atStart => exact ⟨0, rfl, by simp [Tm.dps], by omega, Below.refl _ _⟩
   case round =>
    obtain ⟨k, rfl, rfl, hk, hb⟩ := hrel;have HB := hid hb;clear hb;obtain ⟨hb1, hnew, hsz1, hcells, hsubs⟩ := H1.out;have b5 : wr.cell? ⟨W.heap.size, 5, none⟩ = some (.slice p nn cap) := (by rw [HB.out.cell (by simp [hsz1])]; simp [World.cell?, hnew]);have hWB : Below W.heap.size W wr := hb1.trans (HB.out.mono hb1.size);by_cases hlt : k < nn
    ·obtain ⟨u, hu⟩ : ∃ u, t.sub[k]? = some u := ⟨_, List.getElem?_eq_getElem (by omega)⟩;obtain ⟨b, o, rfl, hbn, a0, a1, a2, a3, a4, a5⟩ := hcells k u hu;rw [<- hWB.cell (Nat.lt_of_lt_of_le hbn hB)] at a0 a1 a2 a3 a4 a5;have hsz := Tm.sz_mem (List.mem_of_getElem? hu);have hC := ih u (by omega) (by omega) (S k) B wr (Nat.le_trans hB hWB.size) ((hsubs k u hu).kept (hWB.mono hB));simp only [Tm.cells] at hC;have HC := hid hC;have HU := hid hu;have hsp : Tm.szs (t.sub.take k) + u.sz <= Tm.szs t.sub := by
      have e := congrArg Tm.szs (List.take_append_drop (k + 1) t.sub);rw [Tm.szs_append, z1f hu, Tm.szs_append, Tm.szs_cons, Tm.szs_nil] at e;omega
     have HSP := hid hsp;have hdt := z61 u;have hds := z30 (t.sub.take k);obtain ⟨ru, hru⟩ : ∃ ru, ru = u.dp := ⟨_, rfl⟩;obtain ⟨rs, hrs⟩ : ∃ rs, rs = Tm.dps (t.sub.take k) := ⟨_, rfl⟩;rw [<- hru] at HC;have hrb : rs <= 9001 /\ ru <= 9001 := (by rw [hru, hrs]; omega);have HRU := hid hru;have HRS := hid hrs;rw [<- hrs];clear hC hu hsz hszt hWB hbn hcells hsubs hb1 hnew hsz1 hsp hru hrs hdt hds;go_wp2_with (go_at_call 166; (with_reducible refine HC.out.mono ?_); rintro e w2 ⟨rfl, hb2⟩)
     go_roundw
     case rel => exact ⟨k + 1, by first | rfl | (rw [zd _ (by unfold maxLen at hmax; omega) (by unfold maxLen at hmax; omega)]; rfl), by rw [z1f HU.out, Tm.dps_append]; have h1 := HRU.out; have h2 := HRS.out; simp only [Tm.dps]; congr 1; omega, by omega, HB.out.trans (hb2.mono HB.out.size)⟩
     case measure => (try rw [zd _ (by unfold maxLen at hmax; omega) (by unfold maxLen at hmax; omega)]); simp only [intOf]; omega
    ·obtain rfl : k = nn := by omega
     have hall : t.sub.take k = t.sub := List.take_of_length_le (by omega);have hdt := z30 t.sub;obtain ⟨hszt2, hmx2, _⟩ := HTS.out;rw [hall];obtain ⟨rs, hrs⟩ : ∃ rs, rs = Tm.dps t.sub := ⟨_, rfl⟩;have hrb : rs <= 9001 := (by rw [hrs]; omega);have HRS := hid hrs;rw [<- hrs];clear hcells hsubs hnew hsz1 hrs hdt hszt2 hmx2 hszt;go_wp2
     go_ret
     refine ⟨?_, hWB⟩;rw [HE.out, <- HRS.out]; (try rw [zd _ (by omega) (by omega)]); rfl
end Go.Proofs.YtdmadnfadgggcaaGreatDoor
