import Derived.Test.YtdmadnfadgggcaaGreatDoorGa
import Derived.Laws.Rows
import Derived.Deep.QuietTactic
import Derived.BigQuiet
import Derived.Test.YtdmadnfadgggcaaGreatDoorGe
import Derived.Deep.Slices
import Derived.Deep.SlicePairs
import Derived.RangeFuncNested
import Derived.RangeFuncCalls
import Derived.OrdersIn
import Derived.StillTailTactics
import Derived.WalkKit
import Derived.Lib.QuietBelow
import Derived.Laws.CopyOwn
import Derived.Laws.Tables
import Derived.IntWalk
import Derived.Test.YtdmadnfadgggcaaGreatDoorGc
import Derived.RangeFuncKeeps
import Derived.RangeFuncBound
import Derived.RangeFuncLeaves
import Derived.RangeFuncBox
import Derived.Shelf.Abstract
import Derived.OwnWalkIn
import Derived.TacticsInMore
import Derived.LoopIn
import Derived.Laws.EntriesVeiled
import Derived.Maps.AppendAt
set_option linter.unusedVariables false
set_option linter.unusedSimpArgs false
set_option warningAsError false
namespace Go.Proofs.YtdmadnfadgggcaaGreatDoor
open Go.RowKit Go.Instr
set_option maxRecDepth 100000
def inB (n a b : Int) : Bool := decide (a <= n /\ n <= b)
end Go.Proofs.YtdmadnfadgggcaaGreatDoor
namespace Go.Proofs.YtdmadnfadgggcaaGreatDoor
open Go.RowKit Go.Instr Go.Sort
set_option maxRecDepth 100000
set_option maxHeartbeats 4000000
def pcOk (size : Int) (x : MPiece) : Bool := inB x.len 1 size && inB x.pos 0 (size - x.len)
def pcM (x : MPiece) : Nat := mk x.len.toNat * 2 ^ x.pos.toNat
theorem zb6 {size : Int} {x : MPiece} (hs : size <= 64) (h : pcOk size x = true) : pcM x < 2 ^ size.toNat /\ pcM x < 18446744073709551616 := by
 unfold pcOk inB at h;simp at h;obtain ⟨⟨h1, h2⟩, h3, h4⟩ := h;have e : x.len.toNat + x.pos.toNat <= size.toNat := by omega
 have h5 : mk x.len.toNat * 2 ^ x.pos.toNat < 2 ^ x.len.toNat * 2 ^ x.pos.toNat := Nat.mul_lt_mul_of_pos_right (by have := zae x.len.toNat; omega) (Nat.two_pow_pos _);rw [<- Nat.pow_add] at h5;have h6 := Nat.pow_le_pow_right (n := 2) (by omega) e;have h7 := zem size.toNat (by omega);unfold pcM;omega
end Go.Proofs.YtdmadnfadgggcaaGreatDoor
namespace Go.Proofs.YtdmadnfadgggcaaGreatDoor
open Go.RowKit
def MPiece.p (x : MPiece) : Nat := x.pos.toNat
def MPiece.l (x : MPiece) : Nat := x.len.toNat
theorem zhe (x : MPiece) : pcM x = (2 ^ x.l - 1) * 2 ^ x.p := rfl
def MPiece.has (x : MPiece) (j : Nat) : Bool := decide (x.p <= j /\ j < x.p + x.l)
def hasL (L : List MPiece) (j : Nat) : Bool := L.any (fun x => x.has j)
def z2w : List MPiece -> Nat | [] => 0 | x :: L => x.l + z2w L
def z2k (size : Int) : Nat -> List MPiece -> Prop
 | _, [] => True
 | m, x :: L => pcOk size x = true /\ m &&& pcM x = 0 /\ z2k size (m ||| pcM x) L
def z7a (m : Nat) : List MPiece -> Nat | [] => m | x :: L => z7a (m ||| pcM x) L
theorem z3r (x : MPiece) (j : Nat) : (pcM x).testBit j = x.has j := by rw [zhe];unfold MPiece.has;rw [Nat.testBit_mul_two_pow, Nat.testBit_two_pow_sub_one];rw [Bool.eq_iff_iff];simp;omega
theorem z62 {size : Int} {x : MPiece} : pcOk size x = true ↔ 1 <= x.len /\ x.len <= size /\ 0 <= x.pos /\ x.pos <= size - x.len := by unfold pcOk inB; simp [and_assoc]
theorem z2o {a b : Nat} : a &&& b = 0 ↔ ∀ j, ¬ (a.testBit j = true /\ b.testBit j = true) := by
 constructor
 ·intro h j ⟨h1, h2⟩;have := congrArg (fun z => z.testBit j) h;simp [h1, h2] at this
 ·intro h;apply Nat.eq_of_testBit_eq;intro j;have := h j;simp only [Nat.testBit_and, Nat.zero_testBit];cases h1 : a.testBit j <;> cases h2 : b.testBit j <;> simp_all
theorem z2k.mem {size : Int} : ∀ {L : List MPiece} {m : Nat}, z2k size m L -> ∀ x ∈ L, pcOk size x = true /\ m &&& pcM x = 0
 | y :: L, m, h, x, hx => by
   cases hx with
   | head => exact ⟨h.1, h.2.1⟩
   | tail _ hx => obtain ⟨h1, h2⟩ := z2k.mem h.2.2 x hx;refine ⟨h1, z2o.2 fun j ⟨a, b⟩ => z2o.1 h2 j ⟨?_, b⟩⟩;rw [Nat.testBit_or, a]; rfl
theorem z2k.free {size : Int} {L : List MPiece} {m : Nat} (h : z2k size m L) (j : Nat) (hj : hasL L j = true) : m.testBit j = false := by unfold hasL at hj;rw [List.any_eq_true] at hj;obtain ⟨x, hx, hb⟩ := hj;have := z2o.1 (h.mem x hx).2 j;rw [z3r, hb] at this;simpa using this
theorem z2k.sub {size : Int} : ∀ {L : List MPiece} {m m' : Nat}, z2k size m L -> (∀ j, m'.testBit j = true -> m.testBit j = true) -> z2k size m' L
 | [], _, _, _, _ => trivial
 | x :: L, m, m', h, hs => ⟨h.1, z2o.2 fun j ⟨a, b⟩ => z2o.1 h.2.1 j ⟨hs j a, b⟩, z2k.sub h.2.2 fun j hj => by rw [Nat.testBit_or, Bool.or_eq_true] at hj ⊢;exact hj.imp (hs j) id⟩
theorem z98 : ∀ (L : List MPiece) (m j : Nat), (z7a m L).testBit j = (m.testBit j || hasL L j)
 | [], m, j => by simp [z7a, hasL]
 | x :: L, m, j => by rw [z7a, z98 L, Nat.testBit_or, z3r, Bool.or_assoc];rfl
def cnt (p : Nat -> Bool) : Nat -> Nat | 0 => 0 | n + 1 => cnt p n + if p n = true then 1 else 0
theorem zgi (p : Nat -> Bool) : ∀ n, cnt p n <= n
 | 0 => Nat.le_refl _
 | n + 1 => by have := zgi p n; simp only [cnt]; split <;> omega
theorem zgj {p q : Nat -> Bool} : ∀ n, (∀ i, i < n -> ¬ (p i = true /\ q i = true)) -> cnt (fun i => p i || q i) n = cnt p n + cnt q n
 | 0, _ => rfl
 | n + 1, h => by
   have ih := zgj (p := p) (q := q) n (fun i hi => h i (by omega));have h0 := h n (by omega);simp only [cnt, ih, Bool.or_eq_true];by_cases hp : p n = true <;> by_cases hq : q n = true
   ·exact absurd ⟨hp, hq⟩ h0
   ·simp [hp, hq]; omega
   ·simp [hp, hq]; omega
   ·simp [hp, hq]
theorem zd7 (a l : Nat) : ∀ n, cnt (fun i => decide (a <= i /\ i < a + l)) n = min n (a + l) - min n a
 | 0 => by simp [cnt]
 | n + 1 => by have ih := zd7 a l n;simp only [cnt, ih, decide_eq_true_eq];split <;> omega
def pop (m n : Nat) : Nat := cnt (fun i => m.testBit i) n
theorem zhf {m : Nat} {x : MPiece} (n : Nat) (h : m &&& pcM x = 0) (hx : x.p + x.l <= n) : pop (m ||| pcM x) n = pop m n + x.l := by
 unfold pop;have e : (fun i => (m ||| pcM x).testBit i) = fun i => m.testBit i || decide (x.p <= i /\ i < x.p + x.l) := by funext i;rw [Nat.testBit_or, z3r]; rfl
 rw [e, zgj n, zd7]
 ·have e9 : cnt (fun i => m.testBit i) n = cnt m.testBit n := rfl;omega
 ·rintro i _ ⟨a, b⟩;exact z2o.1 h i ⟨a, by rw [z3r]; exact b⟩
theorem z2k.width {size : Int} : ∀ {L : List MPiece} {m : Nat}, z2k size m L -> pop m size.toNat + z2w L <= size.toNat
 | [], m, _ => by have := zgi (fun i => m.testBit i) size.toNat; unfold pop z2w; omega
 | x :: L, m, h => by have ih := z2k.width h.2.2;obtain ⟨c1, c2, c3, c4⟩ := z62.1 h.1;rw [zhf _ h.2.1 (by unfold MPiece.p MPiece.l; omega)] at ih;simp only [z2w];omega
end Go.Proofs.YtdmadnfadgggcaaGreatDoor
namespace Go.Proofs.YtdmadnfadgggcaaGreatDoor
open Go.RowKit
set_option maxRecDepth 100000
def mm (c : Nat) : Nat -> Nat | 0 => 0 | k + 1 => 256 * mm c k + c
def s1 (k x : Nat) : Nat := (x / 2 &&& mm 85 k) + (x &&& mm 85 k)
def s2 (k x : Nat) : Nat := (x / 4 &&& mm 51 k) + (x &&& mm 51 k)
def s3 (k x : Nat) : Nat := (x / 16 + x) &&& mm 15 k
def s1b (r : Nat) : Nat := (r / 2 &&& 85) + (r &&& 85)
def s2b (r : Nat) : Nat := (r / 4 &&& 51) + (r &&& 51)
def s3b (r : Nat) : Nat := (r / 16 + r) &&& 15
def ones : Nat -> Nat -> Nat | 0, _ => 0 | k + 1, x => ones k (x / 256) + s3b (s2b (s1b (x % 256)))
end Go.Proofs.YtdmadnfadgggcaaGreatDoor
namespace Go.Proofs.YtdmadnfadgggcaaGreatDoor
open Go.RowKit Go.Shelf Go.Deep
attribute [local go_sem] Oper.semAt_some
end Go.Proofs.YtdmadnfadgggcaaGreatDoor
namespace Go.Proofs.YtdmadnfadgggcaaGreatDoor
open Go.RowKit Go.Shelf Go.Deep Go.Instr Go.Sort
attribute [local go_sem] Oper.semAt_some
end Go.Proofs.YtdmadnfadgggcaaGreatDoor
