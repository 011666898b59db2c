import Derived.Test.YtjjfeddenhemhaaGreatDoorGa
import Derived.Laws.Rows
import Derived.Deep.QuietTactic
import Derived.BigQuiet
import Derived.Test.YtjjfeddenhemhaaGreatDoorGe
import Derived.Deep.Slices
import Derived.Deep.SlicePairs
import Derived.RangeFuncNested
import Derived.RangeFuncCalls
import Derived.OrdersIn
import Derived.StillTailTactics
import Derived.WalkKit
import Derived.Lib.QuietBelow
import Derived.Laws.CopyOwn
import Derived.Laws.Tables
import Derived.IntWalk
import Derived.Test.YtjjfeddenhemhaaGreatDoorGc
import Derived.RangeFuncKeeps
import Derived.RangeFuncBound
import Derived.RangeFuncLeaves
import Derived.RangeFuncBox
import Derived.Shelf.Abstract
import Derived.OwnWalkIn
import Derived.TacticsInMore
import Derived.LoopIn
import Derived.Laws.EntriesVeiled
import Derived.Maps.AppendAt
namespace Go.Proofs.YtjjfeddenhemhaaGreatDoor
open Go.RowKit
theorem zy6 (n x : Nat) (w : World) (h0 : 1 ≤ n) (h1 : n ≤ 64) :
 Calls Tryz.prog 30 #[.int .i64 n, .int .u64 x] w fun e w' => e = .returned (.bool (okB n x)) ∧ w = w' := by
 have H := Lib.hid (zue n x)
 go_enter Tryz.func30, Tryz.ntmps30
 go_wp2_with (first
  | (go_at_call 53; refine (z47 _ _ (by omega) (by omega)).mono ?_; rintro e w' ⟨rfl, rfl⟩)
  | (go_at_call 32; refine (z33 _ _ h0 h1).mono ?_; rintro e w' ⟨rfl, rfl⟩))
 go_ret
 refine ⟨?_, rfl⟩
 show Ending.returned (.bool _) = _
 rw [H.out]
theorem zir (w : World) : Sem.run Tryz.prog (binOp BinOp.neq 170 Value.nilFunc Value.nilFunc) w = .ok (.bool false) w := by kernel_rfl
theorem znq (n : Int) (f xs : Value) (w : World) (h : n < 1 ∨ 64 < n) :
 Calls Tryz.prog 113 #[.int .i64 n, f, xs] w fun e w' => e = .returned (.int .i64 14) ∧ w = w' := by
 go_enter Tryz.func113, Tryz.ntmps113
 go_wp2_with (go_at_call 53; refine (zam _ _ h).mono ?_; rintro e w' ⟨rfl, rfl⟩)
 go_ret
 exact ⟨rfl, rfl⟩
theorem check0 (n : Nat) (w : World) (h0 : 1 ≤ n) (h1 : n ≤ 64) :
 Calls Tryz.prog 113 #[.int .i64 n, .nilFunc, .slice none 0 0] w fun e w' => e = .returned (.int .i64 0) ∧ w = w' := by
 have hn := zir
 go_enter Tryz.func113, Tryz.ntmps113
 go_wp2_with (go_at_call 53; refine (z47 _ _ (by omega) (by omega)).mono ?_; rintro e w' ⟨rfl, rfl⟩)
 refine wp_loop_rounds 1 ?_
 rw [rounds_succ]
 go_wp2
 go_ret
 exact ⟨rfl, rfl⟩
end Go.Proofs.YtjjfeddenhemhaaGreatDoor
namespace Go.Proofs.YtjjfeddenhemhaaGreatDoor
open Go.RowKit Go.Instr
set_option linter.unusedVariables false
set_option linter.unusedSimpArgs false
set_option maxRecDepth 100000
def zvn (e : Int) (L : List Bool) : Int := if L.all id = true then 0 else e
def inB (n a b : Int) : Bool := decide (a ≤ n ∧ n ≤ b)
def sgK (k : Int) : Bool := k == 2 || k == 4
end Go.Proofs.YtjjfeddenhemhaaGreatDoor
namespace Go.Proofs.YtjjfeddenhemhaaGreatDoor
open Go.RowKit
def lowN (g : Bool) (w : Nat) : Int := if g then -2 ^ (w - 1) else 0
def z7r (g : Bool) (w : Nat) : Int := if g then 2 ^ (w - 1) - 1 else 2 ^ w - 1
theorem pow32 (w : Nat) (h : w ≤ 32) : (1 : Int) ≤ 2 ^ w ∧ (2 : Int) ^ w ≤ 4294967296 := by
 have h1 := Nat.pow_le_pow_right (n := 2) (by omega) h
 have h2 := Nat.two_pow_pos w
 have e : ((2 : Int) ^ w) = ((2 ^ w : Nat) : Int) := by simp
 have h3 : 2 ^ w ≤ 4294967296 := by simpa using h1
 rw [e]
 clear e h1
 generalize 2 ^ w = P at *
 omega
theorem pow3 (s : Nat) (h : s ≤ 3) : (2 : Int) ^ s = 1 ∨ (2 : Int) ^ s = 2 ∨ (2 : Int) ^ s = 4 ∨ (2 : Int) ^ s = 8 := by
 match s, h with
 | 0, _ => simp
 | 1, _ => simp
 | 2, _ => simp
 | 3, _ => simp
theorem zug (w : Nat) (h : 1 ≤ w) : (2 : Int) ^ w = 2 * 2 ^ (w - 1) := by
 obtain ⟨m, rfl⟩ : ∃ m, w = m + 1 := ⟨w - 1, by omega⟩
 rw [Int.pow_succ, Nat.add_sub_cancel, Int.mul_comm]
def numB (g : Bool) (w s : Nat) (n : Int) : Bool := decide (n / 2 ^ s * 2 ^ s = n) && decide (lowN g w ≤ n / 2 ^ s ∧ n / 2 ^ s ≤ z7r g w)
theorem zky (s : Nat) (n : Int) (hs : s ≤ 3) (h0 : -9223372036854775808 ≤ n) (h1 : n ≤ 9223372036854775807) : wrap64 (n / 2 ^ s * 2 ^ s) = n / 2 ^ s * 2 ^ s := by
 apply zg <;> rcases pow3 s hs with h | h | h | h <;> rw [h] <;> omega
end Go.Proofs.YtjjfeddenhemhaaGreatDoor
namespace Go.Proofs.YtjjfeddenhemhaaGreatDoor
open Go.RowKit Go.Instr
set_option linter.unusedVariables false
set_option linter.unusedSimpArgs false
set_option maxRecDepth 100000
set_option maxHeartbeats 1000000
theorem zjp (B : Nat) (w : World) (n : Nat) : Below B w (w.drewN n) := ⟨rfl, rfl, rfl, Nat.le_refl _, fun _ _ => rfl⟩
def chkK (k w s : Int) : Int := zvn 2 [sgK k || k == 3, inB w 1 32, inB s 0 3]
def z5t (k : Int) (w s n : Int) : Nat × Int := if chkK k w s = 0 then (if numB (sgK k) w.toNat s.toNat n = true then (((n / 2 ^ s.toNat) % 2 ^ w.toNat).toNat, 0) else (0, 24)) else (0, chkK k w s)
theorem zut {k w s : Int} (h : chkK k w s = 0) : (1 ≤ w ∧ w ≤ 32) ∧ 0 ≤ s ∧ s ≤ 3 ∧ (sgK k = true ∨ k = 3) := by
 unfold chkK zvn inB at h
 split at h
 ·rename_i h'
  simp at h'
  obtain ⟨h1, h2, h3⟩ := h'
  exact ⟨h2, h3.1, h3.2, h1⟩
 ·cases h
end Go.Proofs.YtjjfeddenhemhaaGreatDoor
namespace Go.Proofs.YtjjfeddenhemhaaGreatDoor
open Go.RowKit Go.Instr Go.Sort
set_option linter.unusedVariables false
set_option linter.unusedSimpArgs false
set_option maxRecDepth 100000
set_option maxHeartbeats 4000000
def pcOk (size : Int) (x : MPiece) : Bool := inB x.len 1 size && inB x.pos 0 (size - x.len)
def pcM (x : MPiece) : Nat := mk x.len.toNat * 2 ^ x.pos.toNat
def z3b (size : Int) : Nat → List MPiece → Nat × Int
 | m, [] => (m, 0)
 | m, x :: L => if pcOk size x = true then (if m &&& pcM x = 0 then z3b size (m ||| pcM x) L else (0, 8)) else (0, 8)
def zx0 (size : Int) (L : List MPiece) : Nat × Int := if 1 ≤ size ∧ size ≤ 64 then (if L.length ≤ 4 then z3b size 0 L else (0, 4)) else (0, 2)
theorem zx9 {size : Int} {x : MPiece} (hs : size ≤ 64) (h : pcOk size x = true) : pcM x < 2 ^ size.toNat ∧ pcM x < 18446744073709551616 := by
 unfold pcOk inB at h
 simp at h
 obtain ⟨⟨h1, h2⟩, h3, h4⟩ := h
 have e : x.len.toNat + x.pos.toNat ≤ size.toNat := by omega
 have h5 : mk x.len.toNat * 2 ^ x.pos.toNat < 2 ^ x.len.toNat * 2 ^ x.pos.toNat := Nat.mul_lt_mul_of_pos_right (by have := zij x.len.toNat; omega) (Nat.two_pow_pos _)
 rw [← Nat.pow_add] at h5
 have h6 := Nat.pow_le_pow_right (n := 2) (by omega) e
 have h7 := zqh size.toNat (by omega)
 unfold pcM
 omega
end Go.Proofs.YtjjfeddenhemhaaGreatDoor
namespace Go.Proofs.YtjjfeddenhemhaaGreatDoor
open Go.RowKit
set_option linter.unusedVariables false
set_option linter.unusedSimpArgs false
def MPiece.p (x : MPiece) : Nat := x.pos.toNat
def MPiece.l (x : MPiece) : Nat := x.len.toNat
theorem zx8 (x : MPiece) : pcM x = (2 ^ x.l - 1) * 2 ^ x.p := rfl
def MPiece.has (x : MPiece) (j : Nat) : Bool := decide (x.p ≤ j ∧ j < x.p + x.l)
def hasL (L : List MPiece) (j : Nat) : Bool := L.any (fun x => x.has j)
def z2z : List MPiece → Nat | [] => 0 | x :: L => x.l + z2z L
def z3g (size : Int) : Nat → List MPiece → Prop
 | _, [] => True
 | m, x :: L => pcOk size x = true ∧ m &&& pcM x = 0 ∧ z3g size (m ||| pcM x) L
def zfl (m : Nat) : List MPiece → Nat | [] => m | x :: L => zfl (m ||| pcM x) L
theorem zbz (x : MPiece) (j : Nat) : (pcM x).testBit j = x.has j := by
 rw [zx8]
 unfold MPiece.has
 rw [Nat.testBit_mul_two_pow, Nat.testBit_two_pow_sub_one]
 rw [Bool.eq_iff_iff]
 simp
 omega
theorem zk0 {size : Int} : ∀ (L : List MPiece) (m : Nat), ((z3b size m L).2 = 0 ↔ z3g size m L) ∧ (z3g size m L → z3b size m L = (zfl m L, 0)) ∧ ((z3b size m L).2 = 0 ∨ z3b size m L = (0, 8))
 | [], m => ⟨by simp [z3b, z3g], fun _ => rfl, by simp [z3b]⟩
 | x :: L, m => by
   have ih := zk0 (size := size) L (m ||| pcM x)
   by_cases h1 : pcOk size x = true
   ·by_cases h2 : m &&& pcM x = 0
    ·have e : z3b size m (x :: L) = z3b size (m ||| pcM x) L := by simp only [z3b]; rw [if_pos h1, if_pos h2]
     rw [e]
     exact ⟨⟨(fun h => ⟨h1, h2, ih.1.1 h⟩), (fun h => ih.1.2 h.2.2)⟩, (fun h => ih.2.1 h.2.2), ih.2.2⟩
    ·have e : z3b size m (x :: L) = (0, 8) := by simp only [z3b]; rw [if_pos h1, if_neg h2]
     rw [e]
     exact ⟨⟨(fun h => by cases h), (fun h => absurd h.2.1 h2)⟩, (fun h => absurd h.2.1 h2), .inr rfl⟩
   ·have e : z3b size m (x :: L) = (0, 8) := by simp only [z3b]; rw [if_neg h1]
    rw [e]
    exact ⟨⟨(fun h => by cases h), (fun h => absurd h.1 h1)⟩, (fun h => absurd h.1 h1), .inr rfl⟩
theorem zc0 {size : Int} {x : MPiece} : pcOk size x = true ↔ 1 ≤ x.len ∧ x.len ≤ size ∧ 0 ≤ x.pos ∧ x.pos ≤ size - x.len := by
 unfold pcOk inB; simp [and_assoc]
theorem z59 {a b : Nat} : a &&& b = 0 ↔ ∀ j, ¬ (a.testBit j = true ∧ b.testBit j = true) := by
 constructor
 ·intro h j ⟨h1, h2⟩
  have := congrArg (fun z => z.testBit j) h
  simp [h1, h2] at this
 ·intro h
  apply Nat.eq_of_testBit_eq
  intro j
  have := h j
  simp only [Nat.testBit_and, Nat.zero_testBit]
  cases h1 : a.testBit j <;> cases h2 : b.testBit j <;> simp_all
theorem z3g.mem {size : Int} : ∀ {L : List MPiece} {m : Nat}, z3g size m L → ∀ x ∈ L, pcOk size x = true ∧ m &&& pcM x = 0
 | y :: L, m, h, x, hx => by
   cases hx with
   | head => exact ⟨h.1, h.2.1⟩
   | tail _ hx =>
     obtain ⟨h1, h2⟩ := z3g.mem h.2.2 x hx
     refine ⟨h1, z59.2 fun j ⟨a, b⟩ => z59.1 h2 j ⟨?_, b⟩⟩
     rw [Nat.testBit_or, a]; rfl
theorem z3g.free {size : Int} {L : List MPiece} {m : Nat} (h : z3g size m L) (j : Nat) (hj : hasL L j = true) : m.testBit j = false := by
 unfold hasL at hj
 rw [List.any_eq_true] at hj
 obtain ⟨x, hx, hb⟩ := hj
 have := z59.1 (h.mem x hx).2 j
 rw [zbz, hb] at this
 simpa using this
theorem z3g.sub {size : Int} : ∀ {L : List MPiece} {m m' : Nat}, z3g size m L → (∀ j, m'.testBit j = true → m.testBit j = true) → z3g size m' L
 | [], _, _, _, _ => trivial
 | x :: L, m, m', h, hs => ⟨h.1, z59.2 fun j ⟨a, b⟩ => z59.1 h.2.1 j ⟨hs j a, b⟩, z3g.sub h.2.2 fun j hj => by
    rw [Nat.testBit_or, Bool.or_eq_true] at hj ⊢
    exact hj.imp (hs j) id⟩
theorem zfm : ∀ (L : List MPiece) (m j : Nat), (zfl m L).testBit j = (m.testBit j || hasL L j)
 | [], m, j => by simp [zfl, hasL]
 | x :: L, m, j => by
   rw [zfl, zfm L, Nat.testBit_or, zbz, Bool.or_assoc]
   rfl
def cnt (p : Nat → Bool) : Nat → Nat | 0 => 0 | n + 1 => cnt p n + if p n = true then 1 else 0
theorem zu4 (p : Nat → Bool) : ∀ n, cnt p n ≤ n
 | 0 => Nat.le_refl _
 | n + 1 => by have := zu4 p n; simp only [cnt]; split <;> omega
theorem zu5 {p q : Nat → Bool} : ∀ n, (∀ i, i < n → ¬ (p i = true ∧ q i = true)) → cnt (fun i => p i || q i) n = cnt p n + cnt q n
 | 0, _ => rfl
 | n + 1, h => by
   have ih := zu5 (p := p) (q := q) n (fun i hi => h i (by omega))
   have h0 := h n (by omega)
   simp only [cnt, ih, Bool.or_eq_true]
   by_cases hp : p n = true <;> by_cases hq : q n = true
   ·exact absurd ⟨hp, hq⟩ h0
   ·simp [hp, hq]; omega
   ·simp [hp, hq]; omega
   ·simp [hp, hq]
theorem zns (a l : Nat) : ∀ n, cnt (fun i => decide (a ≤ i ∧ i < a + l)) n = min n (a + l) - min n a
 | 0 => by simp [cnt]
 | n + 1 => by
   have ih := zns a l n
   simp only [cnt, ih, decide_eq_true_eq]
   split <;> omega
def pop (m n : Nat) : Nat := cnt (fun i => m.testBit i) n
theorem zxd {m : Nat} {x : MPiece} (n : Nat) (h : m &&& pcM x = 0) (hx : x.p + x.l ≤ n) : pop (m ||| pcM x) n = pop m n + x.l := by
 unfold pop
 have e : (fun i => (m ||| pcM x).testBit i) = fun i => m.testBit i || decide (x.p ≤ i ∧ i < x.p + x.l) := by
  funext i
  rw [Nat.testBit_or, zbz]; rfl
 rw [e, zu5 n, zns]
 ·have e9 : cnt (fun i => m.testBit i) n = cnt m.testBit n := rfl
  omega
 ·rintro i _ ⟨a, b⟩
  exact z59.1 h i ⟨a, by rw [zbz]; exact b⟩
theorem z3g.width {size : Int} : ∀ {L : List MPiece} {m : Nat}, z3g size m L → pop m size.toNat + z2z L ≤ size.toNat
 | [], m, _ => by have := zu4 (fun i => m.testBit i) size.toNat; unfold pop z2z; omega
 | x :: L, m, h => by
   have ih := z3g.width h.2.2
   obtain ⟨c1, c2, c3, c4⟩ := zc0.1 h.1
   rw [zxd _ h.2.1 (by unfold MPiece.p MPiece.l; omega)] at ih
   simp only [z2z]
   omega
end Go.Proofs.YtjjfeddenhemhaaGreatDoor
namespace Go.Proofs.YtjjfeddenhemhaaGreatDoor
open Go.RowKit
set_option linter.unusedVariables false
set_option linter.unusedSimpArgs false
set_option maxRecDepth 100000
def mm (c : Nat) : Nat → Nat | 0 => 0 | k + 1 => 256 * mm c k + c
def s1 (k x : Nat) : Nat := (x / 2 &&& mm 85 k) + (x &&& mm 85 k)
def s2 (k x : Nat) : Nat := (x / 4 &&& mm 51 k) + (x &&& mm 51 k)
def s3 (k x : Nat) : Nat := (x / 16 + x) &&& mm 15 k
def s1b (r : Nat) : Nat := (r / 2 &&& 85) + (r &&& 85)
def s2b (r : Nat) : Nat := (r / 4 &&& 51) + (r &&& 51)
def s3b (r : Nat) : Nat := (r / 16 + r) &&& 15
def ones : Nat → Nat → Nat | 0, _ => 0 | k + 1, x => ones k (x / 256) + s3b (s2b (s1b (x % 256)))
end Go.Proofs.YtjjfeddenhemhaaGreatDoor
namespace Go.Proofs.YtjjfeddenhemhaaGreatDoor
open Go.RowKit Go.Shelf Go.Deep
set_option linter.unusedVariables false
set_option linter.unusedSimpArgs false
attribute [local go_sem] Oper.semAt_some
def MPiece.fits (x : MPiece) : Prop := 1 ≤ x.len ∧ 0 ≤ x.pos ∧ x.pos + x.len ≤ 64
end Go.Proofs.YtjjfeddenhemhaaGreatDoor
namespace Go.Proofs.YtjjfeddenhemhaaGreatDoor
open Go.RowKit Go.Instr Go.Sort
set_option linter.unusedVariables false
set_option linter.unusedSimpArgs false
set_option maxRecDepth 100000
set_option maxHeartbeats 1000000
theorem zri (r n : Nat) (hr : r < 18446744073709551616) (h1 : n ≤ 64) : bits .and .u64 (r : Int) ((mk n : Nat) : Int) = ((r % 2 ^ n : Nat) : Int) := by
 rw [bits_and_u64_nat r (mk n) hr (zsw n h1)]
 unfold mk
 rw [Nat.and_two_pow_sub_one_eq_mod]
theorem ziw (n : Nat) (z : Int) (h1 : n ≤ 64) : bits .and .u64 (IntKind.u64.wrap z) ((mk n : Nat) : Int) = ((z % 2 ^ n).toNat : Int) := by
 have h2 := Int.emod_nonneg z (show (18446744073709551616 : Int) ≠ 0 by decide)
 have h3 := Int.emod_lt_of_pos z (show (0 : Int) < 18446744073709551616 by decide)
 obtain ⟨r, hr⟩ : ∃ r : Nat, z % 18446744073709551616 = r := ⟨(z % 18446744073709551616).toNat, by omega⟩
 rw [IntKind.wrap_u64, hr, zri r n (by omega) h1]
 congr 1
 have hs := zfz n h1
 have e : z % 2 ^ n = ((r % 2 ^ n : Nat) : Int) := by
  rw [Int.natCast_emod, ← hr, Int.natCast_pow]
  have hd : ((2 : Int) ^ n) ∣ 18446744073709551616 := ⟨((2 ^ (64 - n) : Nat) : Int), by
   have : ((2 ^ n * 2 ^ (64 - n) : Nat) : Int) = ((18446744073709551616 : Nat) : Int) := by rw [hs]
   rw [Int.natCast_mul, Int.natCast_pow] at this
   exact this.symm⟩
  exact (Int.emod_emod_of_dvd z hd).symm
 rw [e]
 omega
end Go.Proofs.YtjjfeddenhemhaaGreatDoor
namespace Go.Proofs.YtjjfeddenhemhaaGreatDoor
open Go.RowKit Go.Shelf Go.Deep Go.Instr Go.Sort
set_option linter.unusedVariables false
set_option linter.unusedSimpArgs false
attribute [local go_sem] Oper.semAt_some
end Go.Proofs.YtjjfeddenhemhaaGreatDoor
