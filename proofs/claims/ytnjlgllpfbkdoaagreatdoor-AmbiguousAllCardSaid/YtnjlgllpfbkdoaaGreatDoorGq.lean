/- Merged texts: QBitsCheck, QFmtNeed, QFmtMath, QFmtSpan, QFmtNumber, QFmtOpen, RoundRegion, QFmtMask, QFmtLayMath, QFmtPlaced, QFmtWord, QFmtGet, Ones. -/
import Derived.Test.YtnjlgllpfbkdoaaGreatDoorGa
import Derived.Laws.Rows
import Derived.Deep.QuietTactic
import Derived.BigQuiet
import Derived.Lib.QuietBelow
import Derived.Laws.CopyOwn
import Derived.Laws.Tables
import Derived.Test.YtnjlgllpfbkdoaaGreatDoorGe
import Derived.Deep.Slices
import Derived.Deep.SlicePairs
import Derived.RangeFuncNested
import Derived.RangeFuncCalls
import Derived.OrdersIn
import Derived.StillTailTactics
import Derived.WalkKit
import Derived.IntWalk
import Derived.Test.YtnjlgllpfbkdoaaGreatDoorGc
import Derived.RangeFuncKeeps
import Derived.RangeFuncBound
import Derived.RangeFuncLeaves
import Derived.RangeFuncBox
import Derived.Shelf.Abstract
import Derived.OwnWalkIn
import Derived.TacticsInMore
import Derived.LoopIn
import Derived.Laws.EntriesVeiled
import Derived.Maps.AppendAt
namespace Go.Proofs.YtnjlgllpfbkdoaaGreatDoor
open Go.RowKit

theorem qok_any (n x : Nat) (w : World) (h0 : 1 ≤ n) (h1 : n ≤ 64) :
    Calls Tryz.prog 117 #[.int .i64 n, .int .u64 x] w fun e w' => e = .returned (.bool (okB n x)) ∧ w = w' := by
  have H := Lib.hid (okB_le n x)
  go_enter Tryz.func117, Tryz.ntmps117
  go_wp2_with (first
    | (go_at_call 115; refine (isWidth_yes _ _ (by omega) (by omega)).mono ?_; rintro e w' ⟨rfl, rfl⟩)
    | (go_at_call 83; refine (mask_yes _ _ h0 h1).mono ?_; rintro e w' ⟨rfl, rfl⟩))
  go_ret
  refine ⟨?_, rfl⟩
  show Ending.returned (.bool _) = _
  rw [H.out]
theorem qok_no (n : Int) (x : Nat) (w : World) (h : n < 1 ∨ 64 < n) :
    Calls Tryz.prog 117 #[.int .i64 n, .int .u64 x] w fun e w' => e = .returned (.bool false) ∧ w = w' := by
  go_enter Tryz.func117, Tryz.ntmps117
  go_wp2_with (go_at_call 115; refine (isWidth_no _ _ h).mono ?_; rintro e w' ⟨rfl, rfl⟩)
  go_ret
  exact ⟨rfl, rfl⟩

/-- What check says of two values, of one. -/
def chk2 (n a b : Nat) : Int := if okB n a = true ∧ okB n b = true then 0 else 8
def chk1 (n a : Nat) : Int := if okB n a = true then 0 else 8

end Go.Proofs.YtnjlgllpfbkdoaaGreatDoor
namespace Go.Proofs.YtnjlgllpfbkdoaaGreatDoor
open Go.RowKit Go.Instr
set_option linter.unusedVariables false
set_option linter.unusedSimpArgs false
set_option maxRecDepth 100000

/-- A row of conditions in a fresh block. -/
def boolO (L : List Bool) : Obj := .cells (L.map .bool).toArray 4
theorem boolO_cell (w : World) (L : List Bool) (i : Nat) (b : Bool) (h : L[i]? = some b) : (w.alloc (boolO L)).cell? ⟨w.heap.size, i, none⟩ = some (.bool b) := by
  simp only [World.cell?]
  rw [show (w.alloc (boolO L)).heap[w.heap.size]? = some (boolO L) from heap_alloc_new w (boolO L)]
  simp [boolO, h]

set_option maxHeartbeats 4000000 in
theorem qidx_false (L : List Bool) (w : World) (hL : L.length ≤ 4) :
    Calls Tryz.prog 134 #[.slice (some ⟨w.heap.size, 0, none⟩) L.length L.length, .bool false] (w.alloc (boolO L)) fun e w' => (∃ z : Int, e = .returned (.int .i64 z) ∧ decide (0 ≤ z) = !(L.all id)) ∧ w.alloc (boolO L) = w' := by
  have HC := Lib.hid (boolO_cell w L)
  obtain ⟨n, hn⟩ : ∃ n, L.length = n := ⟨_, rfl⟩
  have HN := Lib.hid hn
  rw [hn] at hL ⊢
  obtain ⟨B, hB⟩ : ∃ B, w.heap.size = B := ⟨_, rfl⟩
  rw [hB] at HC ⊢
  obtain ⟨X, hX⟩ : ∃ X, w.alloc (boolO L) = X := ⟨_, rfl⟩
  rw [hX] at HC ⊢
  clear hn hB hX
  go_enter Tryz.func134, Tryz.ntmps134
  go_wp2
  go_loopw [5, 8] (fun _ v wr => ∃ i : Nat, v = .int .i64 i ∧ i ≤ n ∧ wr = X ∧ Hid (∀ j y, j < i → L[j]? = some y → y = true)) (fun _ v _ => n - (intOf v).toNat)
  case atStart => exact ⟨0, rfl, Nat.zero_le _, rfl, Lib.hid (fun j y hj => absurd hj (Nat.not_lt_zero _))⟩
  case round =>
    obtain ⟨i, rfl, hi, rfl, HI⟩ := hrel
    by_cases hlt : i < n
    · obtain ⟨x, hx⟩ : ∃ x, L[i]? = some x := ⟨_, List.getElem?_eq_getElem (by rw [HN.out]; exact hlt)⟩
      have c0 := HC.out i x hx
      have HX := Lib.hid hx
      have HLT := Lib.hid hlt
      clear hx
      cases x with
      | false =>
        go_wp2
        go_ret
        refine ⟨⟨_, rfl, ?_⟩, rfl⟩
        have h1 : L.all id = false := by
          rw [List.all_eq_false]
          exact ⟨false, List.mem_of_getElem? HX.out, by simp⟩
        rw [h1]; simp
      | true =>
        go_wp2
        go_roundw
        case rel =>
          refine ⟨i + 1, by first | rfl | go_num | (congr 1), by have := HLT.out; omega, by trivial, Lib.hid (fun j y hj hy => ?_)⟩
          by_cases e : j = i
          · subst e
            rw [HX.out] at hy
            exact (Option.some.inj hy).symm
          · exact HI.out j y (by omega) hy
        case measure => simp only [intOf]; have := HLT.out; omega
    · obtain rfl : i = n := by omega
      go_wp2
      go_ret
      refine ⟨⟨_, rfl, ?_⟩, rfl⟩
      have h1 : L.all id = true := by
        rw [List.all_eq_true]
        intro y hy
        obtain ⟨j, hj⟩ := List.getElem?_of_mem hy
        exact HI.out j y (by rw [← HN.out]; exact (List.getElem?_eq_some_iff.1 hj).1) hj
      rw [h1]; rfl
theorem qcont_false (L : List Bool) (w : World) (hL : L.length ≤ 4) :
    Calls Tryz.prog 114 #[.slice (some ⟨w.heap.size, 0, none⟩) L.length L.length, .bool false] (w.alloc (boolO L)) fun e w' => e = .returned (.bool (!(L.all id))) ∧ w.alloc (boolO L) = w' := by
  have HC := Lib.hid (qidx_false L w hL)
  obtain ⟨q, hq⟩ : ∃ q, (!(L.all id)) = q := ⟨_, rfl⟩
  rw [hq] at HC ⊢
  obtain ⟨X, hX⟩ : ∃ X, w.alloc (boolO L) = X := ⟨_, rfl⟩
  rw [hX] at HC ⊢
  clear hq hX hL
  go_enter Tryz.func114, Tryz.ntmps114
  go_wp2_with (go_at_call 134; (with_reducible refine HC.out.mono ?_); rintro e w1 ⟨⟨z, rfl, hz⟩, rfl⟩; have HZ := Lib.hid hz; clear hz)
  go_ret
  exact ⟨by rw [← HZ.out]; rfl, rfl⟩
/-- need: the error unless all conditions hold. -/
def needR (e : Int) (L : List Bool) : Int := if L.all id = true then 0 else e
theorem need_list (er : Int) (L : List Bool) (w : World) (hL : L.length ≤ 4) :
    Calls Tryz.prog 81 #[.int .i64 er, .slice (some ⟨w.heap.size, 0, none⟩) L.length L.length] (w.alloc (boolO L)) fun e w' => e = .returned (.int .i64 (needR er L)) ∧ w.alloc (boolO L) = w' := by
  have HC := Lib.hid (qcont_false L w hL)
  have HR := Lib.hid (show needR er L = if L.all id = true then 0 else er from rfl)
  obtain ⟨X, hX⟩ : ∃ X, w.alloc (boolO L) = X := ⟨_, rfl⟩
  rw [hX] at HC ⊢
  clear hX hL
  cases hq : L.all id
  all_goals
    rw [hq] at HC HR
    clear hq
    go_enter Tryz.func81, Tryz.ntmps81
    go_wp2_with (go_at_call 114; (with_reducible refine HC.out.mono ?_); rintro e w1 ⟨rfl, rfl⟩)
    go_ret
    exact ⟨by rw [HR.out]; simp, rfl⟩
theorem need1 (er : Int) (a : Bool) (w : World) :
    Calls Tryz.prog 81 #[.int .i64 er, .slice (some ⟨w.heap.size, 0, none⟩) 1 1] (w.alloc (.cells #[.bool a] 4)) fun e w' => e = .returned (.int .i64 (needR er [a])) ∧ w.alloc (.cells #[.bool a] 4) = w' := need_list er [a] w (by simp)
theorem need2 (er : Int) (a b : Bool) (w : World) :
    Calls Tryz.prog 81 #[.int .i64 er, .slice (some ⟨w.heap.size, 0, none⟩) 2 2] (w.alloc (.cells #[.bool a, .bool b] 4)) fun e w' => e = .returned (.int .i64 (needR er [a, b])) ∧ w.alloc (.cells #[.bool a, .bool b] 4) = w' := need_list er [a, b] w (by simp)
theorem need3 (er : Int) (a b c : Bool) (w : World) :
    Calls Tryz.prog 81 #[.int .i64 er, .slice (some ⟨w.heap.size, 0, none⟩) 3 3] (w.alloc (.cells #[.bool a, .bool b, .bool c] 4)) fun e w' => e = .returned (.int .i64 (needR er [a, b, c])) ∧ w.alloc (.cells #[.bool a, .bool b, .bool c] 4) = w' := need_list er [a, b, c] w (by simp)

/-- n is from a to b. -/
def inB (n a b : Int) : Bool := decide (a ≤ n ∧ n ≤ b)
theorem qisIn_any (n a b : Int) (w : World) :
    Calls Tryz.prog 82 #[.int .i64 n, .int .i64 a, .int .i64 b] w fun e w' => e = .returned (.bool (inB n a b)) ∧ w = w' := by
  have HR := Lib.hid (show inB n a b = decide (a ≤ n ∧ n ≤ b) from rfl)
  by_cases h : a ≤ n
  · go_enter Tryz.func82, Tryz.ntmps82
    go_wp2
    go_ret
    exact ⟨by rw [HR.out]; simp [h], rfl⟩
  · have h' : decide (a ≤ n) = false := by simpa using h
    go_enter Tryz.func82, Tryz.ntmps82
    go_wp2
    go_ret
    exact ⟨by rw [HR.out]; simp; intro q; omega, rfl⟩
/-- A kind of signed numbers. -/
def sgK (k : Int) : Bool := k == 2 || k == 4
end Go.Proofs.YtnjlgllpfbkdoaaGreatDoor
namespace Go.Proofs.YtnjlgllpfbkdoaaGreatDoor
open Go.RowKit

/-- The least and the greatest integer of a field. -/
def lowN (g : Bool) (w : Nat) : Int := if g then -2 ^ (w - 1) else 0
def highN (g : Bool) (w : Nat) : Int := if g then 2 ^ (w - 1) - 1 else 2 ^ w - 1
theorem pow32 (w : Nat) (h : w ≤ 32) : (1 : Int) ≤ 2 ^ w ∧ (2 : Int) ^ w ≤ 4294967296 := by
  have h1 := Nat.pow_le_pow_right (n := 2) (by omega) h
  have h2 := Nat.two_pow_pos w
  have e : ((2 : Int) ^ w) = ((2 ^ w : Nat) : Int) := by simp
  have h3 : 2 ^ w ≤ 4294967296 := by simpa using h1
  rw [e]
  clear e h1
  generalize 2 ^ w = P at *
  omega
theorem pow3 (s : Nat) (h : s ≤ 3) : (2 : Int) ^ s = 1 ∨ (2 : Int) ^ s = 2 ∨ (2 : Int) ^ s = 4 ∨ (2 : Int) ^ s = 8 := by
  match s, h with
  | 0, _ => simp
  | 1, _ => simp
  | 2, _ => simp
  | 3, _ => simp
theorem powDbl (w : Nat) (h : 1 ≤ w) : (2 : Int) ^ w = 2 * 2 ^ (w - 1) := by
  obtain ⟨m, rfl⟩ : ∃ m, w = m + 1 := ⟨w - 1, by omega⟩
  rw [Int.pow_succ, Nat.add_sub_cancel, Int.mul_comm]
theorem low_bd (g : Bool) (w : Nat) (h1 : 1 ≤ w) (h2 : w ≤ 32) : -2147483648 ≤ lowN g w ∧ lowN g w ≤ 0 := by
  have := pow32 (w - 1) (by omega)
  have hd := powDbl w h1
  have := pow32 w h2
  unfold lowN; split <;> omega
theorem high_bd (g : Bool) (w : Nat) (h1 : 1 ≤ w) (h2 : w ≤ 32) : 0 ≤ highN g w ∧ highN g w ≤ 4294967295 := by
  have := pow32 (w - 1) (by omega)
  have := pow32 w h2
  unfold highN; split <;> omega
theorem span_lo (w : Nat) (h1 : 1 ≤ w) (h2 : w ≤ 32) : wrap64 (-2 ^ (w - 1)) = lowN true w := by
  have := low_bd true w h1 h2
  unfold lowN at this ⊢
  simp only [if_true] at this ⊢
  exact wrap64_small _ (by omega) (by omega)
theorem span_hi (w : Nat) (h1 : 1 ≤ w) (h2 : w ≤ 32) : wrap64 (wrap64 (2 ^ (w - 1)) - 1) = highN true w := by
  have := pow32 (w - 1) (by omega)
  unfold highN
  simp only [if_true]
  rw [wrap64_small (2 ^ (w - 1)) (by omega) (by omega)]
  exact wrap64_small _ (by omega) (by omega)
theorem span_hiU (w : Nat) (h2 : w ≤ 32) : wrap64 (wrap64 (2 ^ w) - 1) = highN false w := by
  have := pow32 w h2
  unfold highN
  simp only [Bool.false_eq_true, if_false]
  rw [wrap64_small (2 ^ w) (by omega) (by omega)]
  exact wrap64_small _ (by omega) (by omega)

/-- n is in the field of the width and the scale. -/
def numB (g : Bool) (w s : Nat) (n : Int) : Bool := decide (n / 2 ^ s * 2 ^ s = n) && decide (lowN g w ≤ n / 2 ^ s ∧ n / 2 ^ s ≤ highN g w)
theorem back_small (s : Nat) (n : Int) (hs : s ≤ 3) (h0 : -9223372036854775808 ≤ n) (h1 : n ≤ 9223372036854775807) : wrap64 (n / 2 ^ s * 2 ^ s) = n / 2 ^ s * 2 ^ s := by
  apply wrap64_small <;> rcases pow3 s hs with h | h | h | h <;> rw [h] <;> omega
end Go.Proofs.YtnjlgllpfbkdoaaGreatDoor
namespace Go.Proofs.YtnjlgllpfbkdoaaGreatDoor
open Go.RowKit Go.Instr
set_option linter.unusedVariables false
set_option linter.unusedSimpArgs false
set_option maxRecDepth 100000
set_option maxHeartbeats 1000000

theorem belDrewN (B : Nat) (w : World) (n : Nat) : Below B w (w.drewN n) := ⟨rfl, rfl, rfl, Nat.le_refl _, fun _ _ => rfl⟩
theorem quiet_eq {P : Program} {f : FuncId} {args : Array Value} {w : World} {n : Nat} {v : Value}
    (h : Calls P f args (w.drewN n) fun e w' => e = .returned v ∧ w.drewN n = w') : Calls P f args (w.drewN n) fun e w'' => e = .returned v ∧ ∃ m, w'' = w.drewN m :=
  h.mono fun _ _ ⟨he, hm⟩ => ⟨he, n, hm.symm⟩
theorem thenBel {a b c : World} (h : Below a.heap.size a b) (k : Below b.heap.size b c) : Below a.heap.size a c := h.trans (k.mono h.size)
/-- Why there are no fields of this kind, width and scale. -/
def chkK (k w s : Int) : Int := needR 2 [sgK k || k == 3, inB w 1 32, inB s 0 3]
/-- What Range, Field, Number, Fit give. -/
def rangeR (k : Int) (w s : Int) : Int × Int × Int := if chkK k w s = 0 then (lowN (sgK k) w.toNat * 2 ^ s.toNat, highN (sgK k) w.toNat * 2 ^ s.toNat, 0) else (0, 0, chkK k w s)
def fieldR (k : Int) (w s n : Int) : Nat × Int := if chkK k w s = 0 then (if numB (sgK k) w.toNat s.toNat n = true then (((n / 2 ^ s.toNat) % 2 ^ w.toNat).toNat, 0) else (0, 24)) else (0, chkK k w s)
theorem chkK_ok {k w s : Int} (h : chkK k w s = 0) : (1 ≤ w ∧ w ≤ 32) ∧ 0 ≤ s ∧ s ≤ 3 ∧ (sgK k = true ∨ k = 3) := by
  unfold chkK needR inB at h
  split at h
  · rename_i h'
    simp at h'
    obtain ⟨h1, h2, h3⟩ := h'
    exact ⟨h2, h3.1, h3.2, h1⟩
  · cases h
theorem chkK_two {k w s : Int} (h : ¬ chkK k w s = 0) : chkK k w s = 2 := by
  unfold chkK needR at *
  split at h
  · exact absurd rfl h
  · rename_i h'; rw [if_neg h']
end Go.Proofs.YtnjlgllpfbkdoaaGreatDoor
namespace Go.Proofs.YtnjlgllpfbkdoaaGreatDoor
open Go.RowKit Go.Instr Go.Sort
set_option linter.unusedVariables false
set_option linter.unusedSimpArgs false
set_option maxRecDepth 100000
set_option maxHeartbeats 1000000

theorem and_mask (r n : Nat) (hr : r < 18446744073709551616) (h1 : n ≤ 64) : bits .and .u64 (r : Int) ((mk n : Nat) : Int) = ((r % 2 ^ n : Nat) : Int) := by
  rw [bits_and_u64_nat r (mk n) hr (mk_lt n h1)]
  unfold mk
  rw [Nat.and_two_pow_sub_one_eq_mod]

theorem of_mask (n : Nat) (z : Int) (h1 : n ≤ 64) : bits .and .u64 (IntKind.u64.wrap z) ((mk n : Nat) : Int) = ((z % 2 ^ n).toNat : Int) := by
  have h2 := Int.emod_nonneg z (show (18446744073709551616 : Int) ≠ 0 by decide)
  have h3 := Int.emod_lt_of_pos z (show (0 : Int) < 18446744073709551616 by decide)
  obtain ⟨r, hr⟩ : ∃ r : Nat, z % 18446744073709551616 = r := ⟨(z % 18446744073709551616).toNat, by omega⟩
  rw [IntKind.wrap_u64, hr, and_mask r n (by omega) h1]
  congr 1
  have hs := pow_split n h1
  have e : z % 2 ^ n = ((r % 2 ^ n : Nat) : Int) := by
    rw [Int.natCast_emod, ← hr, Int.natCast_pow]
    have hd : ((2 : Int) ^ n) ∣ 18446744073709551616 := ⟨((2 ^ (64 - n) : Nat) : Int), by
      have : ((2 ^ n * 2 ^ (64 - n) : Nat) : Int) = ((18446744073709551616 : Nat) : Int) := by rw [hs]
      rw [Int.natCast_mul, Int.natCast_pow] at this
      exact this.symm⟩
    exact (Int.emod_emod_of_dvd z hd).symm
  rw [e]
  omega

/-- What Signed gives. -/
def sgR (n : Int) (x : Nat) : Int × Int :=
  if n < 1 ∨ 64 < n then (0, 14) else if chk1 n.toNat x = 8 then (0, 8) else (sg n.toNat x, 0)
theorem chk1_or (n a : Nat) : chk1 n a = 8 ∨ (a < 2 ^ n ∧ chk1 n a = 0) := by
  unfold chk1
  by_cases h : okB n a = true
  · exact Or.inr ⟨(okB_iff _ _).1 h, if_pos h⟩
  · exact Or.inl (if_neg h)

/-- What Number gives. -/
def numberR (k : Int) (w s : Int) (x : Nat) : Int × Int := if chkK k w s = 0 then (if okB w.toNat x = true then ((if sgK k = true then sg w.toNat x else x) * 2 ^ s.toNat, 0) else (0, 24)) else (0, chkK k w s)
theorem sg_bd (w x : Nat) (h1 : 1 ≤ w) (h2 : w ≤ 32) (hx : x < 2 ^ w) : -4294967296 ≤ sg w x ∧ sg w x ≤ 4294967296 := by
  have := pow32 w h2
  have h3 : ((x : Nat) : Int) < 2 ^ w := by have := Int.ofNat_lt.2 hx; simpa using this
  unfold sg; split <;> omega
end Go.Proofs.YtnjlgllpfbkdoaaGreatDoor
namespace Go.Proofs.YtnjlgllpfbkdoaaGreatDoor
open Go.RowKit
set_option linter.unusedVariables false
set_option linter.unusedSimpArgs false
set_option maxRecDepth 100000

/-- Pieces in memory. -/
def PcsAt (w : World) (A : Option Addr) (L : List MPiece) : Prop := ∀ i x, L[i]? = some x → ∃ g o, A = some ⟨g, o, none⟩ ∧ g < w.heap.size ∧ w.cell? ⟨g, o + i * 2, none⟩ = some (.int .i64 x.pos) ∧ w.cell? ⟨g, o + i * 2 + 1, none⟩ = some (.int .i64 x.len)
/-- Their numbers are of the type int. -/
def PcsOk (L : List MPiece) : Prop := ∀ x ∈ L, (-9223372036854775808 ≤ x.pos ∧ x.pos ≤ 9223372036854775807) ∧ (-9223372036854775808 ≤ x.len ∧ x.len ≤ 9223372036854775807)
theorem PcsAt.later {w w' : World} {A : Option Addr} {L : List MPiece} (h : PcsAt w A L) (hb : Below w.heap.size w w') : PcsAt w' A L := by
  intro i x hx
  obtain ⟨g, o, e, hg, h0, h1⟩ := h i x hx
  exact ⟨g, o, e, Nat.lt_of_lt_of_le hg hb.size, by rw [hb.cell hg]; exact h0, by rw [hb.cell hg]; exact h1⟩
/-- The pieces of an operand. -/
theorem pcs_of {w : World} {v : Value} {L : List MPiece} (h : RowsAt 2 pieceE w v L) : ∃ A c, v = .slice A L.length c ∧ L.length ≤ c ∧ c ≤ maxLen ∧ PcsAt w A L ∧ PcsOk L := by
  obtain ⟨A, c, h1, h2, h3, h4, h5⟩ := h
  refine ⟨A, c, h1, h3, h4, fun i x hx => ?_, fun x hx => ?_⟩
  · obtain ⟨b, o, cs, e1, e2, e3, e4, e5⟩ := h5 i x hx
    obtain ⟨hc, _⟩ := e5
    subst hc
    exact ⟨b, o, e1, e2, e4 0 _ rfl, e4 1 _ rfl⟩
  · obtain ⟨i, hi⟩ := List.getElem?_of_mem hx
    obtain ⟨b, o, cs, e1, e2, e3, e4, e5⟩ := h5 i x hi
    exact e5.2
end Go.Proofs.YtnjlgllpfbkdoaaGreatDoor
namespace Go.Proofs.YtnjlgllpfbkdoaaGreatDoor
open Go Go.RowKit
set_option linter.unusedVariables false
set_option linter.unusedSimpArgs false

section
variable {P : Program} {ops : Array Oper} {md : Region.Mode} {Q : Exit → Act → World → Prop}
/-- Nothing but the normal way out. -/
def OnlyNormal (Q : Exit → Act → World → Prop) (e : Exit) (a : Act) (w : World) : Prop := e = .normal ∧ Q .normal a w
theorem onlyNormal_shut : ¬ LetsOut (OnlyNormal Q) := fun ⟨_, _, h, _⟩ => by cases h
theorem calls_round (l n : Nat) {f : FuncId} {args : Array Value} {w : World} {R : Ending → World → Prop} (h : Calls P f args w R) : CallsIn (Fence.wide.inRound l) n P f args w R :=
  (callsIn_wide.2 h).inRound l
theorem rows_round (l n : Nat) {row : String} {args : Array Value} {w : World} {R : Value → World → Prop} (h : Rows P row args w R) : RowsIn (Fence.wide.inRound l) n P row args w R :=
  fun c cs _ => let ⟨v, w', r, s⟩ := h c cs; ⟨v, w', r, stepsIn_wide.2 s⟩
theorem upon_round (l n : Nat) {o : Oper} {a : Act} {K K' : Act → World → Prop} (hK : ∀ a w, K a w → K' a w) {r : Result Next} (h : o.upon P a K (OnlyNormal Q) r) : o.uponIn (Fence.wide.inRound l) n P a K' Q r := by
  cases r with
  | ok x w' =>
    cases x with
    | value v => exact hK _ _ h
    | skip => exact hK _ _ h
    | defer d => exact hK _ _ h
    | enter f args =>
      refine ⟨(fun hd => by cases hd), calls_round l _ (Calls.mono (show Calls P f args w' _ from h) fun e w'' he => ?_)⟩
      cases e with
      | returned v => exact hK _ _ he
      | panicked chain => cases he.1
      | outgrown => exact absurd he onlyNormal_shut
    | row row args =>
      exact ⟨(fun hd => by cases hd), rows_round l _ fun c cs => let ⟨v, w'', r, s⟩ := (show Rows P row args w' _ from h) c cs; ⟨v, w'', hK _ _ r, s⟩⟩
    | _ => exact h.elim
  | halt x w' =>
    cases x with
    | panic v => cases (show OnlyNormal Q _ _ _ from h).1
    | _ => exact h.elim
theorem any_round (l n : Nat) (hdef : ops.all (fun o => match o.op with | .defer _ => false | _ => true) = true) : ∀ (fuel : Nat) (listed : Array Bool) (a : Act) (w : World),
    wpAny P md ops (OnlyNormal Q) fuel listed a w → wpAnyIn (Fence.wide.inRound l) n P md ops Q fuel listed a w := by
  have hop : ∀ (i : Nat) (o : Oper), ops[i]? = some o → ∀ c, o.op ≠ .defer c := fun i o hi c he => by
    have h1 := Array.all_eq_true.1 hdef i (Array.getElem?_eq_some_iff.1 hi).1
    rw [(Array.getElem?_eq_some_iff.1 hi).2, he] at h1
    cases h1
  intro fuel
  induction fuel with
  | zero => exact fun listed a w h => ⟨h.1, h.2.2⟩
  | succ fuel ih =>
    intro listed a w h
    refine ⟨fun h0 => (h.1 h0).2, fun i hi => ?_⟩
    have h1 := h.2 i hi
    unfold wpOp at h1
    unfold wpOpIn
    cases ho : ops[i]? with
    | none => rw [ho] at h1; exact ih _ _ _ h1
    | some o =>
      rw [ho] at h1
      simp only at h1 ⊢
      split at h1
      · rename_i hw
        rw [if_pos hw]
        rcases h1 with h1 | ⟨_, h1⟩
        · refine ⟨fun _ _ => trivial, ?_⟩
          rw [show (Fence.wide.inRound l).round = some l from rfl, Oper.semAt_some l _ _ (hop i o ho)]
          exact upon_round l n (fun a w => ih _ a w) h1
        · exact absurd h1 onlyNormal_shut
      · rename_i hw
        rw [if_neg hw]
        exact ⟨fun _ _ => trivial, ih _ _ _ h1⟩
/-- Reads and quiet calls before a tail that lies in one chain, in a round. -/
theorem round_still_tail (l n : Nat) {id : Nat} {a : Act} {w : World} {os : List Oper} (m : Nat) (hm : P.follows .mixedOrders = true) (hdef : os.toArray.all (fun o => match o.op with | .defer _ => false | _ => true) = true) (hB : Region.lexTailB .any os.toArray m = true)
    (h : wpStill P os.toArray { w with drawn := w.drawn + 1 } (fun a' => wpList P os.toArray (OnlyNormal Q) (os.drop m) a' { w with drawn := w.drawn + 1 }) (os.take m) a) : (Code.region id os.toArray true).wpIn (Fence.wide.inRound l) n P Q a w := by
  unfold Region.lexTailB at hB
  rw [Bool.and_eq_true, Bool.and_eq_true, Bool.and_eq_true, Bool.and_eq_true] at hB
  have hlt : m < os.toArray.size := of_decide_eq_true hB.1.1.1.2
  have hlen : m < os.length := by simpa using hlt
  have t1 : (os.take m).length = m := by rw [List.length_take]; omega
  have t2 : (os.drop m).length = os.toArray.size - m := by simp
  have start : HeadInv .any os.toArray m (Array.replicate os.toArray.size false) := by
    refine ⟨Array.size_replicate .., fun j oj hj hl => ?_, fun t _ ht => ?_⟩
    · rw [getD_replicate_false] at hl; cases hl
    · exact getD_in (by simpa using ht) (getD_replicate_false _ _)
  have each : ∀ j, j < (os.take m).length → (os.take m)[j]? = os.toArray[0 + j]? := fun j hj => by
    rw [t1] at hj
    simp [List.getElem?_take, hj]
  have hd := wpAnyL_lex (g := os.toArray.size - m) hB.1.1.1.1 hB.1.1.2 hB.1.2 hlt (os.take m) 0 _ a each (by rw [t1]; omega) start (by rw [t1]; exact hB.2) h
  have all := wpAny_of_head (Q' := OnlyNormal Q) (g := os.toArray.size - m) (fun listed' a' hL => by
    have tl := wpAny_of_seq (Q' := OnlyNormal Q) (os.drop m) m listed' a' _ (fun j => by simp [List.getElem?_drop]) (by rw [t2]; exact hL.1) hL.2
    rw [t2] at tl
    exact tl) _ _ _ hd
  rw [t1, Nat.add_sub_cancel' (Nat.le_of_lt hlt)] at all
  exact wpIn_region_any hm (any_round l n hdef _ _ _ _ all)
theorem still_eq {f : FuncId} {args : Array Value} {w : World} {v : Value} (h : Calls P f args w fun e w' => e = .returned v ∧ w = w') : Calls P f args w fun e w' => e = .returned v ∧ w' = w := h.mono fun _ _ ⟨a, b⟩ => ⟨a, b.symm⟩
end
end Go.Proofs.YtnjlgllpfbkdoaaGreatDoor
namespace Go.Proofs.YtnjlgllpfbkdoaaGreatDoor
open Go.RowKit Go.Instr Go.Sort
set_option linter.unusedVariables false
set_option linter.unusedSimpArgs false
set_option maxRecDepth 100000
set_option maxHeartbeats 4000000

/-- A piece lies in a word of the size. -/
def pcOk (size : Int) (x : MPiece) : Bool := inB x.len 1 size && inB x.pos 0 (size - x.len)
/-- The bits of a piece. -/
def pcM (x : MPiece) : Nat := mk x.len.toNat * 2 ^ x.pos.toNat
def maskGo (size : Int) : Nat → List MPiece → Nat × Int
  | m, [] => (m, 0)
  | m, x :: L => if pcOk size x = true then (if m &&& pcM x = 0 then maskGo size (m ||| pcM x) L else (0, 8)) else (0, 8)
/-- What Mask gives. -/
def maskR (size : Int) (L : List MPiece) : Nat × Int := if 1 ≤ size ∧ size ≤ 64 then (if L.length ≤ 4 then maskGo size 0 L else (0, 4)) else (0, 2)
theorem pcM_lt {size : Int} {x : MPiece} (hs : size ≤ 64) (h : pcOk size x = true) : pcM x < 2 ^ size.toNat ∧ pcM x < 18446744073709551616 := by
  unfold pcOk inB at h
  simp at h
  obtain ⟨⟨h1, h2⟩, h3, h4⟩ := h
  have e : x.len.toNat + x.pos.toNat ≤ size.toNat := by omega
  have h5 : mk x.len.toNat * 2 ^ x.pos.toNat < 2 ^ x.len.toNat * 2 ^ x.pos.toNat := Nat.mul_lt_mul_of_pos_right (by have := mk_succ x.len.toNat; omega) (Nat.two_pow_pos _)
  rw [← Nat.pow_add] at h5
  have h6 := Nat.pow_le_pow_right (n := 2) (by omega) e
  have h7 := pow_le size.toNat (by omega)
  unfold pcM
  omega
theorem pc_need (size : Int) (x : MPiece) (hs : 1 ≤ size ∧ size ≤ 64) (hx : (-9223372036854775808 ≤ x.pos ∧ x.pos ≤ 9223372036854775807) ∧ (-9223372036854775808 ≤ x.len ∧ x.len ≤ 9223372036854775807)) :
    needR 8 [inB x.len 1 size, inB x.pos 0 (wrap64 (size - x.len))] = if pcOk size x = true then 0 else 8 := by
  unfold needR pcOk
  by_cases h : inB x.len 1 size = true
  · have h' := h
    unfold inB at h'
    simp at h'
    have e : wrap64 (size - x.len) = size - x.len := wrap64_small _ (by omega) (by omega)
    rw [h, e]
    simp
  · have : inB x.len 1 size = false := by simpa using h
    rw [this]; simp
theorem piece_cells (w : World) (p l : Int) : ∀ B, w.heap.size = B → (w.alloc (.cells #[.int .i64 p, .int .i64 l] 129)).cell? ⟨B, 0, none⟩ = some (.int .i64 p) ∧ (w.alloc (.cells #[.int .i64 p, .int .i64 l] 129)).cell? ⟨B, 1, none⟩ = some (.int .i64 l) := by
  rintro _ rfl
  simp only [World.cell?]
  rw [heap_alloc_new]
  exact ⟨rfl, rfl⟩
theorem shl_wrap (a P T : Nat) (h : T = a * 2 ^ P) (hT : T < 18446744073709551616) : IntKind.u64.wrap ((a : Int) * 2 ^ P) = (T : Nat) := by
  have e : (a : Int) * 2 ^ P = ((T : Nat) : Int) := by rw [h]; simp
  rw [e, IntKind.wrap_u64]; omega
theorem needB1 (er : Int) (a : Bool) (w : World) (B : Nat) (h : w.heap.size = B) :
    Calls Tryz.prog 81 #[.int .i64 er, .slice (some ⟨B, 0, none⟩) 1 1] (w.alloc (.cells #[.bool a] 4)) fun e w' => e = .returned (.int .i64 (needR er [a])) ∧ w.alloc (.cells #[.bool a] 4) = w' := by subst h; exact need1 er a w
theorem needB2 (er : Int) (a b : Bool) (w : World) (B : Nat) (h : w.heap.size = B) :
    Calls Tryz.prog 81 #[.int .i64 er, .slice (some ⟨B, 0, none⟩) 2 2] (w.alloc (.cells #[.bool a, .bool b] 4)) fun e w' => e = .returned (.int .i64 (needR er [a, b])) ∧ w.alloc (.cells #[.bool a, .bool b] 4) = w' := by subst h; exact need2 er a b w
theorem needD1 (er : Int) (a : Bool) (w : World) (B : Nat) (h : w.heap.size = B) :
    Calls Tryz.prog 81 #[.int .i64 er, .slice (some ⟨B, 0, none⟩) 1 1] (w.alloc (.cells #[.bool a] 4)).drew fun e w' => e = .returned (.int .i64 (needR er [a])) ∧ (w.alloc (.cells #[.bool a] 4)).drew = w' := needB1 er a w.drew B h
theorem needD2 (er : Int) (a b : Bool) (w : World) (B : Nat) (h : w.heap.size = B) :
    Calls Tryz.prog 81 #[.int .i64 er, .slice (some ⟨B, 0, none⟩) 2 2] (w.alloc (.cells #[.bool a, .bool b] 4)).drew fun e w' => e = .returned (.int .i64 (needR er [a, b])) ∧ (w.alloc (.cells #[.bool a, .bool b] 4)).drew = w' := needB2 er a b w.drew B h
theorem needE1 (er : Int) (a : Bool) (w : World) (B : Nat) (h : w.heap.size = B) :
    Calls Tryz.prog 81 #[.int .i64 er, .slice (some ⟨B, 0, none⟩) 1 1] (w.alloc (.cells #[.bool a] 4)).drew.drew fun e w' => e = .returned (.int .i64 (needR er [a])) ∧ (w.alloc (.cells #[.bool a] 4)).drew.drew = w' := needB1 er a w.drew.drew B h
theorem needR_true (e : Int) : needR e [true] = 0 := rfl
theorem needR_false (e : Int) : needR e [false] = e := rfl
set_option warningAsError false in
theorem mask_walk (size : Int) (A : Option Addr) (c : Nat) (L : List MPiece) (w : World) (hs : 1 ≤ size ∧ size ≤ 64) (hA : PcsAt w A L) (hok : PcsOk L) (hc : L.length ≤ c) (hcm : c ≤ maxLen) (h4 : L.length ≤ 4) :
    Calls Tryz.prog 55 #[.int .i64 size, .slice A L.length c] w fun e w' => e = .returned (.tuple #[.int .u64 ((maskGo size 0 L).1 : Nat), .int .i64 (maskGo size 0 L).2]) ∧ Below w.heap.size w w' := by
  have HI := Lib.hid (fun W => qisIn_any size 1 64 W)
  rw [show inB size 1 64 = true by unfold inB; simpa using hs] at HI
  obtain ⟨n, hn⟩ : ∃ n, L.length = n := ⟨_, rfl⟩
  have HN := Lib.hid hn
  have HA := Lib.hid hA
  have HOK := Lib.hid hok
  have hn4 : (n : Int) ≤ 4 := by omega
  rw [hn]
  obtain ⟨R, hR⟩ : ∃ R, maskGo size 0 L = R := ⟨_, rfl⟩
  rw [hR]
  have HR := Lib.hid hR
  obtain ⟨hs1, hs2⟩ := hs
  clear hn hA hok hc hcm h4 hR
  have g4 : decide ((n : Int) ≤ 4) = true := by simpa using hn4
  go_enter Tryz.func55, Tryz.ntmps55
  go_wp2_with (first
    | (go_at_call 82; (with_reducible refine (HI.out _).mono ?_); rintro e w' ⟨rfl, rfl⟩)
    | (go_at_call 81; (with_reducible refine (needB1 2 true _ _ (by simp)).mono ?_); rw [needR_true]; rintro e w' ⟨rfl, rfl⟩)
    | (go_at_call 81; (with_reducible refine (needB1 4 true _ _ (by simp)).mono ?_); rw [needR_true]; rintro e w' ⟨rfl, rfl⟩))
  go_loopw [8, 31] (fun vm vi wr => ∃ (m i : Nat), vm = .int .u64 m ∧ vi = .int .i64 i ∧ i ≤ n ∧ m < 18446744073709551616 ∧ Below w.heap.size w wr ∧ Hid (maskGo size m (L.drop i) = R)) (fun _ vi _ => n - (intOf vi).toNat)
  case atStart => exact ⟨0, 0, rfl, rfl, Nat.zero_le _, by decide, (((Below.refl _ w).alloc (Nat.le_refl _) _).alloc (by simp) _), Lib.hid (by rw [List.drop_zero]; exact HR.out)⟩
  case round =>
    obtain ⟨m, i, rfl, rfl, hi, hm, hbw, HG⟩ := hrel
    by_cases hlt : i < n
    · obtain ⟨x, hx⟩ : ∃ x, L[i]? = some x := ⟨_, List.getElem?_eq_getElem (by rw [HN.out]; exact hlt)⟩
      obtain ⟨g, o, rfl, hg, t0, t1⟩ := (HA.out.later hbw) i x hx
      have hxo := HOK.out x (List.mem_of_getElem? hx)
      have hd : L.drop i = x :: L.drop (i + 1) := by
        rw [List.drop_eq_getElem_cons (by rw [HN.out]; exact hlt)]
        congr 1
        exact Option.some.inj ((List.getElem?_eq_getElem _).symm.trans hx)
      have HG2 := HG.out
      rw [hd] at HG2
      simp only [maskGo] at HG2
      have hpn := pc_need size x ⟨hs1, hs2⟩ hxo
      have HLT := Lib.hid hlt
      have HM := Lib.hid hm
      obtain ⟨PC, hPC⟩ : ∃ PC, pcOk size x = PC := ⟨_, rfl⟩
      have HPC := Lib.hid hPC
      rw [hPC] at hpn HG2
      have HGH := Lib.hid HG2
      obtain ⟨p, hp⟩ : ∃ p, x.pos = p := ⟨_, rfl⟩
      obtain ⟨l, hl⟩ : ∃ l, x.len = l := ⟨_, rfl⟩
      rw [hp] at t0 hpn
      rw [hl] at t1 hpn
      have HPN := Lib.hid hpn
      have I1 := Lib.hid (fun W => qisIn_any l 1 size W)
      have I2 := Lib.hid (fun z W => qisIn_any p 0 z W)
      have HPL := Lib.hid (And.intro hp hl)
      clear HG2 hpn hd hxo hx hm hPC hp hl hg
      obtain ⟨B, hB⟩ : ∃ B, wr.heap.size = B := ⟨_, rfl⟩
      have hPCELL := piece_cells wr p l B hB
      have HPM := Lib.hid (pcM_lt (x := x) hs2)
      cases PC
      · simp only [Bool.false_eq_true, if_false] at HPN HGH
        go_wp2_with fail
        refine wp_region_still_tail 11 (by kernel_rfl) (by kernel_rfl) ?_
        change wpStill _ _ (World.drew _) (fun a' => wpList _ _ _ _ a' (World.drew _)) _ _
        simp only [List.take_succ_cons, List.take_zero, List.drop_succ_cons, List.drop_zero]
        repeat (first
          | still_step
          | (refine wpStill_step (fun K hK => ?_); go_simp; (with_reducible refine ⟨_, still_eq (I1.out _), hK _ ?_⟩); clear hK K)
          | (refine wpStill_step (fun K hK => ?_); go_simp; (with_reducible refine ⟨_, still_eq (I2.out _ _), hK _ ?_⟩); clear hK K))
        refine wpStill_nil ?_
        go_wp2_with (go_at_call 81; (with_reducible refine (needD2 8 _ _ _ _ (by simp; omega)).mono ?_); rw [HPN.out]; rintro e w5 ⟨rfl, rfl⟩)
        go_ret2
        rw [← HGH.out]
        exact ⟨rfl, ((hbw.alloc hbw.size _).alloc (by have := hbw.size; simp; omega) _).drew⟩
      · simp only [if_true] at HPN HGH
        obtain ⟨P, rfl⟩ : ∃ P : Nat, p = P := ⟨p.toNat, by have := HPC.out; unfold pcOk inB at this; rw [HPL.out.1, HPL.out.2] at this; simp at this; omega⟩
        obtain ⟨l', rfl⟩ : ∃ P : Nat, l = P := ⟨l.toNat, by have := HPC.out; unfold pcOk inB at this; rw [HPL.out.1, HPL.out.2] at this; simp at this; omega⟩
        obtain ⟨q1, q2, q3⟩ : 1 ≤ l' ∧ l' ≤ 64 ∧ l' + P ≤ 64 := by have := HPC.out; unfold pcOk inB at this; rw [HPL.out.1, HPL.out.2] at this; simp at this; omega
        obtain ⟨hT1, hT2⟩ := HPM.out HPC.out
        have hPCM : pcM x = mk l' * 2 ^ P := by unfold pcM; rw [HPL.out.1, HPL.out.2]; rfl
        have HMK := Lib.hid (fun W => mask_yes l' W q1 q2)
        obtain ⟨T, hT⟩ : ∃ T, pcM x = T := ⟨_, rfl⟩
        rw [hT] at hT2 hPCM HGH
        have hW := shl_wrap (mk l') P T hPCM hT2
        have HPN2 : Hid (needR 8 [inB (l' : Int) 1 size, inB (P : Int) 0 (size - l')] = 0) := Lib.hid (by
          have h := HPC.out
          unfold pcOk at h
          rw [HPL.out.1, HPL.out.2, Bool.and_eq_true] at h
          rw [h.1, h.2]; rfl)
        have HAND := Lib.hid (bits_and_u64_nat m T HM.out hT2)
        have HOR := Lib.hid (bits_or_u64_nat m T HM.out hT2)
        have hmT : m ||| T < 18446744073709551616 := Nat.or_lt_two_pow (n := 64) HM.out hT2
        have HMT := Lib.hid hmT
        clear hPCM hT hT1 hT2
        have hq : (bits .and .u64 (m : Int) (T : Int) == 0) = decide (m &&& T = 0) := by
          rw [HAND.out]
          by_cases e : m &&& T = 0
          · rw [e]; rfl
          · simp [e]
        have hor := HOR.out
        by_cases hfree : m &&& T = 0
        all_goals
          simp only [hfree, if_true, if_false, decide_true, decide_false] at HGH hq
          clear hfree
          go_wp2_with fail
          refine wp_region_still_tail 11 (by kernel_rfl) (by kernel_rfl) ?_
          change wpStill _ _ (World.drew _) (fun a' => wpList _ _ _ _ a' (World.drew _)) _ _
          simp only [List.take_succ_cons, List.take_zero, List.drop_succ_cons, List.drop_zero]
          repeat (first
            | still_step
            | (refine wpStill_step (fun K hK => ?_); go_simp; (with_reducible refine ⟨_, still_eq (I1.out _), hK _ ?_⟩); clear hK K)
            | (refine wpStill_step (fun K hK => ?_); go_simp; (with_reducible refine ⟨_, still_eq (I2.out _ _), hK _ ?_⟩); clear hK K))
          refine wpStill_nil ?_
          go_wp2_with (go_at_call 81; (with_reducible refine (needD2 8 _ _ _ _ (by simp; omega)).mono ?_); rw [HPN2.out]; rintro e w5 ⟨rfl, rfl⟩)
          refine wp_region_still_lit (by kernel_rfl) (by kernel_rfl) ?_
          change wpStill _ _ (World.drew _) _ _ _
          repeat (first
            | still_step
            | (refine wpStill_step (fun K hK => ?_); go_simp; (with_reducible refine ⟨_, still_eq (HMK.out _), hK _ ?_⟩); clear hK K))
          refine wpStill_nil ?_
          change Exit.then _ _ _ _ (World.drew _)
          go_wp2_with (go_at_call 81; (with_reducible refine (needE1 8 _ _ _ (by simp; omega)).mono ?_); (first | rw [needR_true] | rw [needR_false]); rintro e w5 ⟨rfl, rfl⟩)
        · go_roundw
          case rel =>
            refine ⟨m ||| T, i + 1, by first | rfl | go_num, by first | rfl | go_num | (congr 1), by have := HLT.out; omega, HMT.out, ?_, Lib.hid HGH.out⟩
            exact (((hbw.alloc hbw.size _).alloc (by have := hbw.size; simp; omega) _).alloc (by have := hbw.size; simp; omega) _).drew.drew
          case measure => simp only [intOf]; have := HLT.out; omega
        · go_ret2
          rw [← HGH.out]
          exact ⟨rfl, (((hbw.alloc hbw.size _).alloc (by have := hbw.size; simp; omega) _).alloc (by have := hbw.size; simp; omega) _).drew.drew⟩
    · obtain rfl : i = n := by omega
      have HG2 := HG.out
      rw [List.drop_of_length_le (by rw [HN.out]; exact Nat.le_refl _)] at HG2
      simp only [maskGo] at HG2
      have HH := Lib.hid HG2
      clear HG2
      go_wp2
      go_ret2
      rw [← HH.out]
      exact ⟨rfl, hbw⟩
theorem mask_any (size : Int) (A : Option Addr) (c : Nat) (L : List MPiece) (w : World) (hA : PcsAt w A L) (hok : PcsOk L) (hc : L.length ≤ c) (hcm : c ≤ maxLen) :
    Calls Tryz.prog 55 #[.int .i64 size, .slice A L.length c] w fun e w' => e = .returned (.tuple #[.int .u64 ((maskR size L).1 : Nat), .int .i64 (maskR size L).2]) ∧ Below w.heap.size w w' := by
  by_cases hs : 1 ≤ size ∧ size ≤ 64
  · by_cases h4 : L.length ≤ 4
    · have := mask_walk size A c L w hs hA hok hc hcm h4
      rwa [show maskR size L = maskGo size 0 L by unfold maskR; rw [if_pos hs, if_pos h4]]
    · have HI := Lib.hid (fun W => qisIn_any size 1 64 W)
      rw [show inB size 1 64 = true by unfold inB; simpa using hs] at HI
      rw [show maskR size L = (0, 4) by unfold maskR; rw [if_pos hs, if_neg h4]]
      obtain ⟨n, hn⟩ : ∃ n, L.length = n := ⟨_, rfl⟩
      rw [hn] at h4 ⊢
      have g4 : decide ((n : Int) ≤ 4) = false := by simp; omega
      clear hA hok hc hcm h4 hs hn
      go_enter Tryz.func55, Tryz.ntmps55
      go_wp2_with (first
        | (go_at_call 82; (with_reducible refine (HI.out _).mono ?_); rintro e w' ⟨rfl, rfl⟩)
        | (go_at_call 81; (with_reducible refine (needB1 2 true _ _ (by simp)).mono ?_); rw [needR_true]; rintro e w' ⟨rfl, rfl⟩)
        | (go_at_call 81; (with_reducible refine (needB1 4 false _ _ (by simp)).mono ?_); rw [needR_false]; rintro e w' ⟨rfl, rfl⟩))
      go_ret2
      exact ⟨rfl, ((Below.refl _ w).alloc (Nat.le_refl _) _).alloc (by simp) _⟩
  · have HI := Lib.hid (fun W => qisIn_any size 1 64 W)
    rw [show inB size 1 64 = false by unfold inB; simpa using hs] at HI
    rw [show maskR size L = (0, 2) by unfold maskR; rw [if_neg hs]]
    clear hA hok hc hcm hs
    go_enter Tryz.func55, Tryz.ntmps55
    go_wp2_with (first
      | (go_at_call 82; (with_reducible refine (HI.out _).mono ?_); rintro e w' ⟨rfl, rfl⟩)
      | (go_at_call 81; (with_reducible refine (needB1 2 false _ _ (by simp)).mono ?_); rw [needR_false]; rintro e w' ⟨rfl, rfl⟩))
    go_ret2
    exact ⟨rfl, (Below.refl _ w).alloc (Nat.le_refl _) _⟩
theorem qcheck_any (size : Int) (A : Option Addr) (c : Nat) (L : List MPiece) (w : World) (hA : PcsAt w A L) (hok : PcsOk L) (hc : L.length ≤ c) (hcm : c ≤ maxLen) :
    Calls Tryz.prog 116 #[.int .i64 size, .slice A L.length c] w fun e w' => e = .returned (.int .i64 (maskR size L).2) ∧ Below w.heap.size w w' := by
  have HM := Lib.hid (fun W (h : PcsAt W A L) => mask_any size A c L W h hok hc hcm)
  have HA := Lib.hid hA
  obtain ⟨n, hn⟩ : ∃ n, L.length = n := ⟨_, rfl⟩
  rw [hn] at HM ⊢
  generalize (maskR size L).1 = x at *
  generalize (maskR size L).2 = z at *
  clear hA hok hc hcm hn
  go_enter Tryz.func116, Tryz.ntmps116
  go_wp2_with (go_at_call 55; (with_reducible refine (HM.out _ HA.out).mono ?_); rintro e w' ⟨rfl, hb⟩)
  go_ret
  exact ⟨rfl, hb⟩
end Go.Proofs.YtnjlgllpfbkdoaaGreatDoor
namespace Go.Proofs.YtnjlgllpfbkdoaaGreatDoor
open Go.RowKit
set_option linter.unusedVariables false
set_option linter.unusedSimpArgs false

def MPiece.p (x : MPiece) : Nat := x.pos.toNat
def MPiece.l (x : MPiece) : Nat := x.len.toNat
theorem pcM_eq (x : MPiece) : pcM x = (2 ^ x.l - 1) * 2 ^ x.p := rfl
/-- The piece has the bit j. -/
def MPiece.has (x : MPiece) (j : Nat) : Bool := decide (x.p ≤ j ∧ j < x.p + x.l)
def hasL (L : List MPiece) (j : Nat) : Bool := L.any (fun x => x.has j)
def widthL : List MPiece → Nat | [] => 0 | x :: L => x.l + widthL L
/-- The layout is valid beside the bits m. -/
def GoodM (size : Int) : Nat → List MPiece → Prop
  | _, [] => True
  | m, x :: L => pcOk size x = true ∧ m &&& pcM x = 0 ∧ GoodM size (m ||| pcM x) L
def maskN (m : Nat) : List MPiece → Nat | [] => m | x :: L => maskN (m ||| pcM x) L

theorem pcM_bit (x : MPiece) (j : Nat) : (pcM x).testBit j = x.has j := by
  rw [pcM_eq]
  unfold MPiece.has
  rw [Nat.testBit_mul_two_pow, Nat.testBit_two_pow_sub_one]
  rw [Bool.eq_iff_iff]
  simp
  omega
theorem goodM_go {size : Int} : ∀ (L : List MPiece) (m : Nat), ((maskGo size m L).2 = 0 ↔ GoodM size m L) ∧ (GoodM size m L → maskGo size m L = (maskN m L, 0)) ∧ ((maskGo size m L).2 = 0 ∨ maskGo size m L = (0, 8))
  | [], m => ⟨by simp [maskGo, GoodM], fun _ => rfl, by simp [maskGo]⟩
  | x :: L, m => by
    have ih := goodM_go (size := size) L (m ||| pcM x)
    by_cases h1 : pcOk size x = true
    · by_cases h2 : m &&& pcM x = 0
      · have e : maskGo size m (x :: L) = maskGo size (m ||| pcM x) L := by simp only [maskGo]; rw [if_pos h1, if_pos h2]
        rw [e]
        exact ⟨⟨(fun h => ⟨h1, h2, ih.1.1 h⟩), (fun h => ih.1.2 h.2.2)⟩, (fun h => ih.2.1 h.2.2), ih.2.2⟩
      · have e : maskGo size m (x :: L) = (0, 8) := by simp only [maskGo]; rw [if_pos h1, if_neg h2]
        rw [e]
        exact ⟨⟨(fun h => by cases h), (fun h => absurd h.2.1 h2)⟩, (fun h => absurd h.2.1 h2), .inr rfl⟩
    · have e : maskGo size m (x :: L) = (0, 8) := by simp only [maskGo]; rw [if_neg h1]
      rw [e]
      exact ⟨⟨(fun h => by cases h), (fun h => absurd h.1 h1)⟩, (fun h => absurd h.1 h1), .inr rfl⟩
theorem pcOk_iff {size : Int} {x : MPiece} : pcOk size x = true ↔ 1 ≤ x.len ∧ x.len ≤ size ∧ 0 ≤ x.pos ∧ x.pos ≤ size - x.len := by
  unfold pcOk inB; simp [and_assoc]
theorem and_zero {a b : Nat} : a &&& b = 0 ↔ ∀ j, ¬ (a.testBit j = true ∧ b.testBit j = true) := by
  constructor
  · intro h j ⟨h1, h2⟩
    have := congrArg (fun z => z.testBit j) h
    simp [h1, h2] at this
  · intro h
    apply Nat.eq_of_testBit_eq
    intro j
    have := h j
    simp only [Nat.testBit_and, Nat.zero_testBit]
    cases h1 : a.testBit j <;> cases h2 : b.testBit j <;> simp_all
theorem GoodM.mem {size : Int} : ∀ {L : List MPiece} {m : Nat}, GoodM size m L → ∀ x ∈ L, pcOk size x = true ∧ m &&& pcM x = 0
  | y :: L, m, h, x, hx => by
    cases hx with
    | head => exact ⟨h.1, h.2.1⟩
    | tail _ hx =>
      obtain ⟨h1, h2⟩ := GoodM.mem h.2.2 x hx
      refine ⟨h1, and_zero.2 fun j ⟨a, b⟩ => and_zero.1 h2 j ⟨?_, b⟩⟩
      rw [Nat.testBit_or, a]; rfl
/-- Nothing of the layout meets m. -/
theorem GoodM.free {size : Int} {L : List MPiece} {m : Nat} (h : GoodM size m L) (j : Nat) (hj : hasL L j = true) : m.testBit j = false := by
  unfold hasL at hj
  rw [List.any_eq_true] at hj
  obtain ⟨x, hx, hb⟩ := hj
  have := and_zero.1 (h.mem x hx).2 j
  rw [pcM_bit, hb] at this
  simpa using this
theorem GoodM.sub {size : Int} : ∀ {L : List MPiece} {m m' : Nat}, GoodM size m L → (∀ j, m'.testBit j = true → m.testBit j = true) → GoodM size m' L
  | [], _, _, _, _ => trivial
  | x :: L, m, m', h, hs => ⟨h.1, and_zero.2 fun j ⟨a, b⟩ => and_zero.1 h.2.1 j ⟨hs j a, b⟩, GoodM.sub h.2.2 fun j hj => by
      rw [Nat.testBit_or, Bool.or_eq_true] at hj ⊢
      exact hj.imp (hs j) id⟩
theorem maskN_bit : ∀ (L : List MPiece) (m j : Nat), (maskN m L).testBit j = (m.testBit j || hasL L j)
  | [], m, j => by simp [maskN, hasL]
  | x :: L, m, j => by
    rw [maskN, maskN_bit L, Nat.testBit_or, pcM_bit, Bool.or_assoc]
    rfl

/- The sum of the lengths. -/
def cnt (p : Nat → Bool) : Nat → Nat | 0 => 0 | n + 1 => cnt p n + if p n = true then 1 else 0
theorem cnt_le (p : Nat → Bool) : ∀ n, cnt p n ≤ n
  | 0 => Nat.le_refl _
  | n + 1 => by have := cnt_le p n; simp only [cnt]; split <;> omega
theorem cnt_or {p q : Nat → Bool} : ∀ n, (∀ i, i < n → ¬ (p i = true ∧ q i = true)) → cnt (fun i => p i || q i) n = cnt p n + cnt q n
  | 0, _ => rfl
  | n + 1, h => by
    have ih := cnt_or (p := p) (q := q) n (fun i hi => h i (by omega))
    have h0 := h n (by omega)
    simp only [cnt, ih, Bool.or_eq_true]
    by_cases hp : p n = true <;> by_cases hq : q n = true
    · exact absurd ⟨hp, hq⟩ h0
    · simp [hp, hq]; omega
    · simp [hp, hq]; omega
    · simp [hp, hq]
theorem cnt_int (a l : Nat) : ∀ n, cnt (fun i => decide (a ≤ i ∧ i < a + l)) n = min n (a + l) - min n a
  | 0 => by simp [cnt]
  | n + 1 => by
    have ih := cnt_int a l n
    simp only [cnt, ih, decide_eq_true_eq]
    split <;> omega
def pop (m n : Nat) : Nat := cnt (fun i => m.testBit i) n
theorem pop_or {m : Nat} {x : MPiece} (n : Nat) (h : m &&& pcM x = 0) (hx : x.p + x.l ≤ n) : pop (m ||| pcM x) n = pop m n + x.l := by
  unfold pop
  have e : (fun i => (m ||| pcM x).testBit i) = fun i => m.testBit i || decide (x.p ≤ i ∧ i < x.p + x.l) := by
    funext i
    rw [Nat.testBit_or, pcM_bit]; rfl
  rw [e, cnt_or n, cnt_int]
  · have e9 : cnt (fun i => m.testBit i) n = cnt m.testBit n := rfl
    omega
  · rintro i _ ⟨a, b⟩
    exact and_zero.1 h i ⟨a, by rw [pcM_bit]; exact b⟩
theorem GoodM.width {size : Int} : ∀ {L : List MPiece} {m : Nat}, GoodM size m L → pop m size.toNat + widthL L ≤ size.toNat
  | [], m, _ => by have := cnt_le (fun i => m.testBit i) size.toNat; unfold pop widthL; omega
  | x :: L, m, h => by
    have ih := GoodM.width h.2.2
    obtain ⟨c1, c2, c3, c4⟩ := pcOk_iff.1 h.1
    rw [pop_or _ h.2.1 (by unfold MPiece.p MPiece.l; omega)] at ih
    simp only [widthL]
    omega

/- Fields and words. -/
def getN (w : Nat) : List MPiece → Nat | [] => 0 | x :: L => w / 2 ^ x.p % 2 ^ x.l + 2 ^ x.l * getN w L
/-- The bits of x become the lowest bits of f. -/
def pstep (w f : Nat) (x : MPiece) : Nat := (w - (w &&& pcM x)) ||| (f % 2 ^ x.l * 2 ^ x.p)
def putN (w f : Nat) : List MPiece → Nat | [] => w | x :: L => putN (pstep w f x) (f / 2 ^ x.l) L
theorem add_or : ∀ {a b : Nat}, a &&& b = 0 → a + b = a ||| b := by
  intro a
  induction a using Nat.strongRecOn with
  | _ a ih =>
    intro b h
    by_cases ha : a = 0
    · subst ha; simp
    · have h2 : (a / 2) &&& (b / 2) = 0 := by rw [← Nat.and_div_two, h]
      have e := ih (a / 2) (by omega) h2
      have h0 := and_zero.1 h 0
      rw [Nat.testBit_zero, Nat.testBit_zero] at h0
      simp at h0
      have e2 : (a ||| b) / 2 = a / 2 ||| b / 2 := Nat.or_div_two
      have e3 : (a ||| b) % 2 = a % 2 + b % 2 := by
        have e4 := Nat.testBit_or a b 0
        rw [Nat.testBit_zero, Nat.testBit_zero, Nat.testBit_zero] at e4
        rcases Nat.mod_two_eq_zero_or_one a with u | u <;> rcases Nat.mod_two_eq_zero_or_one b with v | v <;> rcases Nat.mod_two_eq_zero_or_one (a ||| b) with t | t <;> simp_all
      omega
theorem sub_and_bit (w m j : Nat) : (w - (w &&& m)).testBit j = (w.testBit j && !m.testBit j) := by
  have e : w - (w &&& m) = w ^^^ (w &&& m) := by
    have h : (w &&& m) + (w ^^^ (w &&& m)) = w := by
      have h1 : (w &&& m) &&& (w ^^^ (w &&& m)) = 0 := by
        rw [and_zero]; intro i; simp only [Nat.testBit_and, Nat.testBit_xor]; cases w.testBit i <;> cases m.testBit i <;> simp
      rw [add_or h1]
      apply Nat.eq_of_testBit_eq; intro i
      simp only [Nat.testBit_or, Nat.testBit_and, Nat.testBit_xor]; cases w.testBit i <;> cases m.testBit i <;> simp
    omega
  rw [e, Nat.testBit_xor, Nat.testBit_and]
  cases w.testBit j <;> cases m.testBit j <;> simp
theorem has_iff {x : MPiece} {j : Nat} : x.has j = true ↔ x.p ≤ j ∧ j < x.p + x.l := by unfold MPiece.has; simp
theorem pstep_bit (w f : Nat) (x : MPiece) (j : Nat) : (pstep w f x).testBit j = if x.has j = true then f.testBit (j - x.p) else w.testBit j := by
  unfold pstep
  rw [Nat.testBit_or, sub_and_bit, pcM_bit, Nat.testBit_mul_two_pow, Nat.testBit_mod_two_pow]
  by_cases h : x.has j = true
  · obtain ⟨a, b⟩ := has_iff.1 h
    rw [if_pos h, h]
    have e1 : decide (j ≥ x.p) = true := by simpa using a
    have e2 : decide (j - x.p < x.l) = true := by simp; omega
    rw [e1, e2]; simp
  · have h' := fun q => h (has_iff.2 q)
    rw [if_neg h, (by simpa using h : x.has j = false)]
    by_cases e1 : x.p ≤ j
    · have e2 : decide (j - x.p < x.l) = false := by
        have : ¬ (j < x.p + x.l) := fun q => h' ⟨e1, q⟩
        simp; omega
      rw [e2]; simp
    · have e2 : decide (j ≥ x.p) = false := by simp; omega
      rw [e2]; simp
/-- What a layout's bit j becomes. -/
def valJ (f : Nat) : List MPiece → Nat → Bool | [], _ => false | x :: L, j => if hasL L j = true then valJ (f / 2 ^ x.l) L j else f.testBit (j - x.p)
theorem putN_bit : ∀ (L : List MPiece) (w f j : Nat), (putN w f L).testBit j = if hasL L j = true then valJ f L j else w.testBit j
  | [], w, f, j => by simp [putN, hasL]
  | x :: L, w, f, j => by
    rw [putN, putN_bit L, pstep_bit]
    have e : hasL (x :: L) j = (x.has j || hasL L j) := rfl
    simp only [valJ]
    rw [e]
    cases x.has j <;> cases hasL L j <;> simp
theorem getN_lt (w : Nat) : ∀ L : List MPiece, getN w L < 2 ^ widthL L
  | [] => by simp [getN, widthL]
  | x :: L => by
    have ih := getN_lt w L
    have h1 := Nat.mod_lt (w / 2 ^ x.p) (Nat.two_pow_pos x.l)
    simp only [getN, widthL]
    rw [Nat.pow_add]
    calc w / 2 ^ x.p % 2 ^ x.l + 2 ^ x.l * getN w L < 2 ^ x.l + 2 ^ x.l * getN w L := by omega
      _ = 2 ^ x.l * (getN w L + 1) := by rw [Nat.mul_add, Nat.mul_one, Nat.add_comm]
      _ ≤ 2 ^ x.l * 2 ^ widthL L := Nat.mul_le_mul_left _ ih
/-- The field depends on the layout's bits only. -/
theorem getN_same {w w' : Nat} : ∀ L : List MPiece, (∀ j, hasL L j = true → w.testBit j = w'.testBit j) → getN w L = getN w' L
  | [], _ => rfl
  | x :: L, h => by
    have ih := getN_same L (fun j hj => h j (by simp only [hasL, List.any_cons] at hj ⊢; rw [hj]; simp))
    simp only [getN]
    rw [ih]
    congr 1
    apply Nat.eq_of_testBit_eq
    intro i
    rw [Nat.testBit_mod_two_pow, Nat.testBit_mod_two_pow, Nat.testBit_div_two_pow, Nat.testBit_div_two_pow]
    by_cases hi : i < x.l
    · rw [h (i + x.p) (by simp only [hasL, List.any_cons, Bool.or_eq_true]; left; exact has_iff.2 (by omega))]
    · simp [hi]
theorem pstep_get (w f : Nat) (x : MPiece) : pstep w f x / 2 ^ x.p % 2 ^ x.l = f % 2 ^ x.l := by
  apply Nat.eq_of_testBit_eq
  intro i
  rw [Nat.testBit_mod_two_pow, Nat.testBit_mod_two_pow, Nat.testBit_div_two_pow, pstep_bit]
  by_cases hi : i < x.l
  · have e : x.has (i + x.p) = true := has_iff.2 (by omega)
    rw [if_pos e]; simp
  · simp [hi]
theorem hasL_disj {size : Int} {x : MPiece} {L : List MPiece} {m : Nat} (h : GoodM size m (x :: L)) (j : Nat) (hx : x.has j = true) : hasL L j = false := by
  cases hj : hasL L j
  · rfl
  · have := h.2.2.free j hj
    rw [Nat.testBit_or, pcM_bit, hx] at this
    simp at this
/-- What was put is got. -/
theorem get_put {size : Int} : ∀ {L : List MPiece} {m : Nat} (w f : Nat), GoodM size m L → f < 2 ^ widthL L → getN (putN w f L) L = f
  | [], m, w, f, _, hf => by simp [widthL] at hf; simp [getN, hf]
  | x :: L, m, w, f, h, hf => by
    simp only [widthL, Nat.pow_add] at hf
    have ih := get_put (pstep w f x) (f / 2 ^ x.l) h.2.2 (Nat.div_lt_of_lt_mul hf)
    simp only [getN, putN]
    rw [ih]
    have e : putN (pstep w f x) (f / 2 ^ x.l) L / 2 ^ x.p % 2 ^ x.l = pstep w f x / 2 ^ x.p % 2 ^ x.l := by
      apply Nat.eq_of_testBit_eq
      intro i
      rw [Nat.testBit_mod_two_pow, Nat.testBit_mod_two_pow, Nat.testBit_div_two_pow, Nat.testBit_div_two_pow]
      by_cases hi : i < x.l
      · rw [putN_bit, if_neg (by rw [hasL_disj h (i + x.p) (has_iff.2 (by omega))]; decide)]
      · simp [hi]
    rw [e, pstep_get]
    exact Nat.mod_add_div f _
/-- Putting the field that is there changes nothing. -/
theorem put_get : ∀ (L : List MPiece) (w : Nat), putN w (getN w L) L = w
  | [], w => rfl
  | x :: L, w => by
    simp only [getN, putN]
    have hl := Nat.mod_lt (w / 2 ^ x.p) (Nat.two_pow_pos x.l)
    have e1 : (w / 2 ^ x.p % 2 ^ x.l + 2 ^ x.l * getN w L) / 2 ^ x.l = getN w L := by
      rw [Nat.add_mul_div_left _ _ (Nat.two_pow_pos x.l), Nat.div_eq_of_lt hl, Nat.zero_add]
    have e2 : pstep w (w / 2 ^ x.p % 2 ^ x.l + 2 ^ x.l * getN w L) x = w := by
      apply Nat.eq_of_testBit_eq
      intro j
      rw [pstep_bit]
      by_cases h : x.has j = true
      · rw [if_pos h]
        have h := has_iff.1 h
        have e3 : (w / 2 ^ x.p % 2 ^ x.l + 2 ^ x.l * getN w L).testBit (j - x.p) = (w / 2 ^ x.p % 2 ^ x.l).testBit (j - x.p) := by
          have a1 := Nat.testBit_mod_two_pow (w / 2 ^ x.p % 2 ^ x.l + 2 ^ x.l * getN w L) x.l (j - x.p)
          rw [Nat.add_mul_mod_self_left, Nat.mod_mod] at a1
          have hd : decide (j - x.p < x.l) = true := by simp; omega
          rw [hd, Bool.true_and] at a1
          exact a1.symm
        rw [e3, Nat.testBit_mod_two_pow, Nat.testBit_div_two_pow]
        have hd : decide (j - x.p < x.l) = true := by simp; omega
        rw [hd, Bool.true_and, Nat.sub_add_cancel h.1]
      · rw [if_neg h]
    rw [e1, e2]
    exact put_get L w
theorem putN_lt {size : Int} {L : List MPiece} {m w f : Nat} (h : GoodM size m L) (hw : w < 2 ^ size.toNat) : putN w f L < 2 ^ size.toNat := by
  apply Nat.lt_pow_two_of_testBit
  intro j hj
  rw [putN_bit]
  have hn : hasL L j = false := by
    cases hh : hasL L j
    · rfl
    · unfold hasL at hh
      rw [List.any_eq_true] at hh
      obtain ⟨x, hx, hb⟩ := hh
      obtain ⟨c1, c2, c3, c4⟩ := pcOk_iff.1 (h.mem x hx).1
      have hb := has_iff.1 hb
      unfold MPiece.p MPiece.l at hb
      omega
  rw [if_neg (by rw [hn]; decide)]
  exact Nat.testBit_lt_two_pow (Nat.lt_of_lt_of_le hw (Nat.pow_le_pow_right (by omega) hj))
end Go.Proofs.YtnjlgllpfbkdoaaGreatDoor
namespace Go.Proofs.YtnjlgllpfbkdoaaGreatDoor
open Go.RowKit Go.Shelf Go.Deep
set_option linter.unusedVariables false
set_option linter.unusedSimpArgs false
attribute [local go_sem] Oper.semAt_some

/-- A piece lies in words of 64 bits. -/
def MPiece.fits (x : MPiece) : Prop := 1 ≤ x.len ∧ 0 ≤ x.pos ∧ x.pos + x.len ≤ 64
def GoodL (L : List MPiece) : Prop := (∀ x ∈ L, x.fits) ∧ widthL L ≤ 64
def placedN : Nat → List MPiece → List (Nat × MPiece) | _, [] => [] | p, x :: L => (p, x) :: placedN (p + x.l) L
theorem placedN_len : ∀ (L : List MPiece) (p : Nat), (placedN p L).length = L.length
  | [], _ => rfl
  | x :: L, p => by simp [placedN, placedN_len L]
theorem widthL_drop : ∀ (L : List MPiece) (i : Nat) (x : MPiece), L[i]? = some x → widthL (L.drop i) = x.l + widthL (L.drop (i + 1))
  | y :: L, 0, x, h => by simp at h; subst h; rfl
  | y :: L, i + 1, x, h => by simpa using widthL_drop L i x (by simpa using h)
theorem drop_at {L : List MPiece} {i : Nat} {x : MPiece} (h : L[i]? = some x) : L.drop i = x :: L.drop (i + 1) := by
  have hlt := (List.getElem?_eq_some_iff.1 h).1
  rw [List.drop_eq_getElem_cons hlt]
  congr 1
  exact Option.some.inj ((List.getElem?_eq_getElem hlt).symm.trans h)
/-- Pieces in memory below a bound. -/
def PcsIn (w : World) (n : Nat) (A : Option Addr) (L : List MPiece) : Prop := ∀ i x, L[i]? = some x → ∃ g o, A = some ⟨g, o, none⟩ ∧ g < n ∧ w.cell? ⟨g, o + i * 2, none⟩ = some (.int .i64 x.pos) ∧ w.cell? ⟨g, o + i * 2 + 1, none⟩ = some (.int .i64 x.len)
theorem PcsIn.kept {w w' : World} {n : Nat} {A : Option Addr} {L : List MPiece} (h : PcsIn w n A L) (hb : Below n w w') : PcsIn w' n A L := by
  intro i y hy
  obtain ⟨g, o, e, hg, h0, h1⟩ := h i y hy
  exact ⟨g, o, e, hg, by rw [hb.cell hg]; exact h0, by rw [hb.cell hg]; exact h1⟩
theorem PcsAt.in {w : World} {A : Option Addr} {L : List MPiece} (h : PcsAt w A L) : PcsIn w w.heap.size A L := h
/-- What comes: a place and a piece. -/
abbrev PEl : Type := { x : Nat × MPiece // x.2.fits ∧ x.1 + x.2.l ≤ 64 }
def PEl.encs (x : PEl) : Array Value := #[.int .i64 (x.1.1 : Nat), .agg #[.int .i64 x.1.2.pos, .int .i64 x.1.2.len]]
/-- What a round keeps: all below n₀, and every block of cells but one. -/
def PKp (n₀ Bw : Nat) (W W' : World) : Prop := Below n₀ W W' ∧ ∀ k c e f, k ≠ Bw → W.heap[k]? = some (.cells c e f) → W'.heap[k]? = some (.cells c e f)
theorem PKp.refl (n₀ Bw : Nat) (W : World) : PKp n₀ Bw W W := ⟨Below.refl _ _, fun _ _ _ _ _ h => h⟩
theorem PKp.trans {n₀ Bw : Nat} {A B C : World} (h : PKp n₀ Bw A B) (k : PKp n₀ Bw B C) : PKp n₀ Bw A C := ⟨h.1.trans k.1, fun j c e f hj hc => k.2 j c e f hj (h.2 j c e f hj hc)⟩
theorem PKp.alloc {n₀ Bw : Nat} (W : World) (hn : n₀ ≤ W.heap.size) (o : Obj) : PKp n₀ Bw W (W.alloc o) :=
  ⟨(Below.refl _ _).alloc hn o, fun k c e f _ hc => (Below.heap_alloc W o k (Array.getElem?_eq_some_iff.1 hc).1).trans hc⟩
theorem PKp.putObj {n₀ Bw : Nat} {w : World} (hn : n₀ ≤ w.heap.size) (W : World) (l : Nat) (o o' : Obj) (hl : w.heap.size ≤ l) (h : W.heap[l]? = some o) (ho : o.isCells = false) (hw : o.isWalk = false) : PKp n₀ Bw W (W.putObj l o') :=
  ⟨belowK_b hn W l o o' hl h ho hw, fun k c e f _ hc => by
    by_cases hkl : k = l
    · subst hkl; rw [h] at hc; cases hc; simp [Obj.isCells] at ho
    · exact (World.putObj_heap_other hkl).trans hc⟩
theorem PKp.setCell {n₀ Bw : Nat} (W : World) (hn : n₀ ≤ Bw) (i : Nat) (v : Value) : PKp n₀ Bw W (W.setCell ⟨Bw, i, none⟩ v) :=
  ⟨(Below.refl _ _).setCell (p := ⟨Bw, i, none⟩) hn v, fun k c e f hk hc => (Below.heap_setCell W ⟨Bw, i, none⟩ v k hk).trans hc⟩
theorem PKp.drew {n₀ Bw : Nat} (W : World) : PKp n₀ Bw W W.drew := ⟨(Below.refl _ _).drew, fun _ _ _ _ _ h => h⟩
theorem lcell {W : World} {B : Nat} {v : Value} {t : TypeId} (h : W.heap[B]? = some (.cells #[v] t (0, 0))) : W.cell? ⟨B, 0, none⟩ = some v := by simp [World.cell?, h]
theorem pcell {W : World} {B : Nat} {u v : Value} {t : TypeId} (h : W.heap[B]? = some (.cells #[u, v] t (0, 0))) : W.cell? ⟨B, 0, none⟩ = some u ∧ W.cell? ⟨B, 1, none⟩ = some v := by simp [World.cell?, h]
theorem PKp.below_swap {B : Nat} {a b c : World} (h1 : Below B a b) (h2 : Below B a c) (hs : b.heap.size ≤ c.heap.size) : Below B b c :=
  ⟨h2.os.trans h1.os.symm, h2.tape.trans h1.tape.symm, h2.output.trans h1.output.symm, hs, fun k hk => (h2.block k hk).trans (h1.block k hk).symm⟩

set_option maxRecDepth 100000 in
set_option maxHeartbeats 4000000 in
theorem placed1_in (F : Fence) (hd : F.depth = none) (n : Nat) (h1 : F.fn 118) (hro : F.round = none)
    (w0 : World) (l Bt Bw n₀ : Nat) (J Jx : List PEl → World → Prop) (hJ : ∀ s W o, J s W → J s (W.alloc o)) (A : Option Addr) (c : Nat) (L : List MPiece) (hA : PcsIn w0 n₀ A L) (hG : GoodL L) (hc : L.length ≤ c) (hcm : c ≤ maxLen)
    (hY : ∀ m pre x W, J pre W → pre.length < L.length → YieldAt F m Tryz.prog l x.encs W fun e W' =>
      (e = .returned (.bool true) ∧ J (pre ++ [x]) W' ∧ PKp n₀ Bw W W') ∨ (e = .returned (.bool false) ∧ Jx (pre ++ [x]) W'))
    (W : World) (hW : Below n₀ w0 W) (hn0 : n₀ ≤ W.heap.size) (hB : W.heap[Bt]? = some (.cells #[.slice A L.length c] 73 (0, 0))) (hne : Bt ≠ Bw) (hBw : Bw < W.heap.size) (h0 : J [] W) :
    CallsIn F n Tryz.prog 118 #[.func (.yield l) #[] #[], .pointer (some ⟨Bt, 0, none⟩)] W fun e W' => (∃ v, e = .returned v) ∧
      ((∃ ys : List PEl, ys.map (·.1) = placedN 0 L ∧ J ys W') ∨ (∃ pre : List PEl, pre.map (·.1) <+: placedN 0 L ∧ Jx pre W')) := by
  obtain ⟨nn, hnn⟩ : ∃ nn, L.length = nn := ⟨_, rfl⟩
  have HN := Lib.hid hnn
  have HG := Lib.hid hG
  have HA := Lib.hid hA
  have HJ := Lib.hid hJ
  have HY := Lib.hid hY
  have HB0 := Lib.hid (And.intro hW (And.intro hn0 (And.intro hB (And.intro hne hBw))))
  have c0 := lcell hB
  rw [hnn] at c0 hc
  have hnx : (nn : Int) ≤ 9223372036854775807 := by unfold maxLen at hcm; omega
  have HH0 := Lib.hid h0
  clear hnn hG hA hJ hY hW hn0 hB hcm h0 hne hBw hc
  refine callsIn_of_wp Tryz.func118 rfl h1 ?_ hro
  simp only [Tryz.ntmps118, List.size_toArray, List.length_cons, List.length_nil, Nat.reduceAdd, Nat.reduceSub, Array.replicate_succ, Array.replicate_zero, List.push_toArray, List.append_toArray, List.nil_append, List.cons_append]
  gi_wp2
  gi_loopw [3, 8] (fun vf vi wr => ∃ p i : Nat, vf = .int .i64 p ∧ vi = .int .i64 i ∧ i ≤ nn ∧ Hid (PKp n₀ Bw W wr ∧ p + widthL (L.drop i) = widthL L ∧ ∃ q : List PEl, q.map (·.1) ++ placedN p (L.drop i) = placedN 0 L ∧ J q wr)) (fun _ vi _ => nn - (intOf vi).toNat)
  case atStart => exact ⟨0, 0, rfl, rfl, Nat.zero_le _, Lib.hid ⟨PKp.refl _ _ _, by rw [List.drop_zero]; omega, [], by rw [List.drop_zero]; rfl, HH0.out⟩⟩
  case round =>
    obtain ⟨p, i, rfl, rfl, hi, HI⟩ := hrel
    by_cases hlt : i < nn
    · obtain ⟨y, hy⟩ : ∃ y, L[i]? = some y := ⟨_, List.getElem?_eq_getElem (by rw [HN.out]; exact hlt)⟩
      have hb := HB0.out.1.trans HI.out.1.1
      obtain ⟨g, o, rfl, hg, t0, t1⟩ := (HA.out.kept hb) i y hy
      have hfit := HG.out.1 y (List.mem_of_getElem? hy)
      have hwd := widthL_drop L i y hy
      have hwt := HG.out.2
      have hpw := HI.out.2.1
      obtain ⟨q, hq, hJq⟩ := HI.out.2.2
      rw [drop_at hy] at hq
      simp only [placedN] at hq
      have hql : q.length < L.length := by
        have e := congrArg List.length hq
        rw [List.length_append, List.length_map, List.length_cons, placedN_len, placedN_len, List.length_drop] at e
        have := HN.out
        omega
      obtain ⟨x, hx⟩ : ∃ x : PEl, x.1 = (p, y) := ⟨⟨(p, y), hfit, by show p + y.l ≤ 64; omega⟩, rfl⟩
      have hyl : (y.l : Int) = y.len := by have := hfit.1; unfold MPiece.l; omega
      have hpl : p + y.l ≤ 64 := by omega
      obtain ⟨fn, tmps, assign, body, hyy, hR⟩ := HY.out (n - 1) q x (wr.alloc (.cells #[.int .i64 y.pos, .int .i64 y.len] 129)) (HJ.out _ _ _ hJq) hql
      have hxe : x.encs = #[.int .i64 (p : Nat), .agg #[.int .i64 y.pos, .int .i64 y.len]] := by unfold PEl.encs; rw [hx]
      rw [hxe] at hyy
      have hnw : n₀ ≤ wr.heap.size := Nat.le_trans HB0.out.2.1 HI.out.1.1.size
      have hbw : Bw < wr.heap.size := Nat.lt_of_lt_of_le HB0.out.2.2.2.2 HI.out.1.1.size
      have hnew := heap_alloc_new wr (.cells #[.int .i64 y.pos, .int .i64 y.len] 129)
      have HK := Lib.hid (PKp.alloc (Bw := Bw) wr hnw (.cells #[.int .i64 y.pos, .int .i64 y.len] 129))
      have HX := Lib.hid (And.intro hq (And.intro hpw (And.intro hwd hx)))
      have HNEW := Lib.hid hnew
      have HBW := Lib.hid (show wr.heap.size ≠ Bw by omega)
      have hcells := piece_cells wr y.pos y.len wr.heap.size rfl
      obtain ⟨a, ha⟩ : ∃ a, y.pos = a := ⟨_, rfl⟩
      obtain ⟨b, hb'⟩ : ∃ a, y.len = a := ⟨_, rfl⟩
      rw [ha] at t0 HK HNEW hyy hR hcells
      rw [hb'] at t1 HK HNEW hyy hR hcells hyl
      have HYL := Lib.hid (And.intro hyl hpl)
      have hbb : b ≤ 64 := by omega
      have hb0 : 1 ≤ b := by have := hfit.1; omega
      have hp64 : (p : Int) ≤ 64 := by omega
      have HLT := Lib.hid hlt
      clear hy hb hfit hwd hwt hpw hJq hq hql hx hyl hpl hxe hnw hbw hnew ha hb'
      gi_wp2_with (refine hR.mono ?_; clear hR; rintro e W2 (⟨rfl, hJ2, hk2⟩ | ⟨rfl, hx2⟩); (try (obtain ⟨d0, d1⟩ := pcell (hk2.2 _ _ _ _ HBW.out HNEW.out))))
      · have HJ2 := Lib.hid hJ2
        have HK2 := Lib.hid hk2
        clear hJ2 hk2
        go_roundw
        case rel =>
          obtain ⟨h1, h2, h3, h4⟩ := HX.out
          refine ⟨p + y.l, i + 1, ?_, by first | rfl | go_num | (congr 1), by have := HLT.out; omega, Lib.hid ⟨HI.out.1.trans (HK.out.trans HK2.out), by omega, q ++ [x], ?_, HJ2.out⟩⟩
          · rw [← HYL.out.1]; go_num
          · rw [← h1, List.map_append, List.map_cons, List.map_nil, h4]; simp
        case measure => simp only [intOf]; have := HLT.out; omega
      · refine bodyPost_ret (v := .tuple #[]) (by simp [results, Tryz.results118, go_sem]) rfl ?_
        refine ⟨⟨_, rfl⟩, .inr ⟨q ++ [x], ?_, hx2⟩⟩
        obtain ⟨h1, h2, h3, h4⟩ := HX.out
        rw [← h1, List.map_append, List.map_cons, List.map_nil, h4]
        exact ⟨placedN (p + y.l) (L.drop (i + 1)), by simp⟩
    · obtain rfl : nn = i := by omega
      obtain ⟨q, hq, hJq⟩ := HI.out.2.2
      rw [List.drop_of_length_le (by rw [HN.out]; exact Nat.le_refl _)] at hq
      simp only [placedN, List.append_nil] at hq
      have HQ := Lib.hid hq
      have HJQ := Lib.hid hJq
      clear hq hJq
      gi_wp2
      go_end0
      exact ⟨⟨_, rfl⟩, .inl ⟨q, HQ.out, HJQ.out⟩⟩

/-- placed hands back its iterator: the list lies in a box of its own. -/
theorem placed_in (F : Fence) (n : Nat) (h1 : F.fn 85) (hro : F.round = none) (A : Option Addr) (m c : Nat) (w : World) :
    CallsIn F n Tryz.prog 85 #[.slice A m c] w fun e w' => e = .returned (.func (.func 118) #[] #[.pointer (some ⟨w.heap.size, 0, none⟩)]) ∧ w' = w.alloc (.cells #[.slice A m c] 73) := by
  refine callsIn_of_wp Tryz.func85 rfl h1 ?_ hro
  simp only [Tryz.ntmps85, List.size_toArray, List.length_cons, List.length_nil, Nat.reduceAdd, Nat.reduceSub, Array.replicate_succ, Array.replicate_zero, List.push_toArray, List.append_toArray, List.nil_append, List.cons_append]
  gi_wp2
  go_ret
  exact ⟨rfl, rfl⟩

/-- The iterator's contract, as a range over it wants it. -/
theorem placed_stops (F : Fence) (hd : F.depth = none) (n : Nat) (h1 : F.fn 118) (hro : F.round = none)
    (w0 : World) (Bt Bw n₀ : Nat) (A : Option Addr) (c : Nat) (L : List MPiece) (hA : PcsIn w0 n₀ A L) (hG : GoodL L) (hc : L.length ≤ c) (hcm : c ≤ maxLen)
    (w : World) (hw : Below n₀ w0 w) (hn0 : n₀ ≤ w.heap.size) (hB : w.heap[Bt]? = some (.cells #[.slice A L.length c] 73 (0, 0))) (hne : Bt ≠ Bw) (hBw : Bw < w.heap.size) :
    SeqStopsK F n Tryz.prog 118 #[.pointer (some ⟨Bt, 0, none⟩)] PEl.encs (PKp n₀ Bw) (fun ys => ys.map (·.1) = placedN 0 L) (fun pre => pre.map (·.1) <+: placedN 0 L) L.length w := fun l J Jx W hW hJ _ hY h0 =>
  placed1_in F hd n h1 hro w0 l Bt Bw n₀ J Jx (fun s W' o hs => hJ s W' _ none hs (World.grownBy_alloc W' o none) (fun r e => by cases e)) A c L hA hG hc hcm (fun m pre x W hj hl => YieldAt.anyDepth hd m (hY pre x W hj hl)) W (hw.trans (hW.mono hn0)) (Nat.le_trans hn0 hW.size) ((hW.block Bt (Array.getElem?_eq_some_iff.1 hB).1).trans hB) hne (Nat.lt_of_lt_of_le hBw hW.size) h0
end Go.Proofs.YtnjlgllpfbkdoaaGreatDoor
namespace Go.Proofs.YtnjlgllpfbkdoaaGreatDoor
open Go.RowKit Go.Instr
set_option linter.unusedVariables false
set_option linter.unusedSimpArgs false
set_option maxRecDepth 100000
set_option maxHeartbeats 2000000

/-- What checkWord says. -/
def cwR (size : Int) (word : Nat) (L : List MPiece) : Int := if (maskR size L).2 = 0 then (if okB size.toNat word = true then 0 else 24) else (maskR size L).2
theorem maskR_ok {size : Int} {L : List MPiece} (h : (maskR size L).2 = 0) : (1 ≤ size ∧ size ≤ 64) ∧ L.length ≤ 4 ∧ GoodM size 0 L ∧ maskR size L = (maskN 0 L, 0) := by
  unfold maskR at *
  split at h
  · rename_i h1
    rw [if_pos h1]
    split at h
    · rename_i h2
      rw [if_pos h2]
      have g := goodM_go (size := size) L 0
      have hg := g.1.1 h
      exact ⟨h1, h2, hg, g.2.1 hg⟩
    · cases h
  · cases h
theorem maskR_bad {size : Int} {L : List MPiece} (h : ¬ (maskR size L).2 = 0) : (maskR size L).1 = 0 ∧ ((maskR size L).2 = 2 ∨ (maskR size L).2 = 4 ∨ (maskR size L).2 = 8) := by
  unfold maskR at *
  split
  · rename_i h1
    rw [if_pos h1] at h
    split
    · rename_i h2
      rw [if_pos h2] at h
      rcases (goodM_go (size := size) L 0).2.2 with g | g
      · exact absurd g h
      · rw [g]; exact ⟨rfl, .inr (.inr rfl)⟩
    · exact ⟨rfl, .inr (.inl rfl)⟩
  · exact ⟨rfl, .inl rfl⟩
theorem goodL_of {size : Int} {L : List MPiece} (hs : 1 ≤ size ∧ size ≤ 64) (h : GoodM size 0 L) : GoodL L := by
  refine ⟨fun x hx => ?_, ?_⟩
  · obtain ⟨c1, c2, c3, c4⟩ := pcOk_iff.1 (h.mem x hx).1
    exact ⟨c1, c3, by omega⟩
  · have := h.width
    omega
theorem checkWord_any (size : Int) (word : Nat) (A : Option Addr) (c : Nat) (L : List MPiece) (w : World) (hA : PcsAt w A L) (hok : PcsOk L) (hc : L.length ≤ c) (hcm : c ≤ maxLen) :
    Calls Tryz.prog 84 #[.int .i64 size, .int .u64 word, .slice A L.length c] w fun e w' => e = .returned (.int .i64 (cwR size word L)) ∧ Below w.heap.size w w' := by
  have HM := Lib.hid (fun W (h : PcsAt W A L) => qcheck_any size A c L W h hok hc hcm)
  have HA := Lib.hid hA
  obtain ⟨n, hn⟩ : ∃ n, L.length = n := ⟨_, rfl⟩
  by_cases h0 : (maskR size L).2 = 0
  · obtain ⟨⟨h1, h2⟩, _⟩ := maskR_ok h0
    obtain ⟨m, rfl⟩ : ∃ m : Nat, size = m := ⟨size.toNat, by omega⟩
    have HO := Lib.hid (fun W => qok_any m word W (by omega) (by omega))
    have hr : cwR m word L = needR 24 [okB m word] := by
      unfold cwR; rw [if_pos h0, Int.toNat_natCast]
      cases okB m word <;> rfl
    rw [hr]
    rw [h0] at HM
    rw [hn] at HM ⊢
    generalize okB m word = q at *
    clear hA hok hc hcm hn h0 hr
    go_enter Tryz.func84, Tryz.ntmps84
    go_wp2_with (first
      | (go_at_call 116; (with_reducible refine (HM.out _ HA.out).mono ?_); rintro e w' ⟨rfl, hb⟩)
      | (go_at_call 117; (with_reducible refine (HO.out _).mono ?_); rintro e w' ⟨rfl, rfl⟩)
      | (go_at_call 81; (with_reducible refine (needB1 24 _ _ _ (by simp)).mono ?_); rintro e w' ⟨rfl, rfl⟩))
    go_ret
    exact ⟨rfl, hb.alloc hb.size _⟩
  · have hr : cwR size word L = (maskR size L).2 := by unfold cwR; rw [if_neg h0]
    have h1 : ((maskR size L).2 != 0) = true := by simpa using h0
    have h2 : ((maskR size L).2 == 0) = false := by simpa using h0
    rw [hr]
    rw [hn] at HM ⊢
    generalize (maskR size L).2 = z at *
    clear hA hok hc hcm hn h0 hr
    go_enter Tryz.func84, Tryz.ntmps84
    go_wp2_with (go_at_call 116; (with_reducible refine (HM.out _ HA.out).mono ?_); rintro e w' ⟨rfl, hb⟩)
    go_ret
    exact ⟨rfl, hb⟩
theorem widthL_take : ∀ (L : List MPiece) (i : Nat) (x : MPiece), L[i]? = some x → widthL (L.take (i + 1)) = widthL (L.take i) + x.l
  | y :: L, 0, x, h => by simp at h; subst h; simp [widthL]
  | y :: L, i + 1, x, h => by
    have := widthL_take L i x (by simpa using h)
    simp only [List.take_succ_cons, widthL] at this ⊢
    omega
theorem widthL_take_le : ∀ (L : List MPiece) (i : Nat), widthL (L.take i) ≤ widthL L
  | [], i => by simp
  | y :: L, 0 => by simp [widthL]
  | y :: L, i + 1 => by have := widthL_take_le L i; simp only [List.take_succ_cons, widthL]; omega
end Go.Proofs.YtnjlgllpfbkdoaaGreatDoor
namespace Go.Proofs.YtnjlgllpfbkdoaaGreatDoor
open Go.RowKit Go.Shelf Go.Deep Go.Instr Go.Sort
set_option linter.unusedVariables false
set_option linter.unusedSimpArgs false
attribute [local go_sem] Oper.semAt_some

/-- A step of the loop. -/
def gstep (word f : Nat) (x : Nat × MPiece) : Nat := f ||| (word / 2 ^ x.2.p % 2 ^ x.2.l * 2 ^ x.1)
theorem gstep_fold (word : Nat) : ∀ (L : List MPiece) (p f : Nat), f < 2 ^ p → (placedN p L).foldl (gstep word) f = f + 2 ^ p * getN word L
  | [], p, f, hf => by simp [placedN, getN]
  | x :: L, p, f, hf => by
    have e : gstep word f (p, x) = f + 2 ^ p * (word / 2 ^ x.p % 2 ^ x.l) := by
      unfold gstep
      rw [Nat.mul_comm _ (2 ^ p), Nat.or_comm, Nat.add_comm]
      exact (Nat.two_pow_add_eq_or_of_lt hf _).symm
    have hm := Nat.mod_lt (word / 2 ^ x.p) (Nat.two_pow_pos x.l)
    have hlt : f + 2 ^ p * (word / 2 ^ x.p % 2 ^ x.l) < 2 ^ (p + x.l) := by
      rw [Nat.pow_add]
      calc f + 2 ^ p * (word / 2 ^ x.p % 2 ^ x.l) < 2 ^ p + 2 ^ p * (word / 2 ^ x.p % 2 ^ x.l) := by omega
        _ = 2 ^ p * (word / 2 ^ x.p % 2 ^ x.l + 1) := by rw [Nat.mul_add, Nat.mul_one, Nat.add_comm]
        _ ≤ 2 ^ p * 2 ^ x.l := Nat.mul_le_mul_left _ hm
    simp only [placedN, List.foldl_cons]
    rw [e, gstep_fold word L (p + x.l) _ hlt]
    simp only [getN]
    rw [Nat.pow_add, Nat.mul_add, ← Nat.mul_assoc, Nat.add_assoc]
theorem gstep_lt (word f : Nat) (x : Nat × MPiece) (hf : f < 18446744073709551616) (h : x.1 + x.2.l ≤ 64) : gstep word f x < 18446744073709551616 ∧ word / 2 ^ x.2.p % 2 ^ x.2.l * 2 ^ x.1 < 18446744073709551616 := by
  have hm := Nat.mod_lt (word / 2 ^ x.2.p) (Nat.two_pow_pos x.2.l)
  have h1 : word / 2 ^ x.2.p % 2 ^ x.2.l * 2 ^ x.1 < 2 ^ x.2.l * 2 ^ x.1 := Nat.mul_lt_mul_of_pos_right hm (Nat.two_pow_pos _)
  rw [← Nat.pow_add] at h1
  have h2 := pow_le (x.2.l + x.1) (by omega)
  have h3 : word / 2 ^ x.2.p % 2 ^ x.2.l * 2 ^ x.1 < 18446744073709551616 := by omega
  exact ⟨Nat.or_lt_two_pow (n := 64) hf h3, h3⟩
/-- What the loop keeps. -/
structure GInv (n₀ Bw word : Nat) (w : World) (pre : List PEl) (W : World) : Prop where
  below : Below n₀ w W
  size : Bw + 2 ≤ W.heap.size
  b0 : Boxed W n₀ 28 (.int .u64 word)
  bw : Boxed W Bw 28 (.int .u64 ((pre.map (·.1)).foldl (gstep word) 0 : Nat))
  lt : (pre.map (·.1)).foldl (gstep word) 0 < 18446744073709551616
theorem GInv.own_from {n₀ Bw word B : Nat} {w : World} (hB : Bw + 2 ≤ B) (hw : n₀ ≤ w.heap.size) (hb : n₀ < Bw) : OwnFrom B (fun (pre : List PEl) W => GInv n₀ Bw word w pre W) := fun s A B' row hs hg hr => by
  have hne : ∀ k : Nat, k < Bw + 2 → some k ≠ row := fun k hk e => by have := (hr k e.symm).1; omega
  exact ⟨hs.below.grown hg (Nat.le_trans hw hs.below.size) (fun k e => by have := (hr k e).1; omega), Nat.le_trans hs.size hg.size, hs.b0.kept hg (hne _ (by omega)), hs.bw.kept hg (hne _ (by omega)), hs.lt⟩
theorem shr_val (w p : Nat) (hw : w < 18446744073709551616) : IntKind.u64.wrap ((w : Int) / 2 ^ p) = ((w / 2 ^ p : Nat) : Int) := by
  have : w / 2 ^ p ≤ w := Nat.div_le_self _ _
  have e : ((w : Int) / 2 ^ p) = ((w / 2 ^ p : Nat) : Int) := by simp
  rw [e, IntKind.wrap_u64]
  clear e
  generalize w / 2 ^ p = z at *
  omega
theorem gstep_val (word f p k q : Nat) (hw : word < 18446744073709551616) (hf : f < 18446744073709551616) (hk : k ≤ 64) (hq : q ≤ 64) (s2 : word / 2 ^ p % 2 ^ k * 2 ^ q < 18446744073709551616) :
    bits .or .u64 (f : Int) (IntKind.u64.wrap (bits .and .u64 ((word : Int) / 2 ^ p) ((mk k : Nat) : Int) * 2 ^ min q 64)) = ((f ||| (word / 2 ^ p % 2 ^ k * 2 ^ q) : Nat) : Int) := by
  have e : ((word : Int) / 2 ^ p) = ((word / 2 ^ p : Nat) : Int) := by simp
  rw [e, and_mask _ k (Nat.lt_of_le_of_lt (Nat.div_le_self _ _) hw) hk, Nat.min_eq_left hq, shl_wrap _ q _ rfl s2]
  exact bits_or_u64_nat f _ hf s2
theorem PEl.nats (x : PEl) : x.1.2.pos = (x.1.2.p : Nat) ∧ x.1.2.len = (x.1.2.l : Nat) ∧ 1 ≤ x.1.2.l ∧ x.1.2.l ≤ 64 ∧ x.1.2.p + x.1.2.l ≤ 64 := by
  obtain ⟨h1, h2, h3⟩ := x.2.1
  unfold MPiece.p MPiece.l
  omega

set_option maxRecDepth 100000 in
set_option maxHeartbeats 4000000 in
theorem get_gen (size : Int) (word : Nat) (A : Option Addr) (c : Nat) (L : List MPiece) (w : World) (hA : PcsAt w A L) (hok : PcsOk L) (hc : L.length ≤ c) (hcm : c ≤ maxLen) (hcw : cwR size word L = 0) (hG : GoodL L) (hword : word < 18446744073709551616) :
    CallsIn Fence.wide 3 Tryz.prog 57 #[.int .i64 size, .int .u64 word, .slice A L.length c] w fun e w' => e = .returned (.tuple #[.int .u64 (getN word L : Nat), .int .i64 0]) ∧ Below w.heap.size w w' := by
  have HCW := Lib.hid (fun W (h : PcsAt W A L) => checkWord_any size word A c L W h hok hc hcm)
  rw [hcw] at HCW
  have HA := Lib.hid hA
  have HA2 := Lib.hid (fun o => hA.later ((Below.refl w.heap.size w).alloc (Nat.le_refl _) o))
  have HP := Lib.hid (fun n W => placed_in Fence.wide n trivial rfl A L.length c W)
  have HG := Lib.hid hG
  have HC := Lib.hid (And.intro hc hcm)
  refine callsIn_of_wp_marks Tryz.func57 rfl trivial ?_ rfl
  simp only [Tryz.ntmps57, List.size_toArray, List.length_cons, List.length_nil, Nat.reduceAdd, Nat.reduceSub, Array.replicate_succ, Array.replicate_zero, List.push_toArray, List.append_toArray, List.nil_append, List.cons_append]
  clear hA hok hc hcm hcw hG
  gi_wp2_with (first
    | (refine ⟨trivial, ?_⟩; gi_at_call 84; refine (callsIn_wide.2 (HCW.out _ (HA2.out _))).mono ?_; rintro e w2 ⟨rfl, hb2⟩)
    | (refine ⟨trivial, ?_⟩; gi_at_call 85; refine (HP.out _ _).mono ?_; rintro e w' ⟨rfl, rfl⟩))
  obtain ⟨B2, hB2⟩ : ∃ B2, w2.heap.size = B2 := ⟨_, rfl⟩
  obtain ⟨W0, hW0⟩ : ∃ W0, W0 = (w2.alloc (.cells #[.int .u64 0] 28)).alloc (.cells #[.slice A L.length c] 73) := ⟨_, rfl⟩
  have hsz : W0.heap.size = B2 + 2 := by rw [hW0]; simp [hB2]
  have hw2 : w.heap.size + 1 ≤ B2 := by have := hb2.size; simp at this; omega
  have hbel : Below w.heap.size w W0 := by
    rw [hW0]
    exact ((((Below.refl _ w).alloc (Nat.le_refl _) _).trans (hb2.mono (by simp))).alloc (by omega) _).alloc (by simp; omega) _
  have hbw0 : Boxed W0 w.heap.size 28 (.int .u64 (word : Nat)) := by
    rw [hW0]
    have h1 : Boxed (w.alloc (.cells #[.int .u64 (word : Nat)] 28)) w.heap.size 28 (.int .u64 (word : Nat)) := Boxed.new w _ _
    have h2 : Boxed w2 w.heap.size 28 (.int .u64 (word : Nat)) := (hb2.block _ (by simp)).trans h1
    exact (h2.alloc _).alloc _
  have hbw : Boxed W0 B2 28 (.int .u64 0) := by rw [hW0, ← hB2]; exact (Boxed.new w2 _ _).alloc _
  have hlb : W0.heap[B2 + 1]? = some (.cells #[.slice A L.length c] 73 (0, 0)) := by
    rw [hW0, ← hB2]
    have := World.alloc_heap_new (w2.alloc (.cells #[.int .u64 0] 28)) (.cells #[.slice A L.length c] 73)
    rwa [World.size_alloc] at this
  rw [hB2, ← hW0]
  clear hW0 hB2
  have hinv : GInv w.heap.size B2 word w [] W0 := ⟨hbel, by omega, hbw0, hbw, by simp⟩
  refine wpIn_rangeFunc_ownH (F := Fence.wide) rfl (by omega) (gf := 118) (lb := #[.pointer (some ⟨B2 + 1, 0, none⟩)]) rfl trivial (enters_of Tryz.func118 (by kernel_rfl) rfl)
    (placed_stops Fence.wide rfl (3 - 1) trivial rfl w (B2 + 1) B2 w.heap.size A c L HA.out.in HG.out HC.out.1 HC.out.2 W0 hbel (by omega) hlb (by omega) (by omega))
    (fun h k => h.trans k) (PKp.putObj (by omega)) (Below.refl _ _) (fun _ => rfl)
    (fun pre W => GInv w.heap.size B2 word w pre W) (fun _ _ _ => False) (GInv.own_from (by omega) (Nat.le_refl _) (by omega)) (fun _ _ _ _ _ hs _ _ => hs) hinv
    (fun x a' W => ∃ Bx, B2 + 2 ≤ Bx ∧ W.heap[Bx]? = some (.cells #[.int .i64 x.1.2.pos, .int .i64 x.1.2.len] 129 (0, 0)) ∧ a' = { tmps := #[.int .i64 size, .int .u64 (word : Nat), .slice A L.length c, undef, .pointer (some ⟨w.heap.size, 0, none⟩), undef, .int .u64 0, .int .i64 0, .int .i64 0, .pointer (some ⟨B2, 0, none⟩), .int .i64 (x.1.1 : Nat), .pointer (some ⟨Bx, 0, none⟩), .int .i64 size, .int .u64 (word : Nat), .slice A L.length c, .int .i64 0, .int .i64 0, .bool false, undef, .slice A L.length c, .func (.func 118) #[] #[.pointer (some ⟨B2 + 1, 0, none⟩)], .int .i64 (x.1.1 : Nat), .agg #[.int .i64 x.1.2.pos, .int .i64 x.1.2.len], undef, undef, undef, undef, undef, undef, undef, undef, undef, undef, undef, undef, undef], defers := [] })
    (fun x a' _ X Y row hs hg hr => by obtain ⟨Bx, h1, h2, h3⟩ := hs; exact ⟨Bx, h1, (grownBy_keeps_cells hg (fun r e => (hr r e).2) h2 rfl).trans h2, h3⟩)
    ?assign ?body ?done ?stop
  case assign =>
    rintro l pre x W K hi hK
    simp only [PEl.encs] at hK ⊢
    have hbW := hi.below.size
    gi_wp2
    exact hK _ _ ((KeepsOthers.alloc _ _).from _) (PKp.alloc W hbW _) (GInv.own_from (B := B2 + 2) (Nat.le_refl _) (Nat.le_refl _) (by omega) pre W _ none hi (World.grownBy_alloc W _ none) (fun r e => by cases e)) ⟨W.heap.size, hi.size, World.alloc_heap_new W _, rfl⟩
  case body =>
    rintro l pre x a' W hl _ hi ⟨Bx, hBx, hcx, rfl⟩ hlt
    obtain ⟨e1, e2, l1, l2, l3⟩ := x.nats
    have HX := Lib.hid (show ∃ y : PEl, y = x from ⟨x, rfl⟩)
    obtain ⟨f, hf⟩ : ∃ f, (pre.map (·.1)).foldl (gstep word) 0 = f := ⟨_, rfl⟩
    have hflt := hi.lt
    have hb0 := hi.b0
    have hbwi := hi.bw
    rw [hf] at hflt hbwi
    obtain ⟨s1, s2⟩ := gstep_lt word f x.1 hflt x.2.2
    have hst : ((pre ++ [x]).map (·.1)).foldl (gstep word) 0 = gstep word f x.1 := by rw [List.map_append, List.foldl_append, hf]; rfl
    have HST := Lib.hid hst
    have c1 := hb0.cell
    have c2 := hbwi.cell
    have f2 := hbwi.frozen
    obtain ⟨d0, d1⟩ := pcell hcx
    rw [e1] at d0
    rw [e2] at d1
    rw [e1, e2]
    obtain ⟨p, hp⟩ : ∃ p, x.1.2.p = p := ⟨_, rfl⟩
    obtain ⟨k, hk⟩ : ∃ k, x.1.2.l = k := ⟨_, rfl⟩
    obtain ⟨q, hq⟩ : ∃ q, x.1.1 = q := ⟨_, rfl⟩
    have hgs : gstep word f x.1 = f ||| (word / 2 ^ p % 2 ^ k * 2 ^ q) := by unfold gstep; rw [hp, hk, hq]
    rw [hp, hk, hq] at s2
    rw [hp] at d0 l3
    rw [hk] at d1 l1 l2 l3
    rw [hp, hk, hq]
    have HM := Lib.hid (fun W => mask_yes k W l1 l2)
    have HV := Lib.hid (gstep_val word f p k q hword hflt l2 (by have := x.2.2; omega) s2)
    have HI := Lib.hid (And.intro hi (And.intro hgs (And.intro hf s1)))
    clear hst hgs hf hi hcx hlt e1 e2 hp hk hq HX
    gi_wp2
    refine round_still_tail l _ 12 (by kernel_rfl) (by kernel_rfl) (by kernel_rfl) ?_
    change wpStill _ _ (World.drew _) (fun a' => wpList _ _ _ _ a' (World.drew _)) _ _
    simp only [List.take_succ_cons, List.take_zero, List.drop_succ_cons, List.drop_zero]
    repeat (first
      | still_step
      | (refine wpStill_step (fun K hK => ?_); go_simp; (with_reducible refine ⟨_, still_eq (HM.out _), hK _ ?_⟩); clear hK K))
    refine wpStill_nil ?_
    go_wp2
    refine ⟨rfl, ?_⟩
    rw [HV.out, ← HI.out.2.1]
    obtain ⟨hi, _, hf, s1⟩ := HI.out
    refine ⟨((KeepsOthers.setCell _ _ _).trans (KeepsOthers.drew _)).from _, (PKp.setCell _ (by omega) 0 _).trans (PKp.drew _), ?_⟩
    refine ⟨hi.below.trans ((PKp.setCell (n₀ := w.heap.size) W (by omega) 0 _).trans (PKp.drew _)).1, by have := hi.size; simp; omega, hi.b0.other (by omega) _, ?_, ?_⟩
    · rw [HST.out]; exact hi.bw.set _
    · rw [HST.out]; exact s1
  case done =>
    rintro D xs W hD hxs hi hK
    have hres : (xs.map (·.1)).foldl (gstep word) 0 = getN word L := by
      rw [hxs, gstep_fold word L 0 0 (by simp)]; simp
    have hbw := hi.bw
    rw [hres] at hbw
    have c2 := hbw.cell
    have hbl := hi.below
    have HR := Lib.hid (hbl.trans (belowK_b (w := w) (Nat.le_refl _) W D _ (.deferred none) (by omega) hK rfl rfl))
    clear hres hi hbw hbl
    gi_wp2
    refine ⟨by simp, .inl ⟨_, _, rfl, run_takeDeferred hK, ?_⟩⟩
    exact ⟨_, by simp [results, Tryz.f57, go_sem], rfl, HR.out⟩
  case stop =>
    rintro D c pre W hD hpre hx
    exact hx.elim
/-- What Get gives. -/
def getR (size : Int) (word : Nat) (L : List MPiece) : Nat × Int := if cwR size word L = 0 then (getN word L, 0) else (0, cwR size word L)
theorem cwR_ok {size : Int} {word : Nat} {L : List MPiece} (h : cwR size word L = 0) : (maskR size L).2 = 0 ∧ word < 2 ^ size.toNat := by
  unfold cwR at h
  split at h
  · rename_i h1
    split at h
    · rename_i h2; exact ⟨h1, (okB_iff _ _).1 h2⟩
    · cases h
  · rename_i h1; exact absurd h h1
set_option maxRecDepth 100000 in
set_option maxHeartbeats 4000000 in
theorem get_any (size : Int) (word : Nat) (A : Option Addr) (c : Nat) (L : List MPiece) (w : World) (hA : PcsAt w A L) (hok : PcsOk L) (hc : L.length ≤ c) (hcm : c ≤ maxLen) (hword : word < 18446744073709551616) :
    Calls Tryz.prog 57 #[.int .i64 size, .int .u64 word, .slice A L.length c] w fun e w' => e = .returned (.tuple #[.int .u64 ((getR size word L).1 : Nat), .int .i64 (getR size word L).2]) ∧ Below w.heap.size w w' := by
  by_cases h : cwR size word L = 0
  · have hm := maskR_ok (cwR_ok h).1
    have := callsIn_wide.1 (get_gen size word A c L w hA hok hc hcm h (goodL_of hm.1 hm.2.2.1) hword)
    rwa [show getR size word L = (getN word L, 0) by unfold getR; rw [if_pos h]]
  · have HCW := Lib.hid (fun W (h : PcsAt W A L) => checkWord_any size word A c L W h hok hc hcm)
    have HA2 := Lib.hid (fun o => hA.later ((Below.refl w.heap.size w).alloc (Nat.le_refl _) o))
    rw [show getR size word L = (0, cwR size word L) by unfold getR; rw [if_neg h]]
    have h1 : (cwR size word L != 0) = true := by simpa using h
    generalize cwR size word L = z at *
    clear h hA hok hc hcm hword
    refine (callsIn_wide (n := 3)).1 ?_
    refine callsIn_of_wp_marks Tryz.func57 rfl trivial ?_ rfl
    simp only [Tryz.ntmps57, List.size_toArray, List.length_cons, List.length_nil, Nat.reduceAdd, Nat.reduceSub, Array.replicate_succ, Array.replicate_zero, List.push_toArray, List.append_toArray, List.nil_append, List.cons_append]
    gi_wp2_with (refine ⟨trivial, ?_⟩; gi_at_call 84; refine (callsIn_wide.2 (HCW.out _ (HA2.out _))).mono ?_; rintro e w2 ⟨rfl, hb2⟩)
    exact ⟨_, by simp [results, Tryz.f57, go_sem], rfl, ((Below.refl _ w).alloc (Nat.le_refl _) _).trans (hb2.mono (by simp))⟩
end Go.Proofs.YtnjlgllpfbkdoaaGreatDoor
namespace Go.Proofs.YtnjlgllpfbkdoaaGreatDoor
open Go.RowKit
set_option linter.unusedVariables false
set_option linter.unusedSimpArgs false
set_option maxRecDepth 100000

/-- A mask of k equal bytes. -/
def mm (c : Nat) : Nat → Nat | 0 => 0 | k + 1 => 256 * mm c k + c
theorem and_byte (q r M c : Nat) (hr : r < 256) (hc : c < 256) : (256 * q + r) &&& (256 * M + c) = 256 * (q &&& M) + (r &&& c) := by
  have h1 : ((256 * q + r) &&& (256 * M + c)) / 2 ^ 8 = q &&& M := by
    rw [Nat.and_div_two_pow]
    rw [show (256 * q + r) / 2 ^ 8 = q by omega, show (256 * M + c) / 2 ^ 8 = M by omega]
  have h2 : ((256 * q + r) &&& (256 * M + c)) % 2 ^ 8 = r &&& c := by
    rw [Nat.and_mod_two_pow]
    rw [show (256 * q + r) % 2 ^ 8 = r by omega, show (256 * M + c) % 2 ^ 8 = c by omega]
  omega
def s1 (k x : Nat) : Nat := (x / 2 &&& mm 85 k) + (x &&& mm 85 k)
def s2 (k x : Nat) : Nat := (x / 4 &&& mm 51 k) + (x &&& mm 51 k)
def s3 (k x : Nat) : Nat := (x / 16 + x) &&& mm 15 k
def s1b (r : Nat) : Nat := (r / 2 &&& 85) + (r &&& 85)
def s2b (r : Nat) : Nat := (r / 4 &&& 51) + (r &&& 51)
def s3b (r : Nat) : Nat := (r / 16 + r) &&& 15
theorem s1_cut : ∀ q, q < 2 → ∀ r, r < 256 → (128 * q + r / 2) &&& 85 = r / 2 &&& 85 := by decide
theorem s2_cut : ∀ q, q < 4 → ∀ r, r < 256 → (64 * q + r / 4) &&& 51 = r / 4 &&& 51 := by decide
theorem s1_byte (k q r : Nat) (hr : r < 256) : s1 (k + 1) (256 * q + r) = 256 * s1 k q + s1b r := by
  unfold s1 s1b
  rw [mm, and_byte q r _ 85 hr (by omega), show (256 * q + r) / 2 = 256 * (q / 2) + (128 * (q % 2) + r / 2) by omega, and_byte _ _ _ 85 (by omega) (by omega), s1_cut _ (by omega) r hr]
  omega
theorem s2_byte (k q r : Nat) (hr : r < 256) : s2 (k + 1) (256 * q + r) = 256 * s2 k q + s2b r := by
  unfold s2 s2b
  rw [mm, and_byte q r _ 51 hr (by omega), show (256 * q + r) / 4 = 256 * (q / 4) + (64 * (q % 4) + r / 4) by omega, and_byte _ _ _ 51 (by omega) (by omega), s2_cut _ (by omega) r hr]
  omega
theorem s1b_lt : ∀ r, r < 256 → s1b r < 256 := by decide
theorem s12b : ∀ r, r < 256 → s2b (s1b r) / 16 ≤ 4 ∧ s2b (s1b r) % 16 ≤ 4 := by decide
/-- The bytes' numbers of ones, as bytes. -/
def pops : Nat → Nat → Nat | 0, _ => 0 | k + 1, x => 256 * pops k (x / 256) + s3b (s2b (s1b (x % 256)))
/-- Two steps, byte by byte. -/
def twos : Nat → Nat → Nat | 0, _ => 0 | k + 1, x => 256 * twos k (x / 256) + s2b (s1b (x % 256))
theorem s_two : ∀ k x, s2 k (s1 k x) = twos k x
  | 0, x => by simp [s1, s2, mm, twos]
  | k + 1, x => by
    rw [show x = 256 * (x / 256) + x % 256 by omega, s1_byte _ _ _ (by omega), s2_byte _ _ _ (s1b_lt _ (by omega)), s_two k, twos]
    rw [show (256 * (x / 256) + x % 256) / 256 = x / 256 by omega, show (256 * (x / 256) + x % 256) % 256 = x % 256 by omega]
theorem twos_low : ∀ k x, twos k x % 16 ≤ 4
  | 0, x => by simp [twos]
  | k + 1, x => by
    have h := s12b (x % 256) (by omega)
    rw [twos]
    omega
theorem s3_cut : ∀ q, q ≤ 4 → ∀ h, h ≤ 4 → ∀ l, l ≤ 4 → (16 * q + ((16 * h + l) / 16 + (16 * h + l))) &&& 15 = ((16 * h + l) / 16 + (16 * h + l)) &&& 15 := by decide
theorem s_three : ∀ k x, s3 k (s2 k (s1 k x)) = pops k x
  | 0, x => by simp [s3, mm, pops]
  | k + 1, x => by
    rw [s_two]
    have ih := s_three k (x / 256)
    rw [s_two] at ih
    have hb := s12b (x % 256) (by omega)
    have hl := twos_low k (x / 256)
    unfold s3 at ih ⊢
    rw [twos, pops, ← ih]
    generalize twos k (x / 256) = q at hl ⊢
    unfold s3b
    generalize s2b (s1b (x % 256)) = r at hb ⊢
    rw [mm, show (256 * q + r) / 16 + (256 * q + r) = 256 * (q / 16 + q) + (16 * (q % 16) + (r / 16 + r)) by omega, and_byte _ _ _ 15 (by omega) (by omega)]
    have hc := s3_cut (q % 16) hl (r / 16) hb.1 (r % 16) hb.2
    rw [show 16 * (r / 16) + r % 16 = r by omega] at hc
    rw [hc]
theorem popB : ∀ r, r < 256 → s3b (s2b (s1b r)) = cnt (fun i => r.testBit i) 8 := by decide
theorem cnt_le' (p : Nat → Bool) : ∀ n, cnt p n ≤ n
  | 0 => Nat.le_refl _
  | n + 1 => by have := cnt_le' p n; unfold cnt; split <;> omega
theorem cnt_shift (p : Nat → Bool) (n : Nat) : ∀ k, cnt p (n + k) = cnt p n + cnt (fun i => p (n + i)) k
  | 0 => rfl
  | k + 1 => by rw [← Nat.add_assoc]; simp only [cnt]; rw [cnt_shift p n k]; omega
theorem cnt_same {p q : Nat → Bool} : ∀ n, (∀ i, i < n → p i = q i) → cnt p n = cnt q n
  | 0, _ => rfl
  | n + 1, h => by simp only [cnt]; rw [cnt_same n (fun i hi => h i (by omega)), h n (by omega)]
/-- The ones of the lowest k bytes. -/
def ones : Nat → Nat → Nat | 0, _ => 0 | k + 1, x => ones k (x / 256) + s3b (s2b (s1b (x % 256)))
theorem ones_cnt : ∀ k x, ones k x = cnt (fun i => x.testBit i) (8 * k)
  | 0, x => rfl
  | k + 1, x => by
    rw [ones, ones_cnt k, popB _ (by omega), show 8 * (k + 1) = 8 + 8 * k by omega, cnt_shift, Nat.add_comm]
    congr 1
    · exact cnt_same 8 fun i hi => by
        rw [show (256 : Nat) = 2 ^ 8 from rfl, Nat.testBit_mod_two_pow]; simp [hi]
    · exact cnt_same (8 * k) fun i hi => by
        rw [show (256 : Nat) = 2 ^ 8 from rfl, Nat.testBit_div_two_pow, Nat.add_comm]
theorem pop_byte : ∀ r, r < 256 → s3b (s2b (s1b r)) ≤ 8 := by decide
/-- The last steps: the sum of eight bytes. -/
theorem ones_sum (x : Nat) (y : Nat) (hy : pops 8 x = y) : ∀ a, (y + y / 256) % 18446744073709551616 = a → ∀ b, (a + a / 65536) % 18446744073709551616 = b → ∀ c, (b + b / 4294967296) % 18446744073709551616 = c → c % 128 = ones 8 x ∧ ones 8 x ≤ 64 := by
  intro a ha b hb c hc
  simp only [pops, ones] at hy ⊢
  have h0 := pop_byte (x % 256) (by omega)
  have h1 := pop_byte (x / 256 % 256) (by omega)
  have h2 := pop_byte (x / 256 / 256 % 256) (by omega)
  have h3 := pop_byte (x / 256 / 256 / 256 % 256) (by omega)
  have h4 := pop_byte (x / 256 / 256 / 256 / 256 % 256) (by omega)
  have h5 := pop_byte (x / 256 / 256 / 256 / 256 / 256 % 256) (by omega)
  have h6 := pop_byte (x / 256 / 256 / 256 / 256 / 256 / 256 % 256) (by omega)
  have h7 := pop_byte (x / 256 / 256 / 256 / 256 / 256 / 256 / 256 % 256) (by omega)
  generalize s3b (s2b (s1b (x % 256))) = p0 at *
  generalize s3b (s2b (s1b (x / 256 % 256))) = p1 at *
  generalize s3b (s2b (s1b (x / 256 / 256 % 256))) = p2 at *
  generalize s3b (s2b (s1b (x / 256 / 256 / 256 % 256))) = p3 at *
  generalize s3b (s2b (s1b (x / 256 / 256 / 256 / 256 % 256))) = p4 at *
  generalize s3b (s2b (s1b (x / 256 / 256 / 256 / 256 / 256 % 256))) = p5 at *
  generalize s3b (s2b (s1b (x / 256 / 256 / 256 / 256 / 256 / 256 % 256))) = p6 at *
  generalize s3b (s2b (s1b (x / 256 / 256 / 256 / 256 / 256 / 256 / 256 % 256))) = p7 at *
  subst hy
  obtain ⟨q1, e1⟩ : ∃ q, q = 256 * (256 * (256 * (256 * (256 * (256 * p7 + p6) + p5) + p4) + p3) + p2) + p1 := ⟨_, rfl⟩
  have a2 : a = 256 * (256 * (256 * (256 * (256 * (256 * (256 * p7 + (p6 + p7)) + (p5 + p6)) + (p4 + p5)) + (p3 + p4)) + (p2 + p3)) + (p1 + p2)) + (p0 + p1) := by
    rw [← ha, show 256 * (256 * (256 * (256 * (256 * (256 * (256 * (256 * 0 + p7) + p6) + p5) + p4) + p3) + p2) + p1) + p0 = 256 * q1 + p0 by omega, show (256 * q1 + p0) / 256 = q1 by omega, Nat.mod_eq_of_lt (by omega)]
    omega
  clear ha e1
  obtain ⟨q2, e2⟩ : ∃ q, q = 256 * (256 * (256 * (256 * (256 * p7 + (p6 + p7)) + (p5 + p6)) + (p4 + p5)) + (p3 + p4)) + (p2 + p3) := ⟨_, rfl⟩
  obtain ⟨r2, f2⟩ : ∃ r, r = 256 * (p1 + p2) + (p0 + p1) := ⟨_, rfl⟩
  have b2 : b = 256 * (256 * (256 * (256 * (256 * (256 * (256 * p7 + (p6 + p7)) + (p5 + p6 + p7)) + (p4 + p5 + p6 + p7)) + (p3 + p4 + p5 + p6)) + (p2 + p3 + p4 + p5)) + (p1 + p2 + p3 + p4)) + (p0 + p1 + p2 + p3) := by
    rw [← hb, show a = 65536 * q2 + r2 by omega, show (65536 * q2 + r2) / 65536 = q2 by omega, Nat.mod_eq_of_lt (by omega)]
    omega
  clear hb a2 e2 f2
  obtain ⟨q3, e3⟩ : ∃ q, q = 256 * (256 * (256 * p7 + (p6 + p7)) + (p5 + p6 + p7)) + (p4 + p5 + p6 + p7) := ⟨_, rfl⟩
  obtain ⟨r3, f3⟩ : ∃ r, r = 256 * (256 * (256 * (p3 + p4 + p5 + p6) + (p2 + p3 + p4 + p5)) + (p1 + p2 + p3 + p4)) + (p0 + p1 + p2 + p3) := ⟨_, rfl⟩
  have c2 : c = 256 * (256 * (256 * (256 * (256 * (256 * (256 * p7 + (p6 + p7)) + (p5 + p6 + p7)) + (p4 + p5 + p6 + p7)) + (p3 + p4 + p5 + p6 + p7)) + (p2 + p3 + p4 + p5 + p6 + p7)) + (p1 + p2 + p3 + p4 + p5 + p6 + p7)) + (p0 + p1 + p2 + p3 + p4 + p5 + p6 + p7) := by
    rw [← hc, show b = 4294967296 * q3 + r3 by omega, show (4294967296 * q3 + r3) / 4294967296 = q3 by omega, Nat.mod_eq_of_lt (by omega)]
    omega
  clear hc b2 e3 f3
  obtain ⟨z, hz⟩ : ∃ z, c = 256 * z + (p0 + p1 + p2 + p3 + p4 + p5 + p6 + p7) := ⟨_, c2⟩
  clear c2
  omega
end Go.Proofs.YtnjlgllpfbkdoaaGreatDoor
