/- Contract of layer 1's cut; what the parts of a joined value are. -/
import Derived.Test.YtffmijafhchjgaaDoorBitsParse
import Derived.Test.YtffmijafhchjgaaDoorBitsExtend
import Derived.OpenShut
namespace Go.Proofs.YtffmijafhchjgaaDoor
open Go.RowKit Go.Sort
set_option linter.unusedVariables false

theorem thenB {a b c : World} (h : Below a.heap.size a b) (k : Below b.heap.size b c) : Below a.heap.size a c := h.trans (k.mono h.size)
theorem cut_mask (n : Nat) (x : Nat) (h0 : 1 ≤ n) (h1 : n ≤ 64) (hx : x < 18446744073709551616) :
    bits .and .u64 (x : Int) ((18446744073709551615 : Int) / 2 ^ (64 - n)) = ((x % 2 ^ n : Nat) : Int) := by
  have e : ((18446744073709551615 : Int) / 2 ^ (64 - n)) = ((mk n : Nat) : Int) := by
    have hs := pow_split n h1
    have hm := mk_succ n
    have hp := pow_pos' (64 - n)
    have h2 : 18446744073709551615 / 2 ^ (64 - n) = mk n := by
      refine Nat.div_eq_of_lt_le ?_ ?_
      · have : mk n * 2 ^ (64 - n) + 2 ^ (64 - n) = 18446744073709551616 := by rw [← hs, ← hm, Nat.add_mul, Nat.one_mul]
        omega
      · have : (mk n + 1) * 2 ^ (64 - n) = 18446744073709551616 := by rw [hm, hs]
        omega
    rw [← h2, Int.natCast_ediv, Int.natCast_pow]
    rfl
  rw [e]
  exact and_mask x n hx h1

theorem cut_any (wd x n : Nat) (w : World) (hn : n = wd % 64 + 1) (hx : x < 18446744073709551616) :
    Calls Tryd.prog 11 #[.int .u8 wd, .int .u64 x] w fun e w' => e = .returned (.tuple #[.int .i64 n, .int .u64 (x % 2 ^ n : Nat)]) ∧ w = w' := by
  go_enter Tryd.func11, Tryd.ntmps11
  go_wp2
  go_ret2
  refine ⟨?_, rfl⟩
  subst hn
  have h := cut_mask (wd % 64 + 1) x (by omega) (by omega) hx
  rw [show 64 - (wd % 64 + 1) = 63 - wd % 64 by omega] at h
  show Ending.returned (.tuple #[.int .i64 _, .int .u64 _]) = _
  rw [h]
  rfl


theorem chk1_ok (n a : Nat) (h : a < 2 ^ n) : chk1 n a = 0 := by unfold chk1; rw [if_pos ((okB_iff _ _).2 h)]
theorem joined_lt (h l a b : Nat) (ha : a < 2 ^ h) (hb : b < 2 ^ l) : a * 2 ^ l + b < 2 ^ (h + l) := by
  have : (a + 1) * 2 ^ l ≤ 2 ^ h * 2 ^ l := Nat.mul_le_mul_right _ ha
  rw [Nat.pow_add]
  rw [Nat.add_mul] at this
  omega
theorem catR_ok (h l a b : Nat) (h0 : 1 ≤ h) (l0 : 1 ≤ l) (hl : h + l ≤ 64) (ha : a < 2 ^ h) (hb : b < 2 ^ l) : catR h a l b = (a * 2 ^ l + b, 0) := by
  unfold catR
  rw [if_neg (by omega), if_neg (by omega), Int.toNat_natCast, if_neg (by rw [chk1_ok h a ha]; decide), Int.toNat_natCast, if_neg (by rw [(okB_iff l b).2 hb]; decide)]
theorem exR_ok (n x low many : Nat) (h0 : 1 ≤ n) (h1 : n ≤ 64) (hx : x < 2 ^ n) (hm : 1 ≤ many) (hlm : low + many ≤ n) : exR n x low many = (x / 2 ^ low % 2 ^ many, 0) := by
  unfold exR
  rw [if_neg (by omega), Int.toNat_natCast, if_neg (by rw [chk1_ok n x hx]; decide), if_neg (by omega), Int.toNat_natCast, Int.toNat_natCast]
theorem extR_ok (n x to : Nat) (sign : Bool) (h0 : 1 ≤ n) (hx : x < 2 ^ n) (ht : n ≤ to) (h1 : to ≤ 64) : extR n x to sign = if sign = true then ((sg n x % 2 ^ to).toNat, 0) else (x, 0) := by
  unfold extR
  rw [if_neg (by omega), if_neg (by omega), Int.toNat_natCast, if_neg (by rw [chk1_ok n x hx]; decide), Int.toNat_natCast]
theorem sgR_ok' (n x : Nat) (h0 : 1 ≤ n) (h1 : n ≤ 64) (hx : x < 2 ^ n) : sgR n x = (sg n x, 0) := by
  unfold sgR
  rw [if_neg (by omega), Int.toNat_natCast, if_neg (by rw [chk1_ok n x hx]; decide)]
theorem joined_top (h l a b : Nat) (ha : a < 2 ^ h) (hb : b < 2 ^ l) : (a * 2 ^ l + b) / 2 ^ l % 2 ^ h = a := by
  rw [Nat.mul_comm, Nat.mul_add_div (pow_pos' l), Nat.div_eq_of_lt hb, Nat.add_zero, Nat.mod_eq_of_lt ha]
theorem joined_end (l a b : Nat) (hb : b < 2 ^ l) : (a * 2 ^ l + b) / 2 ^ 0 % 2 ^ l = b := by
  rw [Nat.pow_zero, Nat.div_one, Nat.add_comm, Nat.add_mul_mod_self_right, Nat.mod_eq_of_lt hb]
theorem sg_back (n to x : Nat) (h0 : 1 ≤ n) (ht : n ≤ to) (hx : x < 2 ^ n) : (sg n x % 2 ^ to).toNat < 2 ^ to ∧ sg to (sg n x % 2 ^ to).toNat = sg n x := by
  have hs := sg_lo n x h0 hx
  have hp := Nat.pow_le_pow_right (show 0 < 2 by decide) (show n - 1 ≤ to - 1 by omega)
  have hh := pow_half to (by omega)
  have hpp := pow_pos' (to - 1)
  have e : ((2 : Int) ^ to) = ((2 ^ to : Nat) : Int) := by simp
  unfold sg at hs ⊢
  rw [e]
  have en : ((2 : Int) ^ n) = ((2 ^ n : Nat) : Int) := by simp
  rw [en] at hs ⊢
  have hnt := Nat.pow_le_pow_right (show 0 < 2 by decide) ht
  generalize 2 ^ to = T at *
  generalize 2 ^ n = N at *
  generalize 2 ^ (to - 1) = T1 at *
  generalize 2 ^ (n - 1) = N1 at *
  split at hs
  · rename_i h
    rw [if_pos h]
    have : ((x : Int) % (T : Int)).toNat = x := by rw [Int.emod_eq_of_lt (by omega) (by omega)]; simp
    rw [this]
    refine ⟨by omega, ?_⟩
    rw [if_pos (by omega)]
  · rename_i h
    rw [if_neg h]
    have : (((x : Int) - (N : Int)) % (T : Int)).toNat = x + T - N := by
      have e2 : ((x : Int) - (N : Int)) % (T : Int) = ((x : Int) - N + T) % T := by simp
      rw [e2, Int.emod_eq_of_lt (by omega) (by omega)]
      omega
    rw [this]
    refine ⟨by omega, ?_⟩
    rw [if_neg (by omega)]
    omega
end Go.Proofs.YtffmijafhchjgaaDoor
