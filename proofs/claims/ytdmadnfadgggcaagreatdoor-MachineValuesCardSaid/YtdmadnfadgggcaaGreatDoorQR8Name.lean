import Derived.Test.YtdmadnfadgggcaaGreatDoorGa
set_option linter.unusedVariables false
set_option linter.unusedSimpArgs false
set_option warningAsError false
set_option maxHeartbeats 1000000
open Go.Lib (hid)
open Go.Proofs.Tryz (prog)
namespace Go.Proofs.YtdmadnfadgggcaaGreatDoor
open Go.RowKit
theorem zfx {s : ByteArray} {k : Nat} {c : UInt8} (hd : s.data.toList[k]? = some c) (h1 : ¬ z1e c.toNat) (h2 : k = 0 ∨ (¬ z28 c.toNat /\ c.toNat ≠ 95)) : z1t s = false :=
 z2f fun h => by
  rcases h.2.2 k c hd with h | ⟨h0, h | h⟩
  ·exact h1 h
  ·rcases h2 with h2 | ⟨h2, _⟩
   ·exact h0 h2
   ·exact h2 h
  ·rcases h2 with h2 | ⟨_, h2⟩
   ·exact h0 h2
   ·exact h2 h
set_option maxRecDepth 100000 in
theorem z33 (s : ByteArray) (w : World) :
 Calls prog 76 #[.string s] w fun e w' => e = .returned (.bool (z1t s)) /\ Below w.heap.size w w' := by
 obtain ⟨L, hL⟩ : ∃ L, s.size = L := ⟨_, rfl⟩;by_cases h0 : L < 1 ∨ 24 < L
 ·rw [z2f (fun h => by have := h.1; have := h.2.1; omega)];rcases h0 with h0 | h0
  ·obtain rfl : L = 0 := by omega
   go_enter Tryz.func76, Tryz.ntmps76
   go_wp2
   go_ret
   exact ⟨rfl, Below.refl _ _⟩
  ·have h1 : ((L : Int) == 0) = false := by simp; omega
   go_enter Tryz.func76, Tryz.ntmps76
   go_wp2
   go_ret
   exact ⟨rfl, Below.refl _ _⟩
 have h1 : ((L : Int) == 0) = false := by simp; omega
 have h2 : L <= 24 := by omega
 have h3 : 1 <= L := by omega
 clear h0;go_enter Tryz.func76, Tryz.ntmps76
 go_wp2
 go_loopw [3] (fun vi wr => ∃ k : Nat, vi = .int .i64 k /\ k <= L /\ Hid (∀ i c, i < k -> s.data.toList[i]? = some c -> z1e c.toNat ∨ (i ≠ 0 /\ (z28 c.toNat ∨ c.toNat = 95))) /\ w = wr) (fun vi _ => L - (intOf vi).toNat)
 case atStart => exact ⟨0, rfl, by omega, hid (fun i c h => absurd h (by omega)), rfl⟩
 case round =>
  obtain ⟨k, rfl, hk, HK, rfl⟩ := hrel;by_cases hlt : k < L
  ·obtain ⟨c, hc⟩ : ∃ c : UInt8, s[k]'(by omega) = c := ⟨_, rfl⟩;have hd : s.data.toList[k]? = some c := by rw [Lib.data_getElem? s k (by omega), hc]
   have HD := hid hd;have HN : Hid (z1e c.toNat ∨ (k ≠ 0 /\ (z28 c.toNat ∨ c.toNat = 95)) -> ∀ i c, i < k + 1 -> s.data.toList[i]? = some c -> z1e c.toNat ∨ (i ≠ 0 /\ (z28 c.toNat ∨ c.toNat = 95))) := hid fun hg i c' hi he => by
    by_cases hik : i < k
    ·exact HK.out i c' hik he
    ·obtain rfl : i = k := by omega
     rw [HD.out] at he;cases he;exact hg
   clear hd;go_wp2
   all_goals (try simp only [Bool.not_eq_true', Bool.not_eq_false', decide_eq_true_eq, decide_eq_false_iff_not, Bool.or_eq_true, Bool.and_eq_true, Bool.or_eq_false_iff, Bool.and_eq_false_iff, beq_iff_eq, beq_eq_false_iff_ne, Bool.not_or, Bool.not_and, ne_eq, Bool.not_not] at *)
   all_goals first
    | (exfalso; omega)
    | (go_ret
       refine ⟨?_, Below.refl _ _⟩;rw [zfx HD.out (by unfold z1e; omega) (by unfold z28; omega)]
       rfl)
    | (go_roundw
       case rel => exact ⟨k + 1, by first | rfl | (rw [zd _ (by omega) (by omega)]; rfl), by omega, hid (HN.out (by unfold z1e z28; omega)), by first | rfl | trivial⟩
       case measure => (try rw [zd _ (by omega) (by omega)]); simp only [intOf]; omega)
  ·obtain rfl : k = L := by omega
   have hyes : z8l s := ⟨by omega, by omega, fun i c he => by have hi : i < s.size := (List.getElem?_eq_some_iff.1 he).1;exact HK.out i c (by omega) he⟩
   have HV := hid (z9a hyes);clear hyes;go_wp2
   go_ret
   exact ⟨by rw [HV.out]; rfl, Below.refl _ _⟩
end Go.Proofs.YtdmadnfadgggcaaGreatDoor
