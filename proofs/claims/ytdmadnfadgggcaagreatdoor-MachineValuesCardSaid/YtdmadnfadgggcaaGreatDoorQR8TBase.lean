import Derived.Test.YtdmadnfadgggcaaGreatDoorQR8Name
import Derived.Test.YtdmadnfadgggcaaGreatDoorQR8Bits
import Derived.Test.YtdmadnfadgggcaaGreatDoorGa
set_option linter.unusedVariables false
set_option linter.unusedSimpArgs false
set_option warningAsError false
open Go.Lib (hid)
open Go.Proofs.Tryz (prog)
namespace Go.Proofs.YtdmadnfadgggcaaGreatDoor
open Go.RowKit Go.Sort
theorem zai (s : ByteArray) (h : s.size = 0) : z1t s = false := z2f (fun hp => by have := hp.1; omega)
theorem zge (s : ByteArray) (h : s.size = 2) : varR s = z1t s := by
 unfold varR z4g;by_cases hq : (s.extract 0 2).toList = [114, 46]
 ·rw [if_pos ⟨by omega, hq⟩, zai _ (by rw [ByteArray.size_extract]; omega)];refine (z2f (fun hp => ?_)).symm;have h1 : s.data.toList = [114, 46] := by
   have e : s.extract 0 2 = s := by rw [<- h]; simp
   rw [e, Lib.toList_data] at hq;exact hq
  rcases hp.2.2 1 46 (by rw [h1]; rfl) with h2 | ⟨_, h2 | h2⟩
  ·revert h2; decide
  ·revert h2; decide
  ·exact absurd h2 (by decide)
 ·rw [if_neg (fun h => hq h.2)]
set_option maxRecDepth 100000 in
theorem zck (s : ByteArray) (W : World) (hm : s.size <= 1000) : Calls prog 181 #[.string s] W fun e w' => e = .returned (.bool (varR s)) /\ Below W.heap.size W w' := by
 have H2 := hid (fun (t : ByteArray) (ht : t.size <= s.size) W => z33 t W);obtain ⟨L, hL⟩ : ∃ L, s.size = L := ⟨_, rfl⟩;by_cases h2 : 2 < L
 ·have hx : (s.extract 2 s.size).size <= s.size := by rw [ByteArray.size_extract]; omega
  have H3 := hid (H2.out _ hx);have H4 := hid (H2.out s (Nat.le_refl _));have HT : Hid (varR s = z1t (if (s.extract 0 2).toList = [114, 46] then s.extract 2 s.size else s)) := hid (by unfold varR z4g; by_cases hq : (s.extract 0 2).toList = [114, 46] <;> simp [hq, show 2 <= s.size by omega]);rw [hL] at H3;clear hx;go_enter Tryz.func181, Tryz.ntmps181
  go_wp2_with (go_at_call 76; first
   | ((with_reducible refine (H3.out _).mono ?_); rintro e w' ⟨rfl, hb⟩)
   | ((with_reducible refine (H4.out _).mono ?_); rintro e w' ⟨rfl, hb⟩))
  ·rename_i hq;go_ret
   refine ⟨?_, hb⟩;rw [HT.out, if_pos (by simpa using hq), hL];rfl
  ·rename_i hq;go_ret
   refine ⟨?_, hb⟩;rw [HT.out, if_neg (by simpa using hq)];rfl
 ·have HT : Hid (varR s = z1t s) := hid (by
   by_cases h : L = 2
   ·exact zge s (by omega)
   ·unfold varR z4g; rw [if_neg (fun hh => by omega)])
  have H4 := hid (H2.out s (Nat.le_refl _));clear hm;go_enter Tryz.func181, Tryz.ntmps181
  go_wp2_with (go_at_call 76; (with_reducible refine (H4.out _).mono ?_); rintro e w' ⟨rfl, hb⟩)
  go_ret
  exact ⟨by rw [HT.out]; rfl, hb⟩
theorem zcj (n : Int) (x : Nat) (w : World) (hx : x < 18446744073709551616) : Calls prog 180 #[.int .i64 n, .int .u64 x] w fun e w' => e = .returned (.bool (okW n x)) /\ w = w' := by
 unfold okW;by_cases h : 1 <= n /\ n <= 64
 ·rw [if_pos h];obtain ⟨m, rfl⟩ : ∃ m : Nat, n = m := ⟨n.toNat, by omega⟩;exact zer m x w (by omega) (by omega) hx
 ·rw [if_neg h];exact zg7 n x w (by omega)
theorem zap (n : Int) (w : World) : Calls prog 179 #[.int .i64 n] w fun e w' => e = .returned (.bool (decide (1 <= n /\ n <= 64))) /\ w = w' := by
 by_cases h : 1 <= n /\ n <= 64
 ·rw [decide_eq_true h]; exact z8i n w h.1 h.2
 ·rw [decide_eq_false h]; exact zez n w (by omega)
theorem z9n (w : Int) (W : World) : Calls prog 182 #[.int .i64 w] W fun e w' => e = .returned (.bool (z95 w)) /\ W = w' := by
 by_cases h1 : w = 8
 ·subst h1;go_enter Tryz.func182, Tryz.ntmps182
  go_wp2
  go_ret
  exact ⟨rfl, rfl⟩
 ·by_cases h2 : w = 16
  ·subst h2;go_enter Tryz.func182, Tryz.ntmps182
   go_wp2
   go_ret
   exact ⟨rfl, rfl⟩
  ·by_cases h3 : w = 32
   ·subst h3;go_enter Tryz.func182, Tryz.ntmps182
    go_wp2
    go_ret
    exact ⟨rfl, rfl⟩
   ·have e1 : (w == 8) = false := (by simpa using h1);have e2 : (w == 16) = false := (by simpa using h2);have e3 : (w == 32) = false := (by simpa using h3);have E : Hid (z95 w = (w == 64)) := (by unfold z95; rw [e1, e2, e3]; rfl);clear h1 h2 h3;go_enter Tryz.func182, Tryz.ntmps182
    go_wp2
    go_ret
    refine ⟨?_, rfl⟩;rw [E.out];rfl
end Go.Proofs.YtdmadnfadgggcaaGreatDoor
