/- Contracts of Extract, Concat and Extend of package bits, for all arguments. They only make memory. -/
import Derived.Test.YthogpmddijbigaaGreatDoorBitsCalls
import Derived.BigQuiet
namespace Go.Proofs.YthogpmddijbigaaGreatDoor
open Go.RowKit Go.Sort
set_option linter.unusedVariables false
set_option linter.unusedSimpArgs false

/-- What Extract gives. -/
def exR (n : Int) (x : Nat) (low many : Int) : Nat × Int :=
  if n < 1 ∨ 64 < n then (0, 14) else if chk1 n.toNat x = 8 then (0, 8) else if low < 0 ∨ many < 1 ∨ n - low < many then (0, 2) else (x / 2 ^ low.toNat % 2 ^ many.toNat, 0)

theorem shr_mask (x l m : Nat) (hx : x < 18446744073709551616) (hm : m ≤ 64) : bits .and .u64 ((x : Int) / 2 ^ l) ((mk m : Nat) : Int) = ((x / 2 ^ l % 2 ^ m : Nat) : Int) := by
  have h := Nat.div_le_self x (2 ^ l)
  have e : ((x : Int) / 2 ^ l) = ((x / 2 ^ l : Nat) : Int) := by rw [Int.natCast_ediv, Int.natCast_pow]; rfl
  rw [e]
  exact and_mask _ m (by omega) hm

theorem extract_ok (n x l m : Nat) (w : World) (h0 : 1 ≤ n) (h1 : n ≤ 64) (hx : x < 2 ^ n) (hm0 : 1 ≤ m) (hlm : l + m ≤ n) :
    Calls Tryz.prog 13 #[.int .i64 n, .int .u64 x, .int .i64 l, .int .i64 m] w fun e w' => e = .returned (.tuple #[.int .u64 (x / 2 ^ l % 2 ^ m : Nat), .int .i64 0]) ∧ Below w.heap.size w w' := by
  have c0 : (w.alloc (.cells #[.int .u64 x] 22)).cell? ⟨w.heap.size, 0, none⟩ = some (.int .u64 x) := by go_simp
  have HK := Lib.hid (check1 n x _ _ h0 h1 c0)
  rw [show chk1 n x = 0 by unfold chk1; rw [if_pos ((okB_iff _ _).2 hx)]] at HK
  have HV := Lib.hid (shr_mask x l m (by have := pow_le n h1; omega) (by omega))
  have rM := Lib.hid (fun (W : World) d os => Calls.regrown_of (w := W) (d := d) (os := os) ((mask_yes m (grow (redrawn W d) os) hm0 (by omega)).mono fun e w' ⟨he, hw⟩ => ⟨he, hw ▸ Below.refl _ _⟩))
  generalize hv : x / 2 ^ l % 2 ^ m = v at *
  have t1 : decide ((l : Int) < 0) = false := by simp
  have t2 : decide ((m : Int) < 1) = false := by simp; omega
  have t3 : decide ((n : Int) - l < m) = false := by simp; omega
  clear hx c0 hv
  go_enter Tryz.func13, Tryz.ntmps13
  go_wp2_with (go_at_call 40; refine HK.out.mono ?_; rintro e w' ⟨rfl, rfl⟩)
  refine wp_region_quiet_below (by kernel_rfl) (by kernel_rfl) ?_
  repeat (first | go_big_quiet_step ((with_reducible exact rM.out _ _ _)) | quiet_step ((with_reducible exact rM.out _ _ _)))
  refine wpQuiet_nil ?_
  intro _ hw'
  obtain ⟨⟨dq, osq⟩, hw''⟩ := hw'
  subst hw''
  go_wp2
  go_ret2
  refine ⟨?_, Below.trans ((Below.refl _ _).alloc (Nat.le_refl _) _) ((below_regrown _ dq osq).mono (by simp))⟩
  show Ending.returned (.tuple #[.int .u64 _, _]) = _
  rw [HV.out]
  rfl

theorem extract_any (n : Int) (x : Nat) (low many : Int) (w : World) (hl : -9223372036854775808 ≤ low ∧ low ≤ 9223372036854775807) (hm : -9223372036854775808 ≤ many ∧ many ≤ 9223372036854775807) :
    Calls Tryz.prog 13 #[.int .i64 n, .int .u64 x, .int .i64 low, .int .i64 many] w fun e w' => e = .returned (.tuple #[.int .u64 (exR n x low many).1, .int .i64 (exR n x low many).2]) ∧ Below w.heap.size w w' := by
  by_cases h : n < 1 ∨ 64 < n
  · rw [show exR n x low many = (0, 14) by unfold exR; rw [if_pos h]]
    have H := Lib.hid h
    clear h hl hm
    go_enter Tryz.func13, Tryz.ntmps13
    go_wp2_with (go_at_call 40; refine (check_bad _ _ _ _ H.out).mono ?_; rintro e w' ⟨rfl, rfl⟩)
    go_ret2
    exact ⟨rfl, (Below.refl _ _).alloc (Nat.le_refl _) _⟩
  · obtain ⟨n, rfl⟩ : ∃ m : Nat, n = m := ⟨n.toNat, by omega⟩
    have h0 : 1 ≤ n := by omega
    have h1 : n ≤ 64 := by omega
    have c0 : (w.alloc (.cells #[.int .u64 x] 22)).cell? ⟨w.heap.size, 0, none⟩ = some (.int .u64 x) := by go_simp
    have HK := Lib.hid (check1 n x _ _ h0 h1 c0)
    rcases chk1_or n x with hx | ⟨hx, hx'⟩
    · rw [show exR n x low many = (0, 8) by unfold exR; rw [if_neg h, Int.toNat_natCast, if_pos hx]]
      rw [hx] at HK
      clear hx h c0 hl hm
      go_enter Tryz.func13, Tryz.ntmps13
      go_wp2_with (go_at_call 40; refine HK.out.mono ?_; rintro e w' ⟨rfl, rfl⟩)
      go_ret2
      exact ⟨rfl, (Below.refl _ _).alloc (Nat.le_refl _) _⟩
    · by_cases hb : low < 0 ∨ many < 1 ∨ n - low < many
      · rw [show exR n x low many = (0, 2) by unfold exR; rw [if_neg h, Int.toNat_natCast, if_neg (by rw [hx']; decide), if_pos hb]]
        rw [hx'] at HK
        clear hx hx' c0
        by_cases b1 : low < 0
        · have t1 : decide (low < 0) = true := by simp [b1]
          clear h hl hm hb b1
          go_enter Tryz.func13, Tryz.ntmps13
          go_wp2_with (go_at_call 40; refine HK.out.mono ?_; rintro e w' ⟨rfl, rfl⟩)
          go_ret2
          exact ⟨rfl, (Below.refl _ _).alloc (Nat.le_refl _) _⟩
        · by_cases b2 : many < 1
          · have t1 : decide (low < 0) = false := by simp; omega
            have t2 : decide (many < 1) = true := by simp [b2]
            clear h hl hm hb b1 b2
            go_enter Tryz.func13, Tryz.ntmps13
            go_wp2_with (go_at_call 40; refine HK.out.mono ?_; rintro e w' ⟨rfl, rfl⟩)
            go_ret2
            exact ⟨rfl, (Below.refl _ _).alloc (Nat.le_refl _) _⟩
          · have t1 : decide (low < 0) = false := by simp; omega
            have t2 : decide (many < 1) = false := by simp; omega
            have t3 : decide ((n : Int) - low < many) = true := by simp; omega
            have t4 : 0 ≤ low := by omega
            clear h hm hb b1 b2
            go_enter Tryz.func13, Tryz.ntmps13
            go_wp2_with (go_at_call 40; refine HK.out.mono ?_; rintro e w' ⟨rfl, rfl⟩)
            go_ret2
            exact ⟨rfl, (Below.refl _ _).alloc (Nat.le_refl _) _⟩
      · obtain ⟨l, rfl⟩ : ∃ l : Nat, low = l := ⟨low.toNat, by omega⟩
        obtain ⟨m, rfl⟩ : ∃ m : Nat, many = m := ⟨many.toNat, by omega⟩
        rw [show exR n x l m = (x / 2 ^ l % 2 ^ m, 0) by unfold exR; rw [if_neg h, Int.toNat_natCast, if_neg (by rw [hx']; decide), if_neg hb, Int.toNat_natCast, Int.toNat_natCast]]
        exact extract_ok n x l m w h0 h1 hx (by omega) (by omega)
end Go.Proofs.YthogpmddijbigaaGreatDoor
