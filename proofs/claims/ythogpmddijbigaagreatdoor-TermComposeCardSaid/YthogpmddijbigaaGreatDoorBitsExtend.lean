/- Contract of Extend of package bits, for all arguments. It only makes memory. -/
import Derived.Test.YthogpmddijbigaaGreatDoorBitsJoin
namespace Go.Proofs.YthogpmddijbigaaGreatDoor
open Go.RowKit Go.Sort
set_option linter.unusedVariables false
set_option linter.unusedSimpArgs false

/-- What Extend gives. -/
def extR (n : Int) (x : Nat) (to : Int) (sign : Bool) : Nat × Int :=
  if n < 1 ∨ 64 < n then (0, 14) else if to < n ∨ 64 < to then (0, 14) else if chk1 n.toNat x = 8 then (0, 8) else if sign = true then ((sg n.toNat x % 2 ^ to.toNat).toNat, 0) else (x, 0)

theorem enters_ext : ∀ (args : Array Value) (w : World), Sem.run Tryz.prog (callFunc 41 args) w = .ok (.enter 41 args) w := by
  intro args w; kernel_rfl
theorem ext_no (n : Nat) (to : Int) (bt bn : Nat) (w : World) (c0 : w.cell? ⟨bt, 0, none⟩ = some (.int .i64 to)) (c1 : w.cell? ⟨bn, 0, none⟩ = some (.int .i64 n)) (h0 : 1 ≤ n) (hl : to < n ∨ 64 < to) :
    Calls Tryz.prog 41 #[.pointer (some ⟨bt, 0, none⟩), .pointer (some ⟨bn, 0, none⟩)] w fun e w' => e = .returned (.int .i64 14) ∧ w = w' := by
  by_cases hb : to < n
  · have t1 : decide (to < (n : Int)) = true := by simp [hb]
    clear hl hb
    go_enter Tryz.func41, Tryz.ntmps41
    go_wp2
    go_ret
    exact ⟨rfl, rfl⟩
  · have t1 : decide (to < (n : Int)) = false := by simp; omega
    have H := fun W => Lib.hid (isWidth_no to W (by omega))
    clear hl hb
    go_enter Tryz.func41, Tryz.ntmps41
    go_wp2_with (go_at_call 36; (with_reducible refine (H _).out.mono ?_); rintro e w' ⟨rfl, rfl⟩)
    go_ret
    exact ⟨rfl, rfl⟩
theorem ext_yes (n to : Nat) (bt bn : Nat) (w : World) (c0 : w.cell? ⟨bt, 0, none⟩ = some (.int .i64 to)) (c1 : w.cell? ⟨bn, 0, none⟩ = some (.int .i64 n)) (h0 : 1 ≤ n) (h1 : n ≤ to) (h2 : to ≤ 64) :
    Calls Tryz.prog 41 #[.pointer (some ⟨bt, 0, none⟩), .pointer (some ⟨bn, 0, none⟩)] w fun e w' => e = .returned (.int .i64 0) ∧ w = w' := by
  have t1 : decide (to < n) = false := by simp; omega
  have H := fun W => Lib.hid (isWidth_yes to W (by omega) (by omega))
  go_enter Tryz.func41, Tryz.ntmps41
  go_wp2_with (go_at_call 36; (with_reducible refine (H _).out.mono ?_); rintro e w' ⟨rfl, rfl⟩)
  go_ret
  exact ⟨rfl, rfl⟩

theorem extend_any (n : Int) (x : Nat) (to : Int) (sign : Bool) (w : World) :
    Calls Tryz.prog 14 #[.int .i64 n, .int .u64 x, .int .i64 to, .bool sign] w fun e w' => e = .returned (.tuple #[.int .u64 (extR n x to sign).1, .int .i64 (extR n x to sign).2]) ∧ Below w.heap.size w w' := by
  by_cases hn : n < 1 ∨ 64 < n
  · rw [show extR n x to sign = (0, 14) by unfold extR; rw [if_pos hn]]
    have H := Lib.hid hn
    clear hn
    go_enter Tryz.func14, Tryz.ntmps14
    go_wp2_with (go_at_call 40; refine (check_bad _ _ _ _ H.out).mono ?_; rintro e w' ⟨rfl, rfl⟩)
    go_ret2
    refine ⟨rfl, ?_⟩
    go_grown
  · obtain ⟨n, rfl⟩ : ∃ m : Nat, n = m := ⟨n.toNat, by omega⟩
    have h0 : 1 ≤ n := by omega
    have h1 : n ≤ 64 := by omega
    have ct : (((w.alloc (.cells #[.int .i64 n] 3)).alloc (.cells #[.int .i64 to] 3)).alloc (.cells #[.int .u64 x] 22)).cell? ⟨w.heap.size + 1, 0, none⟩ = some (.int .i64 to) := by go_simp
    have cn : (((w.alloc (.cells #[.int .i64 n] 3)).alloc (.cells #[.int .i64 to] 3)).alloc (.cells #[.int .u64 x] 22)).cell? ⟨w.heap.size, 0, none⟩ = some (.int .i64 n) := by go_simp
    have ca : (((w.alloc (.cells #[.int .i64 n] 3)).alloc (.cells #[.int .i64 to] 3)).alloc (.cells #[.int .u64 x] 22)).cell? ⟨w.heap.size + 1 + 1, 0, none⟩ = some (.int .u64 x) := by go_simp
    by_cases hl : to < n ∨ 64 < to
    · rw [show extR n x to sign = (0, 14) by unfold extR; rw [if_neg hn, if_pos hl]]
      have HK := fun xs => Lib.hid (check_first n _ _ 14 xs _ h0 h1 enters_ext (Lib.hid (ext_no n to _ _ _ ct cn h0 hl)) rfl)
      clear hn hl ct cn ca
      go_enter Tryz.func14, Tryz.ntmps14
      go_wp2_with (go_at_call 40; refine (HK _).out.mono ?_; rintro e w' ⟨rfl, rfl⟩)
      go_ret2
      refine ⟨rfl, ?_⟩
      go_grown
    · obtain ⟨to, rfl⟩ : ∃ m : Nat, to = m := ⟨to.toNat, by omega⟩
      have HK := Lib.hid (check1_first n _ _ x _ _ h0 h1 enters_ext (Lib.hid (ext_yes n to _ _ _ ct cn h0 (by omega) (by omega))) ca)
      rcases chk1_or n x with hx | ⟨hx, hx'⟩
      · rw [show extR n x to sign = (0, 8) by unfold extR; rw [if_neg hn, if_neg hl, Int.toNat_natCast, if_pos hx]]
        rw [hx] at HK
        clear hn hl ct cn ca hx
        go_enter Tryz.func14, Tryz.ntmps14
        go_wp2_with (go_at_call 40; refine HK.out.mono ?_; rintro e w' ⟨rfl, rfl⟩)
        go_ret2
        refine ⟨rfl, ?_⟩
        go_grown
      · rw [hx'] at HK
        cases sign
        · rw [show extR n x to false = (x, 0) by unfold extR; rw [if_neg hn, if_neg hl, Int.toNat_natCast, if_neg (by rw [hx']; decide), if_neg (by decide)]]
          clear hn hl ct cn ca hx hx'
          go_enter Tryz.func14, Tryz.ntmps14
          go_wp2_with (go_at_call 40; refine HK.out.mono ?_; rintro e w' ⟨rfl, rfl⟩)
          go_ret2
          refine ⟨rfl, ?_⟩
          go_grown
        · rw [show extR n x to true = ((sg n x % 2 ^ to).toNat, 0) by unfold extR; rw [if_neg hn, if_neg hl, Int.toNat_natCast, Int.toNat_natCast, if_neg (by rw [hx']; decide), if_pos rfl]]
          have HV := Lib.hid (of_mask to (sg n x) (by omega))
          have rS := Lib.hid (fun (W : World) d os => Calls.regrown_of (w := W) (d := d) (os := os) ((signed_any n x (grow (redrawn W d) os) h0 h1 hx).mono fun e w' ⟨he, hw⟩ => ⟨he, hw ▸ Below.refl _ _⟩))
          have rM := Lib.hid (fun (W : World) d os => Calls.regrown_of (w := W) (d := d) (os := os) ((mask_yes to (grow (redrawn W d) os) (by omega) (by omega)).mono fun e w' ⟨he, hw⟩ => ⟨he, hw ▸ Below.refl _ _⟩))
          have K1 := Lib.hid (fun d os => cell_regrown ct d os)
          have K2 := Lib.hid (fun d os => cell_regrown cn d os)
          generalize hv : (sg n x % 2 ^ to).toNat = v at *
          generalize sg n x = z at *
          clear hn hl ct cn ca hx hx' hv
          go_enter Tryz.func14, Tryz.ntmps14
          go_wp2_with (go_at_call 40; refine HK.out.mono ?_; rintro e w' ⟨rfl, rfl⟩)
          have k1 := K1.out
          have k2 := K2.out
          refine wp_region_quiet_below (by kernel_rfl) (by kernel_rfl) ?_
          repeat (first | go_big_quiet_step (first | (with_reducible exact rS.out _ _ _) | (with_reducible exact rM.out _ _ _)) | quiet_step (first | (with_reducible exact rS.out _ _ _) | (with_reducible exact rM.out _ _ _)))
          refine wpQuiet_nil ?_
          intro _ hw'
          obtain ⟨⟨dq, osq⟩, hw''⟩ := hw'
          subst hw''
          clear k1 k2
          go_wp2
          go_ret2
          refine ⟨?_, Below.trans (b := (((w.alloc (.cells #[.int .i64 n] 3)).alloc (.cells #[.int .i64 to] 3)).alloc (.cells #[.int .u64 x] 22))) (by go_grown) ((below_regrown _ dq osq).mono (by simp only [World.size_alloc]; omega))⟩
          show Ending.returned (.tuple #[.int .u64 _, _]) = _
          rw [HV.out]
          rfl
end Go.Proofs.YthogpmddijbigaaGreatDoor
