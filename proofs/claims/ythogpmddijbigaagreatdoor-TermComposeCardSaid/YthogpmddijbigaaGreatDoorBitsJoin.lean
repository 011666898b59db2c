/- Contracts of Concat and Extend of package bits, for all arguments. They only make memory. -/
import Derived.Test.YthogpmddijbigaaGreatDoorBitsParts
namespace Go.Proofs.YthogpmddijbigaaGreatDoor
open Go.RowKit Go.Sort
set_option linter.unusedVariables false
set_option linter.unusedSimpArgs false

/-- What Concat gives. -/
def catR (h : Int) (a : Nat) (l : Int) (b : Nat) : Nat × Int :=
  if h < 1 ∨ 64 < h then (0, 14) else if (l < 1 ∨ 64 < l) ∨ 64 < h + l then (0, 14) else if chk1 h.toNat a = 8 then (0, 8) else if okB l.toNat b = false then (0, 8) else (a * 2 ^ l.toNat + b, 0)

theorem enters_cat : ∀ (args : Array Value) (w : World), Sem.run Tryz.prog (callFunc 39 args) w = .ok (.enter 39 args) w := by
  intro args w; kernel_rfl
theorem cat_no (h : Nat) (l : Int) (bl bh : Nat) (w : World) (c0 : w.cell? ⟨bl, 0, none⟩ = some (.int .i64 l)) (c1 : w.cell? ⟨bh, 0, none⟩ = some (.int .i64 h)) (h0 : 1 ≤ h) (h1 : h ≤ 64) (hl : (l < 1 ∨ 64 < l) ∨ 64 < (h : Int) + l) :
    Calls Tryz.prog 39 #[.pointer (some ⟨bl, 0, none⟩), .pointer (some ⟨bh, 0, none⟩)] w fun e w' => e = .returned (.int .i64 14) ∧ w = w' := by
  by_cases hb : l < 1 ∨ 64 < l
  · have H := Lib.hid hb
    clear hb hl
    go_enter Tryz.func39, Tryz.ntmps39
    go_wp2_with (go_at_call 36; (with_reducible refine (isWidth_no l _ H.out).mono ?_); rintro e w' ⟨rfl, rfl⟩)
    go_ret
    exact ⟨rfl, rfl⟩
  · have g0 : 1 ≤ l := by omega
    have g1 : l ≤ 64 := by omega
    have H1 := fun W => Lib.hid (isWidth_yes l W g0 g1)
    have H2 := fun W => Lib.hid (isWidth_no ((h : Int) + l) W (by omega))
    clear hb hl
    go_enter Tryz.func39, Tryz.ntmps39
    go_wp2_with (first
      | (go_at_call 36; (with_reducible refine (H1 _).out.mono ?_); rintro e w' ⟨rfl, rfl⟩)
      | (go_at_call 36; (with_reducible refine (H2 _).out.mono ?_); rintro e w' ⟨rfl, rfl⟩))
    go_ret
    exact ⟨rfl, rfl⟩
theorem cat_yes (h l : Nat) (bl bh : Nat) (w : World) (c0 : w.cell? ⟨bl, 0, none⟩ = some (.int .i64 l)) (c1 : w.cell? ⟨bh, 0, none⟩ = some (.int .i64 h)) (h0 : 1 ≤ h) (l0 : 1 ≤ l) (hl : h + l ≤ 64) :
    Calls Tryz.prog 39 #[.pointer (some ⟨bl, 0, none⟩), .pointer (some ⟨bh, 0, none⟩)] w fun e w' => e = .returned (.int .i64 0) ∧ w = w' := by
  have H1 := fun W => Lib.hid (isWidth_yes l W (by omega) (by omega))
  have H2 := fun W => Lib.hid (isWidth_yes ((h : Int) + l) W (by omega) (by omega))
  go_enter Tryz.func39, Tryz.ntmps39
  go_wp2_with (first
    | (go_at_call 36; (with_reducible refine (H1 _).out.mono ?_); rintro e w' ⟨rfl, rfl⟩)
    | (go_at_call 36; (with_reducible refine (H2 _).out.mono ?_); rintro e w' ⟨rfl, rfl⟩))
  go_ret
  exact ⟨rfl, rfl⟩

theorem cat_val (h l a b : Nat) (l0 : 1 ≤ l) (hl : h + l ≤ 64) (ha : a < 2 ^ h) (hb : b < 2 ^ l) : bits .or .u64 (IntKind.u64.wrap ((a : Int) * 2 ^ l)) (b : Int) = ((a * 2 ^ l + b : Nat) : Int) := by
  have hp := pow_le (h + l) hl
  rw [Nat.pow_add] at hp
  have h1 : a * 2 ^ l + 2 ^ l ≤ 2 ^ h * 2 ^ l := by
    have := Nat.mul_le_mul_right (2 ^ l) (show a + 1 ≤ 2 ^ h by omega)
    rwa [Nat.add_mul, Nat.one_mul] at this
  have e : IntKind.u64.wrap ((a : Int) * 2 ^ l) = ((a * 2 ^ l : Nat) : Int) := by
    have e2 : ((a : Int) * 2 ^ l) = ((a * 2 ^ l : Nat) : Int) := by rw [Int.natCast_mul, Int.natCast_pow]; rfl
    rw [e2, IntKind.wrap_u64]
    generalize a * 2 ^ l = q at *
    omega
  rw [e, bits_or_u64_nat _ _ (by omega) (by omega)]
  congr 1
  rw [Nat.mul_comm a, Nat.two_pow_add_eq_or_of_lt hb]

theorem concat_any (h : Int) (a : Nat) (l : Int) (b : Nat) (w : World) (hll : -9223372036854775808 ≤ l ∧ l ≤ 9223372036854775807) :
    Calls Tryz.prog 12 #[.int .i64 h, .int .u64 a, .int .i64 l, .int .u64 b] w fun e w' => e = .returned (.tuple #[.int .u64 (catR h a l b).1, .int .i64 (catR h a l b).2]) ∧ Below w.heap.size w w' := by
  by_cases hh : h < 1 ∨ 64 < h
  · rw [show catR h a l b = (0, 14) by unfold catR; rw [if_pos hh]]
    have H := Lib.hid hh
    clear hh hll
    go_enter Tryz.func12, Tryz.ntmps12
    go_wp2_with (go_at_call 40; refine (check_bad _ _ _ _ H.out).mono ?_; rintro e w' ⟨rfl, rfl⟩)
    go_ret2
    refine ⟨rfl, ?_⟩
    go_grown
  · obtain ⟨h, rfl⟩ : ∃ m : Nat, h = m := ⟨h.toNat, by omega⟩
    have h0 : 1 ≤ h := by omega
    have h1 : h ≤ 64 := by omega
    have cl : (((w.alloc (.cells #[.int .i64 h] 3)).alloc (.cells #[.int .i64 l] 3)).alloc (.cells #[.int .u64 a] 22)).cell? ⟨w.heap.size + 1, 0, none⟩ = some (.int .i64 l) := by go_simp
    have ch : (((w.alloc (.cells #[.int .i64 h] 3)).alloc (.cells #[.int .i64 l] 3)).alloc (.cells #[.int .u64 a] 22)).cell? ⟨w.heap.size, 0, none⟩ = some (.int .i64 h) := by go_simp
    have ca : (((w.alloc (.cells #[.int .i64 h] 3)).alloc (.cells #[.int .i64 l] 3)).alloc (.cells #[.int .u64 a] 22)).cell? ⟨w.heap.size + 1 + 1, 0, none⟩ = some (.int .u64 a) := by go_simp
    by_cases hl : (l < 1 ∨ 64 < l) ∨ 64 < (h : Int) + l
    · rw [show catR h a l b = (0, 14) by unfold catR; rw [if_neg hh, if_pos hl]]
      have HK := fun xs => Lib.hid (check_first h _ _ 14 xs _ h0 h1 enters_cat (Lib.hid (cat_no h l _ _ _ cl ch h0 h1 hl)) rfl)
      clear hh hll hl cl ch ca
      go_enter Tryz.func12, Tryz.ntmps12
      go_wp2_with (go_at_call 40; refine (HK _).out.mono ?_; rintro e w' ⟨rfl, rfl⟩)
      go_ret2
      refine ⟨rfl, ?_⟩
      go_grown
    · obtain ⟨l, rfl⟩ : ∃ m : Nat, l = m := ⟨l.toNat, by omega⟩
      have l0 : 1 ≤ l := by omega
      have hs : h + l ≤ 64 := by omega
      have HK := Lib.hid (check1_first h _ _ a _ _ h0 h1 enters_cat (Lib.hid (cat_yes h l _ _ _ cl ch h0 l0 hs)) ca)
      have HO := fun W => ok_any l b W l0 (by omega)
      rcases chk1_or h a with hx | ⟨hx, hx'⟩
      · rw [show catR h a l b = (0, 8) by unfold catR; rw [if_neg hh, if_neg hl, Int.toNat_natCast, if_pos hx]]
        rw [hx] at HK
        clear hh hll hl cl ch ca hx HO
        go_enter Tryz.func12, Tryz.ntmps12
        go_wp2_with (go_at_call 40; refine HK.out.mono ?_; rintro e w' ⟨rfl, rfl⟩)
        go_ret2
        refine ⟨rfl, ?_⟩
        go_grown
      · rw [hx'] at HK
        cases hb : okB l b
        · rw [show catR h a l b = (0, 8) by unfold catR; rw [if_neg hh, if_neg hl, Int.toNat_natCast, Int.toNat_natCast, if_neg (by rw [hx']; decide), if_pos hb]]
          rw [hb] at HO
          have HO := fun W => Lib.hid (HO W)
          clear hh hll hl ch ca hx hx' hb
          go_enter Tryz.func12, Tryz.ntmps12
          go_wp2_with (first
            | (go_at_call 40; refine HK.out.mono ?_; rintro e w' ⟨rfl, rfl⟩)
            | (go_at_call 10; (with_reducible refine (HO _).out.mono ?_); rintro e w' ⟨rfl, rfl⟩))
          go_ret2
          refine ⟨rfl, ?_⟩
          go_grown
        · rw [show catR h a l b = (a * 2 ^ l + b, 0) by unfold catR; rw [if_neg hh, if_neg hl, Int.toNat_natCast, Int.toNat_natCast, if_neg (by rw [hx']; decide), if_neg (by rw [hb]; decide)]]
          rw [hb] at HO
          have HO := fun W => Lib.hid (HO W)
          have HV := Lib.hid (cat_val h l a b l0 hs hx ((okB_iff _ _).1 hb))
          generalize hv : a * 2 ^ l + b = v at *
          clear hh hll hl ch ca hx hx' hb hv
          go_enter Tryz.func12, Tryz.ntmps12
          go_wp2_with (first
            | (go_at_call 40; refine HK.out.mono ?_; rintro e w' ⟨rfl, rfl⟩)
            | (go_at_call 10; (with_reducible refine (HO _).out.mono ?_); rintro e w' ⟨rfl, rfl⟩))
          go_ret2
          refine ⟨?_, ?_⟩
          · show Ending.returned (.tuple #[.int .u64 _, _]) = _
            rw [HV.out]
            rfl
          · go_grown
end Go.Proofs.YthogpmddijbigaaGreatDoor
