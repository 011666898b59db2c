/- Contracts of the library's binary search at cells, and of byteAt. -/
import Derived.Test.YthogpmddijbigaaGreatDoorTermMem
namespace Go.Proofs.YthogpmddijbigaaGreatDoor
open Go.RowKit
set_option linter.unusedVariables false

theorem mid_val (a b n : Nat) (h1 : a ≤ b) (h2 : b ≤ n) (hn : n ≤ 4200) : wrap64 (IntKind.u64.wrap (wrap64 ((a : Int) + (b : Int))) / 2) = (((a + b) / 2 : Nat) : Int) := by
  have e1 : wrap64 ((a : Int) + (b : Int)) = (a : Int) + b := wrap64_small _ (by omega) (by omega)
  have e2 : IntKind.u64.wrap ((a : Int) + b) = (a : Int) + b := by rw [IntKind.wrap_u64]; omega
  rw [e1, e2, wrap64_small _ (by omega) (by omega)]
  omega

theorem find_any (p : Option Addr) (n cap : Nat) (A B : Nat → Nat) (t : Nat) (w : World) (hn : n ≤ 4200) (hm : MemAt w p n A B) (r : Nat) (hr : r = bs (fun i => decide (A i < t)) n 0 n) :
    Calls Tryz.prog 118 #[.slice p n cap, .int .u64 t, .func (.func 119) #[] #[]] w fun e w' =>
      e = .returned (.tuple #[.int .i64 r, .bool (decide (r < n) && decide (A r = t))]) ∧ Below w.heap.size w w' := by
  have HM := Lib.hid hm
  have HR := Lib.hid hr
  clear hm hr
  go_enter Tryz.func118, Tryz.ntmps118
  go_wp2
  go_loopw [9, 10] (fun i j wr => ∃ a b m : Nat, i = .int .i64 a ∧ j = .int .i64 b ∧ a ≤ b ∧ b ≤ n ∧ b - a ≤ m ∧ bs (fun i => decide (A i < t)) m a b = r ∧ Below w.heap.size w wr) (fun i j _ => (intOf j).toNat - (intOf i).toNat)
  case atStart => exact ⟨0, n, n, rfl, rfl, by omega, by omega, by omega, HR.out.symm, Below.refl _ _⟩
  case round =>
    obtain ⟨a, b, m, rfl, rfl, hab, hbn, hbm, hbs, hb⟩ := hrel
    have HB := Lib.hid hb
    have HS := Lib.hid hbs
    clear hb hbs
    by_cases hlt : a < b
    · obtain ⟨c, hc⟩ : ∃ c, c = (a + b) / 2 := ⟨_, rfl⟩
      have hmid : wrap64 (IntKind.u64.wrap (wrap64 ((a : Int) + (b : Int))) / 2) = (c : Int) := by rw [hc]; exact mid_val a b n hab hbn hn
      have hcn : c < n := by omega
      obtain ⟨bk, o, hp, hk, c0, c1⟩ := (HM.out.below HB.out) c hcn
      subst hp
      have HC := Lib.hid hc
      have HK := Lib.hid (And.intro hab (And.intro hbn (And.intro hbm hn)))
      clear hc hab hbn hbm hn hk
      by_cases hl : A c < t
      · have hneg : cmpN (A c) t < 0 := by simp [cmpN, hl]
        have HL := Lib.hid hl
        clear hl
        go_wp2_with (go_at_call 119; refine (cellcmp_any (A c) (B c) t _).mono ?_; rintro e w1 ⟨rfl, hb1⟩)
        go_roundw
        case rel =>
          obtain ⟨hab, hbn, hbm, hn⟩ := HK.out
          have hc := HC.out
          refine ⟨c + 1, b, m - 1, by rw [wrap64_small _ (by omega) (by omega)]; rfl, rfl, by omega, by omega, by omega, ?_, HB.out.trans (hb1.mono HB.out.size)⟩
          rw [← HS.out]
          obtain ⟨m', rfl⟩ : ∃ m', m = m' + 1 := ⟨m - 1, by omega⟩
          rw [bs_up _ _ _ _ hlt (by rw [← hc]; simp [HL.out]), ← hc]
          rfl
        case measure => have hc := HC.out; obtain ⟨hab, hbn, hbm, hn⟩ := HK.out; rw [wrap64_small _ (by omega) (by omega)]; simp only [intOf]; omega
      · have hneg : decide (cmpN (A c) t < 0) = false := by unfold cmpN; split <;> simp_all; split <;> simp
        have HL := Lib.hid hl
        clear hl
        go_wp2_with (go_at_call 119; refine (cellcmp_any (A c) (B c) t _).mono ?_; rintro e w1 ⟨rfl, hb1⟩)
        go_roundw
        case rel =>
          obtain ⟨hab, hbn, hbm, hn⟩ := HK.out
          have hc := HC.out
          refine ⟨a, c, m - 1, rfl, rfl, by omega, by omega, by omega, ?_, HB.out.trans (hb1.mono HB.out.size)⟩
          rw [← HS.out]
          obtain ⟨m', rfl⟩ : ∃ m', m = m' + 1 := ⟨m - 1, by omega⟩
          rw [bs_down _ _ _ _ hlt (by rw [← hc]; simp [HL.out]), ← hc]
          rfl
        case measure => have hc := HC.out; obtain ⟨hab, hbn, hbm, hn⟩ := HK.out; simp only [intOf]; omega
    · have hbs2 := HS.out
      rw [bs_stop _ _ _ _ hlt] at hbs2
      subst hbs2
      by_cases hrn : a < n
      · obtain ⟨bk, o, hp, hk, c0, c1⟩ := (HM.out.below HB.out) a hrn
        subst hp
        clear hk hab hbn hbm hn HS
        have HE := Lib.hid (cmpN_eq (A a) t)
        go_wp2_with (go_at_call 119; refine (cellcmp_any (A a) (B a) t _).mono ?_; rintro e w1 ⟨rfl, hb1⟩)
        go_ret2
        exact ⟨by rw [HE.out]; simp [hrn], HB.out.trans (hb1.mono HB.out.size)⟩
      · have hrn2 : decide ((a : Int) < (n : Int)) = false := by simp; omega
        have HD := Lib.hid hrn
        clear hab hbn hbm hn HS hrn
        go_wp2
        go_ret2
        exact ⟨by simp [HD.out], HB.out⟩
end Go.Proofs.YthogpmddijbigaaGreatDoor
