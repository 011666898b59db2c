/- Contracts of byteAt, CheckCells, isLoaded of package term. -/
import Derived.Test.YthogpmddijbigaaGreatDoorTermFind
import Derived.BigQuiet
import Derived.Deep.QuietTactic
namespace Go.Proofs.YthogpmddijbigaaGreatDoor
open Go.RowKit
set_option linter.unusedVariables false

/-- The byte at an address. -/
def bytN (A B : Nat → Nat) (n t : Nat) : Nat := if bs (fun i => decide (A i < t)) n 0 n < n ∧ A (bs (fun i => decide (A i < t)) n 0 n) = t then B (bs (fun i => decide (A i < t)) n 0 n) else 0
theorem bytN_lt (A B : Nat → Nat) (n t : Nat) (hB : ∀ i, i < n → B i < 256) : bytN A B n t < 256 := by
  unfold bytN
  split
  · exact hB _ (by omega)
  · decide

theorem byte_any (p : Option Addr) (n cap : Nat) (A B : Nat → Nat) (t : Nat) (w : World) (hn : n ≤ 4200) (hm : MemAt w p n A B) :
    Calls Tryz.prog 67 #[.slice p n cap, .int .u64 t] w fun e w' => e = .returned (.int .u8 (bytN A B n t)) ∧ Below w.heap.size w w' := by
  obtain ⟨r, hr⟩ : ∃ r, r = bs (fun i => decide (A i < t)) n 0 n := ⟨_, rfl⟩
  have HV : Hid (bytN A B n t = if r < n ∧ A r = t then B r else 0) := by rw [hr]; rfl
  have HF := Lib.hid (find_any p n cap A B t w hn hm r hr)
  have HM := Lib.hid hm
  clear hr hm hn
  by_cases h : r < n ∧ A r = t
  · have hd : (decide (r < n) && decide (A r = t)) = true := by simp [h]
    rw [hd] at HF
    have hrn := h.1
    have HH := Lib.hid h
    clear h hd
    go_enter Tryz.func67, Tryz.ntmps67
    go_wp2_with (go_at_call 118; refine HF.out.mono ?_; rintro e w1 ⟨rfl, hb1⟩; have HB := Lib.hid hb1; clear hb1; obtain ⟨bk, o, hp, hk, c0, c1⟩ := (HM.out.below HB.out) r hrn; subst hp; clear hk)
    go_ret
    exact ⟨by rw [HV.out, if_pos HH.out]; rfl, HB.out⟩
  · have hd : (decide (r < n) && decide (A r = t)) = false := by
      rcases Nat.lt_or_ge r n with h1 | h1
      · have : A r ≠ t := fun e => h ⟨h1, e⟩
        simp [this]
      · have : ¬ r < n := by omega
        simp [this]
    rw [hd] at HF
    have HH := Lib.hid h
    clear h hd
    go_enter Tryz.func67, Tryz.ntmps67
    go_wp2_with (go_at_call 118; refine HF.out.mono ?_; rintro e w1 ⟨rfl, hb1⟩; have HB := Lib.hid hb1; clear hb1)
    go_ret
    exact ⟨by rw [HV.out, if_neg HH.out]; rfl, HB.out⟩

def okAt (A B : Nat → Nat) (i : Nat) : Prop := B i ≠ 0 ∧ (0 < i → A (i - 1) < A i)
open Classical in
/-- What CheckCells says. -/
noncomputable def cellsE (n : Nat) (A B : Nat → Nat) : Int := if n ≤ 4096 ∧ ∀ i, i < n → okAt A B i then 0 else 8
theorem cellsE_two (n : Nat) (A B : Nat → Nat) : cellsE n A B = 0 ∨ cellsE n A B = 8 := by unfold cellsE; split <;> simp

theorem cells_any (p : Option Addr) (n cap : Nat) (A B : Nat → Nat) (w : World) (hm : MemAt w p n A B) (hn : n ≤ 4200) :
    Calls Tryz.prog 19 #[.slice p n cap] w fun e w' => e = .returned (.int .i64 (cellsE n A B)) ∧ Below w.heap.size w w' := by
  by_cases h1 : n ≤ 4096
  · have h1' : decide ((4096 : Int) < (n : Int)) = false := by simp; omega
    have HM := Lib.hid hm
    clear hm
    go_enter Tryz.func19, Tryz.ntmps19
    go_wp2
    go_loopw [10] (fun i wr => ∃ k : Nat, i = .int .i64 k ∧ k ≤ n ∧ (∀ j, j < k → okAt A B j) ∧ Below w.heap.size w wr) (fun i _ => n - (intOf i).toNat)
    case atStart => exact ⟨0, rfl, by omega, fun j hj => absurd hj (by omega), Below.refl _ _⟩
    case round =>
      obtain ⟨k, rfl, hk, hok, hb⟩ := hrel
      have HB := Lib.hid hb
      have HO := Lib.hid hok
      clear hb hok
      by_cases hlt : k < n
      · obtain ⟨bk, o, hp, hs, c0, c1⟩ := (HM.out.below HB.out) k hlt
        have hkn : k ≤ 4096 := by omega
        have HK := Lib.hid (And.intro hk (And.intro h1 hkn))
        clear hk hs hn hkn
        by_cases hz : B k = 0
        · subst hp
          rw [hz] at c1
          go_wp2
          go_quiet (fail)
          go_wp2
          go_ret
          refine ⟨?_, ?_⟩
          · have : cellsE n A B = 8 := by unfold cellsE; rw [if_neg]; exact fun h => (h.2 k hlt).1 hz
            rw [this]
            rfl
          · exact ((HB.out.alloc HB.out.size _).trans ⟨rfl, rfl, rfl, Nat.le_refl _, fun _ _ => rfl⟩)
        · by_cases hk0 : k = 0
          · subst hp
            have hz' : ((B k : Int) == 0) = false := by simp [hz]
            have hk' : decide (0 < k) = false := by simp [hk0]
            have HZ := Lib.hid hz
            have H0 := Lib.hid hk0
            clear hz hk0
            go_wp2
            go_quiet (fail)
            go_wp2
            go_roundw
            case rel =>
              have hk := HK.out
              have h0 := H0.out
              refine ⟨k + 1, by first | rfl | (rw [wrap64_small _ (by omega) (by omega)]; rfl), by omega, fun i hi => ?_, ((HB.out.alloc HB.out.size _).trans ⟨rfl, rfl, rfl, Nat.le_refl _, fun _ _ => rfl⟩)⟩
              obtain rfl : i = k := by omega
              exact ⟨HZ.out, fun h => by omega⟩
            case measure => have hk := HK.out; (try rw [wrap64_small _ (by omega) (by omega)]); simp only [intOf]; omega
          · obtain ⟨j, hj⟩ : ∃ j, j = k - 1 := ⟨_, rfl⟩
            obtain ⟨bk', o', hp', _, d0, d1⟩ := (HM.out.below HB.out) j (by omega)
            rw [hp] at hp'
            cases hp'
            subst hp
            have hz' : ((B k : Int) == 0) = false := by simp [hz]
            have hk' : decide (0 < k) = true := by simp; omega
            have hw : wrap64 ((k : Int) - 1) = (j : Int) := by have := HK.out; rw [wrap64_small _ (by omega) (by omega)]; omega
            have hw2 : IntKind.i64.wrap ((k : Int) - 1) = (j : Int) := by rw [IntKind.wrap_i64]; have := hw; unfold wrap64 at this; exact this
            have hjn : j < n := by omega
            have HZ := Lib.hid hz
            have H0 := Lib.hid (And.intro hk0 hj)
            clear hz hk0 hj
            by_cases hA : A j < A k
            · have hA' : decide (A k ≤ A j) = false := by simp; omega
              have HA := Lib.hid hA
              clear hA
              go_wp2
              go_quiet (fail)
              go_wp2
              go_roundw
              case rel =>
                have hk := HK.out
                have h0 := H0.out
                refine ⟨k + 1, by first | rfl | (rw [wrap64_small _ (by omega) (by omega)]; rfl), by omega, fun i hi => ?_, ((HB.out.alloc HB.out.size _).trans ⟨rfl, rfl, rfl, Nat.le_refl _, fun _ _ => rfl⟩)⟩
                by_cases hik : i < k
                · exact HO.out i hik
                · obtain rfl : i = k := by omega
                  exact ⟨HZ.out, fun h => by rw [← h0.2]; exact HA.out⟩
              case measure => have hk := HK.out; (try rw [wrap64_small _ (by omega) (by omega)]); simp only [intOf]; omega
            · have hA' : decide (A k ≤ A j) = true := by simp; omega
              have HA := Lib.hid hA
              clear hA
              go_wp2
              go_quiet (fail)
              go_wp2
              go_ret
              refine ⟨?_, ?_⟩
              · have h0 := H0.out
                have : cellsE n A B = 8 := by unfold cellsE; rw [if_neg]; exact fun h => HA.out (by rw [h0.2]; exact (h.2 k hlt).2 (by omega))
                rw [this]
                rfl
              · exact ((HB.out.alloc HB.out.size _).trans ⟨rfl, rfl, rfl, Nat.le_refl _, fun _ _ => rfl⟩)
      · obtain rfl : k = n := by omega
        go_wp2
        go_ret
        refine ⟨?_, HB.out⟩
        have : cellsE k A B = 0 := by unfold cellsE; rw [if_pos ⟨h1, HO.out⟩]
        rw [this]
        rfl
  · have h1' : decide ((4096 : Int) < (n : Int)) = true := by simp; omega
    have : cellsE n A B = 8 := by unfold cellsE; rw [if_neg]; exact fun h => h1 h.1
    rw [this]
    go_enter Tryz.func19, Tryz.ntmps19
    go_wp2
    go_ret
    exact ⟨rfl, Below.refl _ _⟩
end Go.Proofs.YthogpmddijbigaaGreatDoor
