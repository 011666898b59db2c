/- Contracts of Name: package bits, and the reference. -/
import Derived.Test.YtejjbbgompddeaaDoorLexClass
import Derived.Lib.IndexBytes
namespace Go.Proofs.YtejjbbgompddeaaDoor
open Go.RowKit
set_option linter.unusedVariables false

def letterP (c : Nat) : Prop := (97 ≤ c ∧ c ≤ 122) ∨ (65 ≤ c ∧ c ≤ 90)
def digitP (c : Nat) : Prop := 48 ≤ c ∧ c ≤ 57
instance (c : Nat) : Decidable (letterP c) := inferInstanceAs (Decidable (_ ∨ _))
instance (c : Nat) : Decidable (digitP c) := inferInstanceAs (Decidable (_ ∧ _))
theorem letter_any (c : Nat) (w : World) :
    Calls Tryd.prog 49 #[.int .u8 c] w fun e w' => e = .returned (.bool (decide (letterP c))) ∧ w = w' := by
  rcases (by omega : c < 65 ∨ (65 ≤ c ∧ c ≤ 90) ∨ (90 < c ∧ c < 97) ∨ (97 ≤ c ∧ c ≤ 122) ∨ 122 < c) with h | h | h | h | h
  · have e : decide (letterP c) = false := decide_eq_false (by unfold letterP; omega)
    rw [e]
    have h1 : ¬ 97 ≤ c := by omega
    have h2 : ¬ 65 ≤ c := by omega
    go_enter Tryd.func49, Tryd.ntmps49
    go_wp2
    go_ret
    refine ⟨?_, rfl⟩
    first
    | rfl
    | (show Ending.returned (.bool (decide ((c : Int) ≤ 90))) = _; rw [show decide ((c : Int) ≤ 90) = true by simp; omega])
    | (show Ending.returned (.bool (decide ((c : Int) ≤ 90))) = _; rw [show decide ((c : Int) ≤ 90) = false by simp; omega])
    | (show Ending.returned (.bool (decide ((c : Int) ≤ 122) || decide ((c : Int) ≤ 90))) = _; rw [show decide ((c : Int) ≤ 122) = false by simp; omega, show decide ((c : Int) ≤ 90) = false by simp; omega]; rfl)
    | (show Ending.returned (.bool (decide ((c : Int) ≤ 57))) = _; rw [show decide ((c : Int) ≤ 57) = true by simp; omega])
    | (show Ending.returned (.bool (decide ((c : Int) ≤ 57))) = _; rw [show decide ((c : Int) ≤ 57) = false by simp; omega])
  · have e : decide (letterP c) = true := decide_eq_true (by unfold letterP; omega)
    rw [e]
    have h1 : ¬ 97 ≤ c := by omega
    obtain ⟨h2, h3⟩ := h
    go_enter Tryd.func49, Tryd.ntmps49
    go_wp2
    go_ret
    refine ⟨?_, rfl⟩
    first
    | rfl
    | (show Ending.returned (.bool (decide ((c : Int) ≤ 90))) = _; rw [show decide ((c : Int) ≤ 90) = true by simp; omega])
    | (show Ending.returned (.bool (decide ((c : Int) ≤ 90))) = _; rw [show decide ((c : Int) ≤ 90) = false by simp; omega])
    | (show Ending.returned (.bool (decide ((c : Int) ≤ 122) || decide ((c : Int) ≤ 90))) = _; rw [show decide ((c : Int) ≤ 122) = false by simp; omega, show decide ((c : Int) ≤ 90) = false by simp; omega]; rfl)
    | (show Ending.returned (.bool (decide ((c : Int) ≤ 57))) = _; rw [show decide ((c : Int) ≤ 57) = true by simp; omega])
    | (show Ending.returned (.bool (decide ((c : Int) ≤ 57))) = _; rw [show decide ((c : Int) ≤ 57) = false by simp; omega])
  · have e : decide (letterP c) = false := decide_eq_false (by unfold letterP; omega)
    rw [e]
    have h1 : ¬ 97 ≤ c := by omega
    have h2 : 65 ≤ c := by omega
    have h3 : ¬ c ≤ 90 := by omega
    clear h
    go_enter Tryd.func49, Tryd.ntmps49
    go_wp2
    go_ret
    refine ⟨?_, rfl⟩
    first
    | rfl
    | (show Ending.returned (.bool (decide ((c : Int) ≤ 90))) = _; rw [show decide ((c : Int) ≤ 90) = true by simp; omega])
    | (show Ending.returned (.bool (decide ((c : Int) ≤ 90))) = _; rw [show decide ((c : Int) ≤ 90) = false by simp; omega])
    | (show Ending.returned (.bool (decide ((c : Int) ≤ 122) || decide ((c : Int) ≤ 90))) = _; rw [show decide ((c : Int) ≤ 122) = false by simp; omega, show decide ((c : Int) ≤ 90) = false by simp; omega]; rfl)
    | (show Ending.returned (.bool (decide ((c : Int) ≤ 57))) = _; rw [show decide ((c : Int) ≤ 57) = true by simp; omega])
    | (show Ending.returned (.bool (decide ((c : Int) ≤ 57))) = _; rw [show decide ((c : Int) ≤ 57) = false by simp; omega])
  · have e : decide (letterP c) = true := decide_eq_true (by unfold letterP; omega)
    rw [e]
    obtain ⟨h2, h3⟩ := h
    go_enter Tryd.func49, Tryd.ntmps49
    go_wp2
    go_ret
    refine ⟨?_, rfl⟩
    first
    | rfl
    | (show Ending.returned (.bool (decide ((c : Int) ≤ 90))) = _; rw [show decide ((c : Int) ≤ 90) = true by simp; omega])
    | (show Ending.returned (.bool (decide ((c : Int) ≤ 90))) = _; rw [show decide ((c : Int) ≤ 90) = false by simp; omega])
    | (show Ending.returned (.bool (decide ((c : Int) ≤ 122) || decide ((c : Int) ≤ 90))) = _; rw [show decide ((c : Int) ≤ 122) = false by simp; omega, show decide ((c : Int) ≤ 90) = false by simp; omega]; rfl)
    | (show Ending.returned (.bool (decide ((c : Int) ≤ 57))) = _; rw [show decide ((c : Int) ≤ 57) = true by simp; omega])
    | (show Ending.returned (.bool (decide ((c : Int) ≤ 57))) = _; rw [show decide ((c : Int) ≤ 57) = false by simp; omega])
  · have e : decide (letterP c) = false := decide_eq_false (by unfold letterP; omega)
    rw [e]
    have h1 : 97 ≤ c := by omega
    have h2 : ¬ c ≤ 122 := by omega
    have h3 : 65 ≤ c := by omega
    have h4 : ¬ c ≤ 90 := by omega
    clear h
    go_enter Tryd.func49, Tryd.ntmps49
    go_wp2
    go_ret
    refine ⟨?_, rfl⟩
    first
    | rfl
    | (show Ending.returned (.bool (decide ((c : Int) ≤ 90))) = _; rw [show decide ((c : Int) ≤ 90) = true by simp; omega])
    | (show Ending.returned (.bool (decide ((c : Int) ≤ 90))) = _; rw [show decide ((c : Int) ≤ 90) = false by simp; omega])
    | (show Ending.returned (.bool (decide ((c : Int) ≤ 122) || decide ((c : Int) ≤ 90))) = _; rw [show decide ((c : Int) ≤ 122) = false by simp; omega, show decide ((c : Int) ≤ 90) = false by simp; omega]; rfl)
    | (show Ending.returned (.bool (decide ((c : Int) ≤ 57))) = _; rw [show decide ((c : Int) ≤ 57) = true by simp; omega])
    | (show Ending.returned (.bool (decide ((c : Int) ≤ 57))) = _; rw [show decide ((c : Int) ≤ 57) = false by simp; omega])
theorem digit_any (c : Nat) (w : World) :
    Calls Tryd.prog 50 #[.int .u8 c] w fun e w' => e = .returned (.bool (decide (digitP c))) ∧ w = w' := by
  rcases (by omega : c < 48 ∨ (48 ≤ c ∧ c ≤ 57) ∨ 57 < c) with h | h | h
  · have e : decide (digitP c) = false := decide_eq_false (by unfold digitP; omega)
    rw [e]
    have h1 : ¬ 48 ≤ c := by omega
    go_enter Tryd.func50, Tryd.ntmps50
    go_wp2
    go_ret
    refine ⟨?_, rfl⟩
    first
    | rfl
    | (show Ending.returned (.bool (decide ((c : Int) ≤ 90))) = _; rw [show decide ((c : Int) ≤ 90) = true by simp; omega])
    | (show Ending.returned (.bool (decide ((c : Int) ≤ 90))) = _; rw [show decide ((c : Int) ≤ 90) = false by simp; omega])
    | (show Ending.returned (.bool (decide ((c : Int) ≤ 122) || decide ((c : Int) ≤ 90))) = _; rw [show decide ((c : Int) ≤ 122) = false by simp; omega, show decide ((c : Int) ≤ 90) = false by simp; omega]; rfl)
    | (show Ending.returned (.bool (decide ((c : Int) ≤ 57))) = _; rw [show decide ((c : Int) ≤ 57) = true by simp; omega])
    | (show Ending.returned (.bool (decide ((c : Int) ≤ 57))) = _; rw [show decide ((c : Int) ≤ 57) = false by simp; omega])
  · have e : decide (digitP c) = true := decide_eq_true (by unfold digitP; omega)
    rw [e]
    obtain ⟨h2, h3⟩ := h
    go_enter Tryd.func50, Tryd.ntmps50
    go_wp2
    go_ret
    refine ⟨?_, rfl⟩
    first
    | rfl
    | (show Ending.returned (.bool (decide ((c : Int) ≤ 90))) = _; rw [show decide ((c : Int) ≤ 90) = true by simp; omega])
    | (show Ending.returned (.bool (decide ((c : Int) ≤ 90))) = _; rw [show decide ((c : Int) ≤ 90) = false by simp; omega])
    | (show Ending.returned (.bool (decide ((c : Int) ≤ 122) || decide ((c : Int) ≤ 90))) = _; rw [show decide ((c : Int) ≤ 122) = false by simp; omega, show decide ((c : Int) ≤ 90) = false by simp; omega]; rfl)
    | (show Ending.returned (.bool (decide ((c : Int) ≤ 57))) = _; rw [show decide ((c : Int) ≤ 57) = true by simp; omega])
    | (show Ending.returned (.bool (decide ((c : Int) ≤ 57))) = _; rw [show decide ((c : Int) ≤ 57) = false by simp; omega])
  · have e : decide (digitP c) = false := decide_eq_false (by unfold digitP; omega)
    rw [e]
    have h1 : 48 ≤ c := by omega
    have h2 : ¬ c ≤ 57 := by omega
    go_enter Tryd.func50, Tryd.ntmps50
    go_wp2
    go_ret
    refine ⟨?_, rfl⟩
    first
    | rfl
    | (show Ending.returned (.bool (decide ((c : Int) ≤ 90))) = _; rw [show decide ((c : Int) ≤ 90) = true by simp; omega])
    | (show Ending.returned (.bool (decide ((c : Int) ≤ 90))) = _; rw [show decide ((c : Int) ≤ 90) = false by simp; omega])
    | (show Ending.returned (.bool (decide ((c : Int) ≤ 122) || decide ((c : Int) ≤ 90))) = _; rw [show decide ((c : Int) ≤ 122) = false by simp; omega, show decide ((c : Int) ≤ 90) = false by simp; omega]; rfl)
    | (show Ending.returned (.bool (decide ((c : Int) ≤ 57))) = _; rw [show decide ((c : Int) ≤ 57) = true by simp; omega])
    | (show Ending.returned (.bool (decide ((c : Int) ≤ 57))) = _; rw [show decide ((c : Int) ≤ 57) = false by simp; omega])

/-- What both take for a name. -/
def NameP (s : ByteArray) : Prop := 1 ≤ s.size ∧ s.size ≤ 24 ∧ ∀ i c, s.data.toList[i]? = some c → letterP c.toNat ∨ (i ≠ 0 ∧ (digitP c.toNat ∨ c.toNat = 95))
noncomputable def nameR (s : ByteArray) : Bool := @decide (NameP s) (Classical.propDecidable _)
theorem nameR_no {s : ByteArray} (h : ¬ NameP s) : nameR s = false := by unfold nameR; exact @decide_eq_false _ (Classical.propDecidable _) h
theorem nameR_yes {s : ByteArray} (h : NameP s) : nameR s = true := by unfold nameR; exact @decide_eq_true _ (Classical.propDecidable _) h

set_option maxRecDepth 100000 in
theorem name_any (s : ByteArray) (w : World) (hm : s.size ≤ 1000000) :
    Calls Tryd.prog 42 #[.string s] w fun e w' => e = .returned (.bool (nameR s)) ∧ Below w.heap.size w w' := by
  obtain ⟨L, hL⟩ : ∃ L, s.size = L := ⟨_, rfl⟩
  by_cases h0 : L < 1 ∨ 24 < L
  · rw [nameR_no (fun h => by have := h.1; have := h.2.1; omega)]
    rcases h0 with h0 | h0
    · go_enter Tryd.func42, Tryd.ntmps42
      go_wp2
      go_ret
      exact ⟨rfl, Below.refl _ _⟩
    · have h1 : 1 ≤ L := by omega
      go_enter Tryd.func42, Tryd.ntmps42
      go_wp2
      go_ret
      exact ⟨rfl, Below.refl _ _⟩
  have h1 : 1 ≤ L := by omega
  have h2 : L ≤ 24 := by omega
  clear h0
  obtain ⟨c0, hc0⟩ : ∃ c : UInt8, s[0]'(by omega) = c := ⟨_, rfl⟩
  have hd0 : s.data.toList[0]? = some c0 := by rw [Lib.data_getElem? s 0 (by omega), hc0]
  have H1 := Lib.hid (fun W => letter_any c0.toNat W)
  by_cases hl0 : letterP c0.toNat
  · rw [decide_eq_true hl0] at H1
    have HL0 := Lib.hid (And.intro hl0 hd0)
    clear hl0 hd0
    go_enter Tryd.func42, Tryd.ntmps42
    go_wp2_with (go_at_call 49; (with_reducible refine (H1.out _).mono ?_); rintro e w' ⟨rfl, rfl⟩)
    go_loopw [21] (fun vi wr => ∃ k : Nat, vi = .int .i64 k ∧ k ≤ L ∧ Hid (∀ i c, i < k → s.data.toList[i]? = some c → letterP c.toNat ∨ (digitP c.toNat ∨ c.toNat = 95)) ∧ w = wr) (fun vi _ => L - (intOf vi).toNat)
    case atStart => exact ⟨0, rfl, by omega, Lib.hid (fun i c h => absurd h (by omega)), rfl⟩
    case round =>
      obtain ⟨k, rfl, hk, HK, rfl⟩ := hrel
      by_cases hlt : k < L
      · obtain ⟨c, hc⟩ : ∃ c : UInt8, s[k]'(by omega) = c := ⟨_, rfl⟩
        have hd : s.data.toList[k]? = some c := by rw [Lib.data_getElem? s k (by omega), hc]
        have HD := Lib.hid hd
        have HL := Lib.hid (fun W => letter_any c.toNat W)
        have HG := Lib.hid (fun W => digit_any c.toNat W)
        clear hd
        by_cases hbad : ¬ letterP c.toNat ∧ ¬ digitP c.toNat ∧ c.toNat ≠ 95
        · obtain ⟨b1, b2, b3⟩ := hbad
          rw [decide_eq_false b1] at HL
          rw [decide_eq_false b2] at HG
          have hne : ((c.toNat : Int) != 95) = true := by simp; omega
          have HV := Lib.hid (nameR_no (s := s) (fun h => by rcases h.2.2 k c HD.out with h | ⟨_, h | h⟩; exact b1 h; exact b2 h; exact b3 h))
          clear b1 b2 b3
          go_wp2_with (first
            | (go_at_call 49; (with_reducible refine (HL.out _).mono ?_); rintro e w' ⟨rfl, rfl⟩)
            | (go_at_call 50; (with_reducible refine (HG.out _).mono ?_); rintro e w' ⟨rfl, rfl⟩))
          go_ret
          exact ⟨by rw [HV.out]; rfl, Below.refl _ _⟩
        · have hgood : letterP c.toNat ∨ (digitP c.toNat ∨ c.toNat = 95) := by
            by_cases q1 : letterP c.toNat
            · exact Or.inl q1
            · by_cases q2 : digitP c.toNat
              · exact Or.inr (Or.inl q2)
              · exact Or.inr (Or.inr (by by_cases q3 : c.toNat = 95; exact q3; exact absurd ⟨q1, q2, q3⟩ hbad))
          have HN : Hid (∀ i c, i < k + 1 → s.data.toList[i]? = some c → letterP c.toNat ∨ (digitP c.toNat ∨ c.toNat = 95)) := Lib.hid fun i c' hi he => by
            by_cases hik : i < k
            · exact HK.out i c' hik he
            · obtain rfl : i = k := by omega
              rw [HD.out] at he
              cases he
              exact hgood
          clear hbad
          by_cases q1 : letterP c.toNat
          · rw [decide_eq_true q1] at HL
            clear hgood q1
            go_wp2_with (go_at_call 49; (with_reducible refine (HL.out _).mono ?_); rintro e w' ⟨rfl, rfl⟩)
            go_roundw
            case rel => exact ⟨k + 1, by first | rfl | (rw [wrap64_small _ (by omega) (by omega)]; rfl), by omega, HN, by first | rfl | trivial⟩
            case measure => (try rw [wrap64_small _ (by omega) (by omega)]); simp only [intOf]; omega
          · rw [decide_eq_false q1] at HL
            by_cases q2 : digitP c.toNat
            · rw [decide_eq_true q2] at HG
              clear hgood q1 q2
              go_wp2_with (first
                | (go_at_call 49; (with_reducible refine (HL.out _).mono ?_); rintro e w' ⟨rfl, rfl⟩)
                | (go_at_call 50; (with_reducible refine (HG.out _).mono ?_); rintro e w' ⟨rfl, rfl⟩))
              go_roundw
              case rel => exact ⟨k + 1, by first | rfl | (rw [wrap64_small _ (by omega) (by omega)]; rfl), by omega, HN, by first | rfl | trivial⟩
              case measure => (try rw [wrap64_small _ (by omega) (by omega)]); simp only [intOf]; omega
            · rw [decide_eq_false q2] at HG
              have q3 : c.toNat = 95 := by rcases hgood with h | h | h; exact absurd h q1; exact absurd h q2; exact h
              have hne : ((c.toNat : Int) != 95) = false := by rw [q3]; rfl
              clear hgood q1 q2 q3
              go_wp2_with (first
                | (go_at_call 49; (with_reducible refine (HL.out _).mono ?_); rintro e w' ⟨rfl, rfl⟩)
                | (go_at_call 50; (with_reducible refine (HG.out _).mono ?_); rintro e w' ⟨rfl, rfl⟩))
              go_roundw
              case rel => exact ⟨k + 1, by first | rfl | (rw [wrap64_small _ (by omega) (by omega)]; rfl), by omega, HN, by first | rfl | trivial⟩
              case measure => (try rw [wrap64_small _ (by omega) (by omega)]); simp only [intOf]; omega
      · obtain rfl : k = L := by omega
        have hyes : NameP s := ⟨by omega, by omega, fun i c he => by
          have hi : i < s.size := by
            have := (List.getElem?_eq_some_iff.1 he).1
            exact this
          rcases HK.out i c (by omega) he with h | h
          · exact Or.inl h
          · by_cases hi0 : i = 0
            · subst hi0
              rw [HL0.out.2] at he
              cases he
              exact Or.inl HL0.out.1
            · exact Or.inr ⟨hi0, h⟩⟩
        have HV := Lib.hid (nameR_yes hyes)
        clear hyes
        go_wp2
        go_ret
        exact ⟨by rw [HV.out]; rfl, Below.refl _ _⟩
  · rw [decide_eq_false hl0] at H1
    rw [nameR_no (fun h => by rcases h.2.2 0 c0 hd0 with h | h; exact hl0 h; exact h.1 rfl)]
    clear hl0 hd0
    go_enter Tryd.func42, Tryd.ntmps42
    go_wp2_with (go_at_call 49; (with_reducible refine (H1.out _).mono ?_); rintro e w' ⟨rfl, rfl⟩)
    go_ret
    exact ⟨rfl, Below.refl _ _⟩
end Go.Proofs.YtejjbbgompddeaaDoor
