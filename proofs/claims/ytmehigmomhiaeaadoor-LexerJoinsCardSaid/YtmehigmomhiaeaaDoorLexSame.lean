/- The reference's comparison of tokens, where they are the same. -/
import Derived.Test.YtmehigmomhiaeaaDoorLexGap
namespace Go.Proofs.YtmehigmomhiaeaaDoor
open Go.RowKit
set_option linter.unusedVariables false
set_option linter.unusedSimpArgs false

/-- Two lists of tokens, the same; with places too if q. -/
def SameP (q : Bool) (L L' : List (Tk × Nat)) : Prop := L.length = L'.length ∧ ∀ (i : Nat) (y y' : Tk × Nat), L[i]? = some y → L'[i]? = some y' → y.1 = y'.1 ∧ (q = true → y.2 = y'.2)

set_option maxHeartbeats 4000000 in
set_option maxRecDepth 100000 in
theorem same_yes (A A' : Option Addr) (c c' : Nat) (q : Bool) (L L' : List (Tk × Nat)) (w : World) (hA : ToksAt w A L) (hA' : ToksAt w A' L') (hs : SameP q L L') (hlen : L.length ≤ 100000) :
    Calls Tryd.prog 13 #[.slice A L.length c, .slice A' L'.length c', .bool q] w fun e w' => e = .returned (.bool true) ∧ Below w.heap.size w w' := by
  have HA := Lib.hid hA
  have HA' := Lib.hid hA'
  have HS := Lib.hid hs.2
  rw [← hs.1]
  clear hA hA'
  obtain ⟨n, hn⟩ : ∃ n, L.length = n := ⟨_, rfl⟩
  have HN := Lib.hid (And.intro hn (hs.1.symm.trans hn))
  rw [hn] at hlen ⊢
  clear hs hn
  go_enter Tryd.func13, Tryd.ntmps13
  go_wp2
  go_loopw [7] (fun v wx => ∃ i : Nat, v = .int .i64 i ∧ i ≤ n ∧ Below w.heap.size w wx) (fun v _ => n - (intOf v).toNat)
  case atStart => exact ⟨0, rfl, by omega, Below.refl _ _⟩
  case round =>
    obtain ⟨i, rfl, hi, hb⟩ := hrel
    have HB := Lib.hid hb
    clear hb
    by_cases hlt : i < n
    · obtain ⟨y, hy⟩ : ∃ y, L[i]? = some y := ⟨_, List.getElem?_eq_getElem (by rw [HN.out.1]; exact hlt)⟩
      obtain ⟨y', hy'⟩ : ∃ y', L'[i]? = some y' := ⟨_, List.getElem?_eq_getElem (by rw [HN.out.2]; exact hlt)⟩
      obtain ⟨e1, e2⟩ := HS.out i y y' hy hy'
      obtain ⟨g, rfl, hg, t0, t1, t2, t3⟩ := (HA.out.below HB.out) i y hy
      obtain ⟨g', rfl, hg', u0, u1, u2, u3⟩ := (HA'.out.below HB.out) i y' hy'
      rw [← e1] at u0 u1 u2
      obtain ⟨k, hk⟩ : ∃ k : Int, ((y.1.k : Nat) : Int) = k := ⟨_, rfl⟩
      obtain ⟨T, hT⟩ : ∃ T : ByteArray, (⟨y.1.t.toArray⟩ : ByteArray) = T := ⟨_, rfl⟩
      obtain ⟨m, hm⟩ : ∃ m : Int, y.1.n = m := ⟨_, rfl⟩
      rw [hk] at t0 u0
      rw [hT] at t1 u1
      rw [hm] at t2 u2
      have b1 : (k != k) = false := by simp
      have b2 : (m != m) = false := by simp
      have z1 : (i : Int) + 1 ≤ 100000 := by omega
      have HL := Lib.hid hlt
      cases q with
      | false =>
        clear e1 e2 hk hT hm hy hy'
        go_wp2
        go_quiet (fail)
        go_wp2
        go_roundw
        case rel => exact ⟨i + 1, by first | rfl | go_num | (congr 1), by have := HL.out; omega, HB.out.trans (⟨rfl, rfl, rfl, Nat.le_refl _, fun _ _ => rfl⟩)⟩
        case measure => simp only [intOf]; have := HL.out; omega
      | true =>
        have e3 := e2 rfl
        rw [← e3] at u3
        obtain ⟨p, hp⟩ : ∃ p : Int, ((y.2 : Nat) : Int) = p := ⟨_, rfl⟩
        rw [hp] at t3 u3
        have b3 : (p != p) = false := by simp
        clear e1 e2 e3 hk hT hm hp hy hy'
        go_wp2
        go_quiet (fail)
        go_wp2
        go_roundw
        case rel => exact ⟨i + 1, by first | rfl | go_num | (congr 1), by have := HL.out; omega, HB.out.trans (⟨rfl, rfl, rfl, Nat.le_refl _, fun _ _ => rfl⟩)⟩
        case measure => simp only [intOf]; have := HL.out; omega
    · obtain rfl : i = n := by omega
      go_wp2
      go_ret
      exact ⟨rfl, HB.out⟩
end Go.Proofs.YtmehigmomhiaeaaDoor
