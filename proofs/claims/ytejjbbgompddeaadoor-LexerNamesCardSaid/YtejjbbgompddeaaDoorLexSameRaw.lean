/- The reference's comparison of tokens without places, where they are the same: lists that came in or were made. -/
import Derived.Test.YtejjbbgompddeaaDoorLexOpen
import Derived.Test.YtejjbbgompddeaaDoorLexGap
namespace Go.Proofs.YtejjbbgompddeaaDoor
open Go.RowKit
set_option linter.unusedVariables false
set_option linter.unusedSimpArgs false

/-- The same but for the places. -/
def SameQ (L L' : List Raw) : Prop := L.length = L'.length ∧ ∀ (i : Nat) (y y' : Raw), L[i]? = some y → L'[i]? = some y' → y.k = y'.k ∧ y.t = y'.t ∧ y.n = y'.n
/-- A token with its place, as a value. -/
def rawT (y : Tk × Nat) : Raw := ⟨(y.1.k : Nat), ⟨y.1.t.toArray⟩, y.1.n, (y.2 : Nat)⟩
theorem rawAt_toks {w : World} {A : Option Addr} {L : List (Tk × Nat)} (h : ToksAt w A L) : RawAt w A (L.map rawT) := by
  intro i y hy
  rw [List.getElem?_map] at hy
  cases hz : L[i]? with
  | none => rw [hz] at hy; cases hy
  | some z =>
    rw [hz] at hy
    obtain rfl := Option.some.inj hy
    obtain ⟨g, e, hg, h0, h1, h2, h3⟩ := h i z hz
    exact ⟨g, 0, e, hg, by rw [Nat.zero_add]; exact h0, by rw [Nat.zero_add]; exact h1, by rw [Nat.zero_add]; exact h2, by rw [Nat.zero_add]; exact h3⟩

set_option maxHeartbeats 4000000 in
set_option maxRecDepth 100000 in
theorem sameRaw (A A' : Option Addr) (c c' : Nat) (L L' : List Raw) (w : World) (hA : RawAt w A L) (hA' : RawAt w A' L') (hs : SameQ L L') (hlen : L.length ≤ 100000) :
    Calls Tryd.prog 30 #[.slice A L.length c, .slice A' L'.length c', .bool false] w fun e w' => e = .returned (.bool true) ∧ Below w.heap.size w w' := by
  have HA := Lib.hid hA
  have HA' := Lib.hid hA'
  have HS := Lib.hid hs.2
  rw [← hs.1]
  clear hA hA'
  obtain ⟨n, hn⟩ : ∃ n, L.length = n := ⟨_, rfl⟩
  have HN := Lib.hid (And.intro hn (hs.1.symm.trans hn))
  rw [hn] at hlen ⊢
  clear hs hn
  go_enter Tryd.func30, Tryd.ntmps30
  go_wp2
  go_loopw [7] (fun v wx => ∃ i : Nat, v = .int .i64 i ∧ i ≤ n ∧ Below w.heap.size w wx) (fun v _ => n - (intOf v).toNat)
  case atStart => exact ⟨0, rfl, by omega, Below.refl _ _⟩
  case round =>
    obtain ⟨i, rfl, hi, hb⟩ := hrel
    have HB := Lib.hid hb
    clear hb
    by_cases hlt : i < n
    · obtain ⟨y, hy⟩ : ∃ y, L[i]? = some y := ⟨_, List.getElem?_eq_getElem (by rw [HN.out.1]; exact hlt)⟩
      obtain ⟨y', hy'⟩ : ∃ y', L'[i]? = some y' := ⟨_, List.getElem?_eq_getElem (by rw [HN.out.2]; exact hlt)⟩
      obtain ⟨e1, e2, e3⟩ := HS.out i y y' hy hy'
      obtain ⟨g, o, rfl, hg, t0, t1, t2, t3⟩ := (HA.out.below HB.out) i y hy
      obtain ⟨g', o', rfl, hg', u0, u1, u2, u3⟩ := (HA'.out.below HB.out) i y' hy'
      rw [← e1] at u0
      rw [← e2] at u1
      rw [← e3] at u2
      obtain ⟨k, hk⟩ : ∃ k : Int, y.k = k := ⟨_, rfl⟩
      obtain ⟨T, hT⟩ : ∃ T : ByteArray, y.t = T := ⟨_, rfl⟩
      obtain ⟨m, hm⟩ : ∃ m : Int, y.n = m := ⟨_, rfl⟩
      rw [hk] at t0 u0
      rw [hT] at t1 u1
      rw [hm] at t2 u2
      have b1 : (k != k) = false := by simp
      have b2 : (m != m) = false := by simp
      have z1 : (i : Int) + 1 ≤ 100000 := by omega
      have HL := Lib.hid hlt
      clear e1 e2 e3 hk hT hm hy hy'
      go_wp2
      go_quiet (fail)
      go_wp2
      go_roundw
      case rel => exact ⟨i + 1, by first | rfl | go_num | (congr 1), by have := HL.out; omega, HB.out.trans (⟨rfl, rfl, rfl, Nat.le_refl _, fun _ _ => rfl⟩)⟩
      case measure => simp only [intOf]; have := HL.out; omega
    · obtain rfl : i = n := by omega
      go_wp2
      go_ret
      exact ⟨rfl, HB.out⟩
end Go.Proofs.YtejjbbgompddeaaDoor
