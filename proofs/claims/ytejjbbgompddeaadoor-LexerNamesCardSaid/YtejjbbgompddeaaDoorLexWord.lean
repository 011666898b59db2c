/- Words, printable texts: contracts of continues, word, isPrintable of package lexer. -/
import Derived.Test.YtejjbbgompddeaaDoorLexClass
namespace Go.Proofs.YtejjbbgompddeaaDoor
open Go.RowKit
set_option linter.unusedVariables false
set_option linter.unusedSimpArgs false

def contI (l : List UInt8) (i : Nat) : Bool := clsI l i == 3 || clsI l i == 4 || clsI l i == 5
/-- How many bytes of a word stand from a place on. -/
def wn (l : List UInt8) (i : Nat) : Nat := ((l.drop i).takeWhile isW).length
theorem cont_at {l : List UInt8} {i : Nat} {c : UInt8} (h : l[i]? = some c) : contI l i = isW c := by simp [contI, isW, clsI, h]
theorem cont_out {l : List UInt8} {i : Nat} (h : l.length ≤ i) : contI l i = false := by simp [contI, clsI_out h]
theorem wn_yes {l : List UInt8} {i : Nat} (h : contI l i = true) : wn l i = wn l (i + 1) + 1 ∧ i < l.length := by
  have hi : i < l.length := by
    rcases Nat.lt_or_ge i l.length with h' | h'
    · exact h'
    · rw [cont_out h'] at h; cases h
  refine ⟨?_, hi⟩
  rw [cont_at (List.getElem?_eq_getElem hi)] at h
  unfold wn
  rw [List.drop_eq_getElem_cons hi, List.takeWhile_cons, if_pos h]
  simp
theorem wn_no {l : List UInt8} {i : Nat} (h : contI l i = false) : wn l i = 0 := by
  unfold wn
  rcases Nat.lt_or_ge i l.length with h' | h'
  · rw [cont_at (List.getElem?_eq_getElem h')] at h
    rw [List.drop_eq_getElem_cons h', List.takeWhile_cons, if_neg (by simp [h])]
    rfl
  · rw [List.drop_of_length_le h']; rfl
theorem wn_le (l : List UInt8) (i : Nat) : i + wn l i ≤ max i l.length := by
  have := takeWhile_le isW (l.drop i)
  simp only [List.length_drop] at this
  unfold wn; omega

set_option maxRecDepth 100000 in
theorem continues_any (r i a : Nat) (m : Option Nat) (bs : ByteArray) (w : World) (hr : RdAt w r bs a m) (hT : ClsAt w) (hbs : bs.size ≤ 1000000) (hi : i ≤ 1000000) :
    Calls Tryd.prog 48 #[.pointer (some ⟨r, 0, none⟩), .int .i64 i] w fun e w' => e = .returned (.bool (contI bs.data.toList i)) ∧ w = w' := by
  have HC := Lib.hid (class_any r i a m bs w hr hT hbs hi)
  obtain ⟨p, hp⟩ : ∃ p, contI bs.data.toList i = p := ⟨_, rfl⟩
  rw [hp]
  unfold contI at hp
  obtain ⟨q, hq⟩ : ∃ q, clsI bs.data.toList i = q := ⟨_, rfl⟩
  rw [hq] at hp HC
  clear hr hT hq
  by_cases h3 : q = 3
  · subst h3
    subst hp
    go_enter Tryd.func48, Tryd.ntmps48
    go_wp2_with (go_at_call 37; (with_reducible refine HC.out.mono ?_); rintro e w' ⟨rfl, rfl⟩)
    go_ret
    exact ⟨rfl, rfl⟩
  have n3 : ((q : Int) == 3) = false := by simp; omega
  by_cases h4 : q = 4
  · subst h4
    subst hp
    go_enter Tryd.func48, Tryd.ntmps48
    go_wp2_with (go_at_call 37; (with_reducible refine HC.out.mono ?_); rintro e w' ⟨rfl, rfl⟩)
    go_ret
    exact ⟨rfl, rfl⟩
  have n4 : ((q : Int) == 4) = false := by simp; omega
  have t3 : (q == 3) = false := by simpa using h3
  have t4 : (q == 4) = false := by simpa using h4
  have e : p = (((q : Nat) : Int) == 5) := by
    rw [← hp, t3, t4]
    by_cases h5 : q = 5
    · subst h5; rfl
    · have t5 : (q == 5) = false := by simpa using h5
      have t6 : ((q : Int) == 5) = false := by simp; omega
      rw [t5, t6]; rfl
  clear t3 t4
  clear hp h3 h4
  subst e
  go_enter Tryd.func48, Tryd.ntmps48
  go_wp2_with (go_at_call 37; (with_reducible refine HC.out.mono ?_); rintro e w' ⟨rfl, rfl⟩)
  go_ret
  exact ⟨rfl, rfl⟩

set_option maxRecDepth 100000 in
theorem word_any (r a : Nat) (m : Option Nat) (bs : ByteArray) (w : World) (hr : RdAt w r bs a m) (hT : ClsAt w) (hbs : bs.size ≤ 999999) (ha : a < bs.size) :
    Calls Tryd.prog 41 #[.pointer (some ⟨r, 0, none⟩)] w fun e w' => e = .returned (.string (bs.extract a (a + 1 + wn bs.data.toList (a + 1)))) ∧ Below w.heap.size w w' := by
  have hl : bs.data.toList.length = bs.size := rfl
  have HC := Lib.hid (fun (i : Nat) (h : i ≤ 1000000) => continues_any r i a m bs w hr hT (by omega) h)
  have c0 := hr.c0
  have c1 := hr.c1
  have HB := Lib.hid (And.intro hbs (And.intro ha hl))
  have a1 : (a : Int) ≤ 1000000 := by omega
  clear hr hT hbs hl
  go_enter Tryd.func41, Tryd.ntmps41
  go_wp2
  go_loop [3] (fun v => ∃ k : Nat, v = .int .i64 (a + 1 + k : Nat) ∧ Hid (wn bs.data.toList (a + 1) = k + wn bs.data.toList (a + 1 + k) ∧ a + 1 + k ≤ bs.size)) (fun v => bs.size - (intOf v).toNat)
  case atStart => exact ⟨0, by first | rfl | (simp; done), Lib.hid ⟨by simp, by omega⟩⟩
  case round =>
    obtain ⟨k, rfl, HK⟩ := hrel
    obtain ⟨hk1, hk2⟩ := HK.out
    obtain ⟨hb1, hb2, hb3⟩ := HB.out
    obtain ⟨x, hx⟩ : ∃ x, x = a + 1 + k := ⟨_, rfl⟩
    have HX := Lib.hid hx
    rw [← hx] at hk1 hk2 ⊢
    have x1 : (x : Int) ≤ 1000000 := by omega
    have HC2 := Lib.hid (HC.out x (by omega))
    obtain ⟨p, hp⟩ : ∃ p, contI bs.data.toList x = p := ⟨_, rfl⟩
    rw [hp] at HC2
    cases p with
    | true =>
      obtain ⟨h1, h2⟩ := wn_yes hp
      have HQ := Lib.hid (show wn bs.data.toList (a + 1) = (k + 1) + wn bs.data.toList (a + 1 + (k + 1)) ∧ a + 1 + (k + 1) ≤ bs.size from ⟨by rw [hk1, h1, show a + 1 + (k + 1) = x + 1 by omega]; omega, by omega⟩)
      have HM := Lib.hid (show bs.size - (x + 1) < bs.size - x by omega)
      clear hk1 hk2 hb1 hb2 hb3 hp h1 h2 hx
      go_wp2_with (go_at_call 48; (with_reducible refine HC2.out.mono ?_); rintro e w' ⟨rfl, rfl⟩)
      go_round
      case rel => exact ⟨k + 1, by have := HX.out; go_num, HQ⟩
      case measure => have := HM.out; simp only [intOf]; omega
    | false =>
      have h0 := wn_no hp
      have z1 : (x : Int) ≤ (bs.size : Int) := by omega
      have z2 : (a : Int) ≤ (x : Int) := by omega
      have HE := Lib.hid (show bs.extract a (a + 1 + wn bs.data.toList (a + 1)) = bs.extract a x by rw [hk1, h0, hx]; congr 1)
      clear hk1 hk2 hb1 hb2 hb3 hp h0 hx
      go_wp2_with (go_at_call 48; (with_reducible refine HC2.out.mono ?_); rintro e w' ⟨rfl, rfl⟩)
      go_quiet (fail)
      go_wp2
      go_ret
      exact ⟨by rw [HE.out]; rfl, ⟨rfl, rfl, rfl, Nat.le_refl _, fun _ _ => rfl⟩⟩

def prnAll (l : List UInt8) : Bool := l.all prn
set_option maxRecDepth 100000 in
theorem printable_any (s : ByteArray) (w : World) (hs : s.size ≤ 1000000) :
    Calls Tryd.prog 44 #[.string s] w fun e w' => e = .returned (.bool (prnAll s.data.toList)) ∧ w = w' := by
  have hl : s.data.toList.length = s.size := rfl
  have HL := Lib.hid hl
  clear hl
  obtain ⟨L, hL⟩ : ∃ L, s.size = L := ⟨_, rfl⟩
  go_enter Tryd.func44, Tryd.ntmps44
  go_wp2
  go_loop [6] (fun v => ∃ k : Nat, v = .int .i64 k ∧ k ≤ L ∧ Hid (prnAll s.data.toList = prnAll (s.data.toList.drop k))) (fun v => L - (intOf v).toNat)
  case atStart => exact ⟨0, rfl, by omega, Lib.hid (by rw [List.drop_zero])⟩
  case round =>
    obtain ⟨k, rfl, hk, HK⟩ := hrel
    by_cases hlt : k < L
    · have hib : k < s.size := by omega
      obtain ⟨c, hc⟩ : ∃ c : UInt8, s[k]'hib = c := ⟨_, rfl⟩
      have hd : s.data.toList.drop k = c :: s.data.toList.drop (k + 1) := by
        have : s.data.toList[k]? = some c := by rw [Lib.data_getElem? s k hib, hc]
        obtain ⟨h1, h2⟩ := List.getElem?_eq_some_iff.1 this
        rw [List.drop_eq_getElem_cons h1, h2]
      have HD := Lib.hid (show prnAll s.data.toList = (prn c && prnAll (s.data.toList.drop (k + 1))) by rw [HK.out, hd]; rfl)
      have h255 : (c.toNat : Int) ≤ 255 := by have := c.toNat_lt; omega
      clear hd HK
      by_cases h32 : c.toNat < 32
      · have hp : Hid (prn c = false) := Lib.hid (by unfold prn; simp; omega)
        have g1 : (c.toNat : Int) < 32 := by omega
        go_wp2
        go_ret
        exact ⟨by rw [HD.out, hp.out]; rfl, rfl⟩
      · by_cases h126 : 126 < c.toNat
        · have hp : Hid (prn c = false) := Lib.hid (by unfold prn; simp; omega)
          have g1 : ¬ (c.toNat : Int) < 32 := by omega
          have g2 : (126 : Int) < (c.toNat : Int) := by omega
          go_wp2
          go_ret
          exact ⟨by rw [HD.out, hp.out]; rfl, rfl⟩
        · have hp : Hid (prn c = true) := Lib.hid (by unfold prn; simp; omega)
          have g1 : ¬ (c.toNat : Int) < 32 := by omega
          have g2 : ¬ (126 : Int) < (c.toNat : Int) := by omega
          go_wp2
          go_round
          case rel => exact ⟨k + 1, by go_num, by omega, Lib.hid (by rw [HD.out, hp.out]; rfl)⟩
          case measure => simp only [intOf]; omega
    · obtain rfl : k = L := by omega
      have HE := Lib.hid (show prnAll s.data.toList = true by rw [HK.out, List.drop_of_length_le (by have := HL.out; omega)]; rfl)
      go_wp2
      go_ret
      exact ⟨by rw [HE.out]; rfl, rfl⟩
end Go.Proofs.YtejjbbgompddeaaDoor
