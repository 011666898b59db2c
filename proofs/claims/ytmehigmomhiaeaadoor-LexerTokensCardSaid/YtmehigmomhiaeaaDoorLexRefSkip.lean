/- The reference's skip. -/
import Derived.Test.YtmehigmomhiaeaaDoorLexRefByte
import Derived.Test.YtmehigmomhiaeaaDoorLexSkip
namespace Go.Proofs.YtmehigmomhiaeaaDoor
open Go.RowKit
set_option linter.unusedVariables false
set_option linter.unusedSimpArgs false

theorem up_yes {l : List UInt8} {i : Nat} {c b : UInt8} (h : l[i]? = some c) (hc : c ≠ b) : upN (l.drop i) b = upN (l.drop (i + 1)) b + 1 := by
  obtain ⟨h1, h2⟩ := List.getElem?_eq_some_iff.1 h
  unfold upN
  rw [List.drop_eq_getElem_cons h1, h2, List.takeWhile_cons, if_pos (by simpa using hc)]
  rfl
theorem up_no {l : List UInt8} {i : Nat} {b : UInt8} (h : l[i]? = some b) : upN (l.drop i) b = 0 := by
  obtain ⟨h1, h2⟩ := List.getElem?_eq_some_iff.1 h
  unfold upN
  rw [List.drop_eq_getElem_cons h1, h2, List.takeWhile_cons, if_neg (by simp)]
  rfl
theorem up_out {l : List UInt8} {i : Nat} (b : UInt8) (h : l.length ≤ i) : upN (l.drop i) b = 0 := by
  rw [List.drop_of_length_le h]; rfl
theorem sk_space {l : List UInt8} {i : Nat} (h : l[i]? = some 32) : skipN (l.drop i) = skipN (l.drop (i + 1)) + 1 := by
  obtain ⟨h1, h2⟩ := List.getElem?_eq_some_iff.1 h
  rw [List.drop_eq_getElem_cons h1, h2]
  conv => lhs; unfold skipN
  rw [if_pos rfl]
theorem sk_remark {l : List UInt8} {i : Nat} (h : l[i]? = some 35) : skipN (l.drop i) = upN (l.drop i) 10 := by
  rw [up_yes h (by decide)]
  obtain ⟨h1, h2⟩ := List.getElem?_eq_some_iff.1 h
  rw [List.drop_eq_getElem_cons h1, h2]
  conv => lhs; unfold skipN
  rw [if_neg (by decide), if_pos rfl]
  rfl
theorem sk_else {l : List UInt8} {i : Nat} {c : UInt8} (h : l[i]? = some c) (h1 : c ≠ 32) (h2 : c ≠ 35) : skipN (l.drop i) = 0 := by
  obtain ⟨g1, g2⟩ := List.getElem?_eq_some_iff.1 h
  rw [List.drop_eq_getElem_cons g1, g2]
  unfold skipN
  rw [if_neg h1, if_neg h2]
theorem sk_out {l : List UInt8} {i : Nat} (h : l.length ≤ i) : skipN (l.drop i) = 0 := by
  rw [List.drop_of_length_le h]; rfl
theorem byte_ne {c : UInt8} {n : Nat} (h : c ≠ UInt8.ofNat n) (hn : n < 256) : ((c.toNat : Int) == (n : Int)) = false := by
  simp only [beq_eq_false_iff_ne]
  intro e
  apply h
  apply UInt8.toNat_inj.1
  simp
  omega

set_option maxHeartbeats 1000000 in
set_option maxRecDepth 100000 in
theorem refSkip_any (s : ByteArray) (a : Nat) (w : World) (hs : s.size ≤ 999999) (ha : a ≤ s.size) :
    Calls Tryd.prog 32 #[.string s, .int .i64 a] w fun e w' => e = .returned (.int .i64 (a + skipN (s.data.toList.drop a) : Nat)) ∧ w = w' := by
  obtain ⟨R, hR⟩ : ∃ R, a + skipN (s.data.toList.drop a) = R := ⟨_, rfl⟩
  rw [hR]
  have HR := Lib.hid hR.symm
  clear hR
  go_enter Tryd.func32, Tryd.ntmps32
  go_wp2
  have hl : s.data.toList.length = s.size := rfl
  have HZ := Lib.hid (And.intro hs (And.intro ha hl))
  obtain ⟨L, hL⟩ : ∃ L, s.size = L := ⟨_, rfl⟩
  have HLL := Lib.hid hL
  have hL9 : L ≤ 999999 := by omega
  clear hs ha hl
  go_loop [1] (fun v => ∃ x : Nat, v = .int .i64 x ∧ x ≤ L ∧ Hid (R = x + skipN (s.data.toList.drop x))) (fun v => L - (intOf v).toNat)
  case atStart => exact ⟨a, rfl, by have := HZ.out; omega, HR⟩
  case round =>
    obtain ⟨x, rfl, hx, HK⟩ := hrel
    by_cases hlt : x < L
    · obtain ⟨c, hc⟩ : ∃ c : UInt8, s[x]'(by omega) = c := ⟨_, rfl⟩
      have HD := Lib.hid (show s.data.toList[x]? = some c by rw [Lib.data_getElem? s x (by omega), hc])
      by_cases h32 : c = 32
      · subst h32
        have HN := Lib.hid (show R = (x + 1) + skipN (s.data.toList.drop (x + 1)) by rw [HK.out, sk_space HD.out]; omega)
        go_wp2
        go_round
        case rel => exact ⟨x + 1, by go_num, by omega, HN⟩
        case measure => simp only [intOf]; omega
      have n32 : ((c.toNat : Int) == 32) = false := byte_ne (n := 32) h32 (by decide)
      by_cases h35 : c = 35
      · subst h35
        have HU := Lib.hid (show R = x + upN (s.data.toList.drop x) 10 by rw [HK.out, sk_remark HD.out])
        clear HK HD
        go_wp2
        have hx' := hx
        clear hc hlt hx
        go_loop [1] (fun v => ∃ y : Nat, v = .int .i64 y ∧ y ≤ L ∧ Hid (R = y + upN (s.data.toList.drop y) 10)) (fun v => L - (intOf v).toNat)
        case atStart => exact ⟨x, rfl, hx', HU⟩
        case round =>
          obtain ⟨y, rfl, hy, HK⟩ := hrel
          by_cases hlt : y < L
          · obtain ⟨c, hc⟩ : ∃ c : UInt8, s[y]'(by omega) = c := ⟨_, rfl⟩
            have HD := Lib.hid (show s.data.toList[y]? = some c by rw [Lib.data_getElem? s y (by omega), hc])
            by_cases h10 : c = 10
            · subst h10
              have HE := Lib.hid (show R = y by rw [HK.out, up_no HD.out]; rfl)
              go_wp2
              go_ret
              exact ⟨by rw [HE.out]; rfl, rfl⟩
            · have n10 : ((c.toNat : Int) == 10) = false := byte_ne (n := 10) h10 (by decide)
              have HN := Lib.hid (show R = (y + 1) + upN (s.data.toList.drop (y + 1)) 10 by rw [HK.out, up_yes HD.out h10]; omega)
              go_wp2
              go_round
              case rel => exact ⟨y + 1, by go_num, by omega, HN⟩
              case measure => simp only [intOf]; omega
          · have HE := Lib.hid (show R = y by rw [HK.out, up_out 10 (by have := HZ.out; have := HLL.out; omega)]; rfl)
            go_wp2
            go_ret
            exact ⟨by rw [HE.out]; rfl, rfl⟩
      · have n35 : ((c.toNat : Int) == 35) = false := byte_ne (n := 35) h35 (by decide)
        have HE := Lib.hid (show R = x by rw [HK.out, sk_else HD.out h32 h35]; rfl)
        go_wp2
        go_ret
        exact ⟨by rw [HE.out]; rfl, rfl⟩
    · have HE := Lib.hid (show R = x by rw [HK.out, sk_out (by have := HZ.out; have := HLL.out; omega)]; rfl)
      go_wp2
      go_ret
      exact ⟨by rw [HE.out]; rfl, rfl⟩
end Go.Proofs.YtmehigmomhiaeaaDoor
