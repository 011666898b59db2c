/- The reference's next: texts. -/
import Derived.Test.YtmehigmomhiaeaaDoorLexRefNext
namespace Go.Proofs.YtmehigmomhiaeaaDoor
open Go.RowKit
set_option linter.unusedVariables false
set_option linter.unusedSimpArgs false

theorem tb_split {t : List UInt8} {k : Nat} (h : ∀ b ∈ t.take k, b ≠ 34) : textB3 t = t.take k ++ textB3 (t.drop k) := by
  unfold textB3
  conv => lhs; rw [← List.take_append_drop k t]
  exact List.takeWhile_append_of_pos (fun b hb => by simpa using h b hb)
theorem text_yes {t : List UInt8} {k : Nat} (h : ∀ b ∈ t.take k, b ≠ 34 ∧ prn b = true) (hk : t[k]? = some 34) : nextT (34 :: t) = some (⟨3, t.take k, 0⟩, k + 2) := by
  have h1 := tb_split (fun b hb => (h b hb).1)
  obtain ⟨g1, g2⟩ := List.getElem?_eq_some_iff.1 hk
  rw [List.drop_eq_getElem_cons g1, g2] at h1
  have h2 : textB3 (34 :: t.drop (k + 1)) = [] := by unfold textB3; rw [List.takeWhile_cons, if_neg (by decide)]
  rw [h2, List.append_nil] at h1
  have hl : (t.take k).length = k := by rw [List.length_take]; omega
  have hp : (t.take k).all prn = true := by rw [List.all_eq_true]; exact fun b hb => (h b hb).2
  simp only [nextT]
  rw [if_neg (by decide), if_neg (by decide), if_pos (by decide), h1, hl, if_pos (by rw [hp]; simp; omega)]
theorem text_no {t : List UInt8} {k : Nat} (h : ∀ b ∈ t.take k, b ≠ 34 ∧ prn b = true) (hk : t[k]? = none ∨ ∃ c, t[k]? = some c ∧ c ≠ 34 ∧ prn c = false) : nextT (34 :: t) = none := by
  have h1 := tb_split (fun b hb => (h b hb).1)
  simp only [nextT]
  rw [if_neg (by decide), if_neg (by decide), if_pos (by decide), if_neg]
  intro e
  simp only [Bool.and_eq_true, decide_eq_true_eq] at e
  rcases hk with hk | ⟨c, hk, hc, hp⟩
  · have hlen : t.length ≤ k := by simpa using hk
    rw [List.take_of_length_le hlen] at h1
    have := congrArg List.length h1
    rw [List.length_append] at this
    omega
  · obtain ⟨g1, g2⟩ := List.getElem?_eq_some_iff.1 hk
    rw [List.drop_eq_getElem_cons g1, g2] at h1
    have h2 : textB3 (c :: t.drop (k + 1)) = c :: textB3 (t.drop (k + 1)) := by unfold textB3; rw [List.takeWhile_cons, if_pos (by simpa using hc)]
    rw [h2] at h1
    rw [h1] at e
    have := List.all_eq_true.1 e.2 c (by simp)
    rw [hp] at this; cases this
theorem text_byte {l t : List UInt8} {a : Nat} {c : UInt8} (hd : l.drop a = c :: t) (k : Nat) : l[a + 1 + k]? = t[k]? := by
  have := congrArg (fun x : List UInt8 => x[k + 1]?) hd
  simp only [List.getElem?_drop, List.getElem?_cons_succ] at this
  rw [← this]; congr 1; omega
theorem text_take {s : ByteArray} {a k x : Nat} {c : UInt8} {t : List UInt8} (hd : s.data.toList.drop a = c :: t) (hx : x = a + 1 + k) : (s.extract (a + 1) x).data.toList = t.take k := by
  rw [Lib.extract_data, show x - (a + 1) = k by omega]
  have : s.data.toList.drop (a + 1) = t := by rw [← List.drop_drop, hd]; rfl
  rw [this]

set_option maxHeartbeats 2000000 in
set_option maxRecDepth 100000 in
theorem refNext_text (s : ByteArray) (a : Nat) (w : World) (hs : s.size ≤ 999999) (ha : a < s.size) (t : List UInt8) (hd : s.data.toList.drop a = 34 :: t) :
    Calls Tryd.prog 33 #[.string s, .int .i64 a] w fun e w' => NextGives (s.data.toList.drop a) a e ∧ Below w.heap.size w w' := by
  have hc := byte_at ha hd
  have HM : Hid (∀ W, Calls Tryd.prog 53 #[.int .u8 34] W fun e w' => e = .returned (.bool false) ∧ W = w') := Lib.hid (fun W => refMark_any 34 W (by decide))
  have hl : s.data.toList.length = s.size := rfl
  have HD := Lib.hid (And.intro hd hl)
  obtain ⟨L, hL⟩ : ∃ L, s.size = L := ⟨_, rfl⟩
  have HL := Lib.hid hL
  have L9 : L ≤ 999999 := by omega
  have aL : a < L := by omega
  clear hd hl hs
  go_enter Tryd.func33, Tryd.ntmps33
  go_wp2_with (go_at_call 53; (with_reducible refine (HM.out _).mono ?_); rintro e w' ⟨rfl, rfl⟩)
  clear hc
  go_loop [9] (fun v => ∃ x k : Nat, v = .int .i64 x ∧ x ≤ L ∧ a < x ∧ Hid (x = a + 1 + k ∧ ∀ b ∈ t.take k, b ≠ 34 ∧ prn b = true)) (fun v => L - (intOf v).toNat)
  case atStart => exact ⟨a + 1, 0, by first | rfl | (simp; done) | go_num, by omega, by omega, Lib.hid ⟨rfl, fun b hb => by cases hb⟩⟩
  case round =>
    obtain ⟨x, k, rfl, hx, hax, HK⟩ := hrel
    by_cases hlt : x < L
    · obtain ⟨d, hdd⟩ : ∃ d : UInt8, s[x]'(by omega) = d := ⟨_, rfl⟩
      have HDD := Lib.hid (show t[k]? = some d by rw [← text_byte HD.out.1 k, ← HK.out.1, Lib.data_getElem? s x (by omega), hdd])
      by_cases h34 : d = 34
      · subst h34
        have HX : Hid (NextGives (s.data.toList.drop a) a (.returned (.tuple #[.agg #[.int .u8 3, .string (s.extract (a + 1) x), .int .i64 0, .int .i64 (a : Nat)], .int .i64 ((x : Int) + 1), .bool true]))) :=
          Lib.hid (nextGives_some (by rw [HD.out.1]; exact text_yes HK.out.2 HDD.out) (text_take HD.out.1 HK.out.1) rfl rfl (by have := HK.out.1; omega))
        go_wp2
        exact bodyPost_ret (by simp [results, Tryd.results33, go_sem]) rfl ⟨HX.out, ((Below.refl _ _).alloc (Nat.le_refl _) _).alloc (by simp) _⟩
      · have n34 : ((d.toNat : Int) == 34) = false := byte_ne (n := 34) h34 (by decide)
        have m34 : ((d.toNat : Int) != 34) = true := by simp only [bne, n34]; rfl
        have xL : ((x : Int) == (L : Int)) = false := by simp only [beq_eq_false_iff_ne]; omega
        have d255 : (d.toNat : Int) ≤ 255 := by have := d.toNat_lt; omega
        have hp : prn d = (decide (32 ≤ d.toNat) && decide (d.toNat ≤ 126)) := rfl
        rcases (by omega : d.toNat < 32 ∨ 126 < d.toNat ∨ (32 ≤ d.toNat ∧ d.toNat ≤ 126)) with g | g | ⟨g, g'⟩
        · have HX := Lib.hid (nextGives_none (a := a) (l := s.data.toList.drop a) (by rw [HD.out.1]; exact text_no HK.out.2 (.inr ⟨d, HDD.out, h34, by rw [hp]; simp; omega⟩)))
          have g1 : (d.toNat : Int) < 32 := by omega
          clear hp
          go_wp2
          exact bodyPost_ret (by simp [results, Tryd.results33, go_sem]) rfl ⟨HX.out, ((Below.refl _ _).alloc (Nat.le_refl _) _).alloc (by simp) _⟩
        · have HX := Lib.hid (nextGives_none (a := a) (l := s.data.toList.drop a) (by rw [HD.out.1]; exact text_no HK.out.2 (.inr ⟨d, HDD.out, h34, by rw [hp]; simp; omega⟩)))
          have g1 : ¬ (d.toNat : Int) < 32 := by omega
          have g2 : (126 : Int) < (d.toNat : Int) := by omega
          have g3 : (32 : Int) ≤ (d.toNat : Int) := by omega
          have g4 : ¬ (d.toNat : Int) ≤ 126 := by omega
          clear hp
          go_wp2
          exact bodyPost_ret (by simp [results, Tryd.results33, go_sem]) rfl ⟨HX.out, ((Below.refl _ _).alloc (Nat.le_refl _) _).alloc (by simp) _⟩
        · have g1 : (32 : Int) ≤ (d.toNat : Int) := by omega
          have g2 : (d.toNat : Int) ≤ 126 := by omega
          have HN := Lib.hid (show x + 1 = a + 1 + (k + 1) ∧ ∀ b ∈ t.take (k + 1), b ≠ 34 ∧ prn b = true from by
            refine ⟨by have := HK.out.1; omega, fun b hb => ?_⟩
            rw [List.take_add_one, HDD.out] at hb
            rcases List.mem_append.1 hb with hb | hb
            · exact HK.out.2 b hb
            · simp at hb; subst hb; exact ⟨h34, by rw [hp]; simp; omega⟩)
          clear hp
          go_wp2
          go_round
          case rel => exact ⟨x + 1, k + 1, by go_num, by omega, by omega, HN⟩
          case measure => simp only [intOf]; omega
    · have HX := Lib.hid (nextGives_none (a := a) (l := s.data.toList.drop a) (by
        rw [HD.out.1]
        refine text_no HK.out.2 (.inl ?_)
        rw [← text_byte HD.out.1 k, ← HK.out.1]
        exact List.getElem?_eq_none (by have := HD.out.2; have := HL.out; omega)))
      obtain rfl : x = L := by omega
      go_wp2
      exact bodyPost_ret (by simp [results, Tryd.results33, go_sem]) rfl ⟨HX.out, ((Below.refl _ _).alloc (Nat.le_refl _) _).alloc (by simp) _⟩
end Go.Proofs.YtmehigmomhiaeaaDoor
