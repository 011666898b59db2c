/- gap and written of the laws of layer 7. -/
import Derived.Test.YtejjbbgompddeaaDoorLexCov
namespace Go.Proofs.YtejjbbgompddeaaDoor
open Go.RowKit
set_option linter.unusedVariables false
set_option linter.unusedSimpArgs false

theorem lex_err {l : List UInt8} (h : (lexR l).2.2 ≠ 0) : (lexR l).1 = [] := by
  unfold lexR at h ⊢
  by_cases hb : 65536 < l.length
  · rw [if_pos hb]
  · rw [if_neg hb] at h ⊢
    have key : ∀ (f : Nat) (r : List UInt8) (a0 : Nat) (acc : List (Tk × Nat)), (run f r a0 acc).2.2 ≠ 0 → (run f r a0 acc).1 = [] := by
      intro f
      induction f with
      | zero => intro r a0 acc h; exact absurd rfl h
      | succ f ih =>
        intro r a0 acc h
        unfold run at h ⊢
        by_cases h1 : r.drop (skipN r) = []
        · rw [if_pos h1] at h; exact absurd rfl h
        · rw [if_neg h1] at h ⊢
          cases hn : nextT (r.drop (skipN r)) with
          | none => simp
          | some y =>
            obtain ⟨x, n⟩ := y
            rw [hn] at h
            simp only at h ⊢
            by_cases hc : 20000 ≤ acc.length
            · rw [if_pos hc]
            · rw [if_neg hc] at h ⊢
              exact ih _ _ _ h
    exact key _ _ _ _ h
theorem lex_len (l : List UInt8) : (lexR l).1.length ≤ 20000 := by
  unfold lexR
  by_cases hb : 65536 < l.length
  · rw [if_pos hb]; simp
  · rw [if_neg hb]
    have key : ∀ (f : Nat) (r : List UInt8) (a0 : Nat) (acc : List (Tk × Nat)), acc.length ≤ 20000 → (run f r a0 acc).1.length ≤ 20000 := by
      intro f
      induction f with
      | zero => intro r a0 acc h; exact h
      | succ f ih =>
        intro r a0 acc h
        unfold run
        by_cases h1 : r.drop (skipN r) = []
        · rw [if_pos h1]; exact h
        · rw [if_neg h1]
          cases hn : nextT (r.drop (skipN r)) with
          | none => simp
          | some y =>
            obtain ⟨x, n⟩ := y
            simp only
            by_cases hc : 20000 ≤ acc.length
            · rw [if_pos hc]; simp
            · rw [if_neg hc]
              exact ih _ _ _ (by rw [List.length_append]; simp; omega)
    exact key _ _ _ _ (by simp)
theorem lex_codes (l : List UInt8) : (lexR l).2.2 = 0 ∨ (lexR l).2.2 = 4 ∨ (lexR l).2.2 = 12 := by
  unfold lexR
  by_cases hb : 65536 < l.length
  · rw [if_pos hb]; exact .inr (.inl rfl)
  · rw [if_neg hb]
    have key : ∀ (f : Nat) (r : List UInt8) (a0 : Nat) (acc : List (Tk × Nat)), (run f r a0 acc).2.2 = 0 ∨ (run f r a0 acc).2.2 = 4 ∨ (run f r a0 acc).2.2 = 12 := by
      intro f
      induction f with
      | zero => intro r a0 acc; exact .inl rfl
      | succ f ih =>
        intro r a0 acc
        unfold run
        by_cases h1 : r.drop (skipN r) = []
        · rw [if_pos h1]; exact .inl rfl
        · rw [if_neg h1]
          cases hn : nextT (r.drop (skipN r)) with
          | none => exact .inr (.inr rfl)
          | some y =>
            obtain ⟨x, n⟩ := y
            simp only
            by_cases hc : 20000 ≤ acc.length
            · rw [if_pos hc]; exact .inr (.inl rfl)
            · rw [if_neg hc]; exact ih _ _ _
    exact key _ _ _ _

/-- What one token of a cover says. -/
theorem cov_step {s : ByteArray} {a p : Nat} {x : Tk} {t : List (Tk × Nat)} (h : Cov s.data.toList a ((x, p) :: t)) :
    a ≤ p ∧ p + (wr x).length ≤ s.size ∧ 1 ≤ (wr x).length ∧ x.t.length ≤ (wr x).length ∧ s.extract p (p + (wr x).length) = ⟨(wr x).toArray⟩ ∧ gapR false (s.extract a p).data.toList = true ∧ Cov s.data.toList (p + (wr x).length) t := by
  obtain ⟨ha, hp, n, hn, hc⟩ := h
  obtain ⟨n1, n2, n3, n4⟩ := nextT_le hn
  have hl : s.data.toList.length = s.size := rfl
  rw [List.length_drop] at n2
  subst n3
  have hs := skipN_le (s.data.toList.drop a)
  rw [List.length_drop] at hs
  refine ⟨by omega, by omega, n1, ?_, ba_eq ?_, ?_, hc⟩
  · unfold wr; split
    · simp; omega
    · exact Nat.le_refl _
  · rw [Lib.extract_data, show p + (wr x).length - p = (wr x).length by omega, n4]
  · rw [Lib.extract_data, hp, show a + skipN (s.data.toList.drop a) - a = skipN (s.data.toList.drop a) by omega]
    exact gap_skip _
def wrB (x : Tk) : ByteArray := ⟨(wr x).toArray⟩
theorem wrB_size (x : Tk) : (wrB x).size = (wr x).length := by show (wr x).toArray.size = _; simp
theorem cov_next {s : ByteArray} {a p : Nat} {x : Tk} {t : List (Tk × Nat)} (h : Cov s.data.toList a ((x, p) :: t)) :
    a ≤ p ∧ p + (wrB x).size ≤ s.size ∧ 1 ≤ (wrB x).size ∧ x.t.length ≤ (wrB x).size ∧ s.extract p (p + (wrB x).size) = wrB x ∧ gapR false (s.extract a p).data.toList = true ∧ Cov s.data.toList (p + (wrB x).size) t := by
  rw [wrB_size]; exact cov_step h
theorem cov_end {s : ByteArray} {a : Nat} (h : Cov s.data.toList a []) : a ≤ s.size ∧ gapR false (s.extract a s.size).data.toList = true := by
  obtain ⟨ha, he⟩ := h
  have hl : s.data.toList.length = s.size := rfl
  refine ⟨by omega, ?_⟩
  rw [Lib.extract_data]
  have h1 := skipN_le (s.data.toList.drop a)
  have h2 := congrArg List.length he
  simp only [List.length_drop, List.length_nil] at h1 h2
  have : s.size - a = skipN (s.data.toList.drop a) := by omega
  rw [this]
  exact gap_skip _

theorem gapR_10 {b : Bool} {c : UInt8} {t : List UInt8} (h : c = 10) : gapR b (c :: t) = false := by
  simp only [gapR]; rw [if_pos h]
theorem gapR_rem {c : UInt8} {t : List UInt8} (h : ¬ c = 10) : gapR true (c :: t) = gapR true t := by
  simp only [gapR]; rw [if_neg h, if_pos (by simp)]
theorem gapR_35 {c : UInt8} {t : List UInt8} (h : ¬ c = 10) (h2 : c = 35) : gapR false (c :: t) = gapR true t := by
  simp only [gapR]; rw [if_neg h, if_pos (by rw [h2]; rfl)]
theorem gapR_32 {c : UInt8} {t : List UInt8} (h : ¬ c = 10) (h2 : ¬ c = 35) (h3 : c = 32) : gapR false (c :: t) = gapR false t := by
  simp only [gapR]; rw [if_neg h, if_neg (by simpa using h2), if_pos h3]
theorem gapR_no {c : UInt8} {t : List UInt8} (h : ¬ c = 10) (h2 : ¬ c = 35) (h3 : ¬ c = 32) : gapR false (c :: t) = false := by
  simp only [gapR]; rw [if_neg h, if_neg (by simpa using h2), if_neg h3]
set_option maxRecDepth 100000 in
theorem gap_any (s : ByteArray) (w : World) (hs : s.size ≤ 1000000) :
    Calls Tryd.prog 8 #[.string s] w fun e w' => e = .returned (.bool (gapR false s.data.toList)) ∧ w = w' := by
  have HL := Lib.hid (show s.data.toList.length = s.size from rfl)
  go_enter Tryd.func8, Tryd.ntmps8
  go_wp2
  go_loop [3, 4] (fun vb vi => ∃ (b : Bool) (k : Nat), vb = .bool b ∧ vi = .int .i64 k ∧ k ≤ s.size ∧ Hid (gapR false s.data.toList = gapR b (s.data.toList.drop k))) (fun _ vi => s.size - (intOf vi).toNat)
  case atStart => exact ⟨false, 0, rfl, rfl, by omega, Lib.hid (by rw [List.drop_zero])⟩
  case round =>
    obtain ⟨b, k, rfl, rfl, hk, HK⟩ := hrel
    by_cases hlt : k < s.size
    · obtain ⟨c, hc⟩ : ∃ c : UInt8, s[k]'hlt = c := ⟨_, rfl⟩
      have hd : s.data.toList.drop k = c :: s.data.toList.drop (k + 1) := by
        have : s.data.toList[k]? = some c := by rw [Lib.data_getElem? s k hlt, hc]
        obtain ⟨h1, h2⟩ := List.getElem?_eq_some_iff.1 this
        rw [List.drop_eq_getElem_cons h1, h2]
      have HD := Lib.hid (show gapR false s.data.toList = gapR b (c :: s.data.toList.drop (k + 1)) by rw [HK.out, hd])
      have hn : ∀ m : Nat, m < 256 → (c.toNat = m ↔ c = UInt8.ofNat m) := fun m hm => ⟨fun h => UInt8.toNat_inj.1 (by rw [h]; simp; omega), fun h => by rw [h]; simp; omega⟩
      have q10 := hn 10 (by decide)
      have q35 := hn 35 (by decide)
      have q32 := hn 32 (by decide)
      have e10 : (UInt8.ofNat 10) = 10 := rfl
      have e35 : (UInt8.ofNat 35) = 35 := rfl
      have e32 : (UInt8.ofNat 32) = 32 := rfl
      rw [e10] at q10
      rw [e35] at q35
      rw [e32] at q32
      clear hd hn e10 e35 e32 HK
      by_cases h10 : c.toNat = 10
      · have HE := Lib.hid (show gapR false s.data.toList = false by rw [HD.out]; exact gapR_10 (q10.1 h10))
        have g10 : ((c.toNat : Int) == 10) = true := by simp; omega
        have g35 : ((c.toNat : Int) == 35) = false := by simp; omega
        clear q10 q35 q32 h10
        cases b
        all_goals
          go_wp2
          go_ret
          exact ⟨by rw [HE.out]; rfl, rfl⟩
      · have g10 : ((c.toNat : Int) == 10) = false := by simp; omega
        have n10 : ¬ c = 10 := fun h => h10 (q10.2 h)
        cases b with
        | true =>
          have HE := Lib.hid (show gapR false s.data.toList = gapR true (s.data.toList.drop (k + 1)) by rw [HD.out]; exact gapR_rem n10)
          clear q10 q35 q32 h10 n10
          go_wp2
          go_round
          case rel => exact ⟨true, k + 1, rfl, by go_num, by omega, HE⟩
          case measure => simp only [intOf]; omega
        | false =>
          by_cases h35 : c.toNat = 35
          · have HE := Lib.hid (show gapR false s.data.toList = gapR true (s.data.toList.drop (k + 1)) by rw [HD.out]; exact gapR_35 n10 (q35.1 h35))
            have g35 : ((c.toNat : Int) == 35) = true := by simp; omega
            clear q10 q35 q32 h10 n10 h35
            go_wp2
            go_round
            case rel => exact ⟨true, k + 1, by first | rfl | (congr 1), by go_num, by omega, HE⟩
            case measure => simp only [intOf]; omega
          · have g35 : ((c.toNat : Int) == 35) = false := by simp; omega
            have n35 : ¬ c = 35 := fun h => h35 (q35.2 h)
            by_cases h32 : c.toNat = 32
            · have HE := Lib.hid (show gapR false s.data.toList = gapR false (s.data.toList.drop (k + 1)) by rw [HD.out]; exact gapR_32 n10 n35 (q32.1 h32))
              have g32 : ((c.toNat : Int) == 32) = true := by simp; omega
              have g32' : ((c.toNat : Int) != 32) = false := by simp; omega
              clear q10 q35 q32 h10 n10 h35 n35 h32
              go_wp2
              go_round
              case rel => exact ⟨false, k + 1, by first | rfl | (congr 1), by go_num, by omega, HE⟩
              case measure => simp only [intOf]; omega
            · have HE := Lib.hid (show gapR false s.data.toList = false by rw [HD.out]; exact gapR_no n10 n35 (fun h => h32 (q32.2 h)))
              have g32 : ((c.toNat : Int) == 32) = false := by simp; omega
              have g32' : ((c.toNat : Int) != 32) = true := by simp; omega
              clear q10 q35 q32 h10 n10 h35 n35 h32
              go_wp2
              go_ret
              exact ⟨by rw [HE.out]; rfl, rfl⟩
    · have HE := Lib.hid (show gapR false s.data.toList = true by rw [HK.out, List.drop_of_length_le (by have := HL.out; omega)]; cases b <;> rfl)
      go_wp2
      go_ret
      exact ⟨by rw [HE.out]; rfl, rfl⟩

theorem lwrittenK_any (k n p : Int) (T : ByteArray) (w : World) (hk : k ≠ 3) :
    Calls Tryd.prog 7 #[.agg #[.int .u8 k, .string T, .int .i64 n, .int .i64 p]] w fun e w' => e = .returned (.string T) ∧ Below w.heap.size w w' := by
  have h3 : (k == 3) = false := by simpa using hk
  go_enter Tryd.func7, Tryd.ntmps7
  go_wp2
  go_ret
  exact ⟨rfl, (Below.refl _ _).alloc (Nat.le_refl _) _⟩
theorem lwritten3_any (n p : Int) (T : ByteArray) (w : World) (hT : T.size ≤ 1000000) :
    Calls Tryd.prog 7 #[.agg #[.int .u8 3, .string T, .int .i64 n, .int .i64 p]] w fun e w' => e = .returned (.string (⟨#[34]⟩ ++ T ++ ⟨#[34]⟩)) ∧ Below w.heap.size w w' := by
  have n1 : ¬ 9223372036854775807 < 1 + T.size := by omega
  have n2 : ¬ 9223372036854775807 < 1 + T.size + 1 := by omega
  clear hT
  go_enter Tryd.func7, Tryd.ntmps7
  go_wp2
  go_ret
  exact ⟨rfl, (Below.refl _ _).alloc (Nat.le_refl _) _⟩
/-- What the law writes of a token. -/
theorem lwritten_any (x : Tk) (p : Int) (w : World) (hT : x.t.length ≤ 1000000) :
    Calls Tryd.prog 7 #[.agg #[.int .u8 (x.k : Nat), .string ⟨x.t.toArray⟩, .int .i64 x.n, .int .i64 p]] w fun e w' => e = .returned (.string (wrB x)) ∧ Below w.heap.size w w' := by
  unfold wrB
  by_cases h : x.k = 3
  · have e : (⟨#[34]⟩ ++ ⟨x.t.toArray⟩ ++ ⟨#[34]⟩ : ByteArray) = ⟨(wr x).toArray⟩ := ba_eq (by unfold wr; rw [if_pos h]; simp)
    rw [h, ← e]
    exact lwritten3_any x.n p _ w (by show x.t.toArray.size ≤ 1000000; simpa using hT)
  · have e : (⟨x.t.toArray⟩ : ByteArray) = ⟨(wr x).toArray⟩ := by unfold wr; rw [if_neg h]
    rw [← e]
    exact lwrittenK_any _ x.n p _ w (by omega)
end Go.Proofs.YtejjbbgompddeaaDoor
