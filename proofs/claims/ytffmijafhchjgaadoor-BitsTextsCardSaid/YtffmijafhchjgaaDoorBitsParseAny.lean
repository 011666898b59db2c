/- Contracts of Text and Parse of package bits for all arguments. -/
import Derived.Test.YtffmijafhchjgaaDoorBitsParse
import Derived.Test.YtffmijafhchjgaaDoorShelf
namespace Go.Proofs.YtffmijafhchjgaaDoor
open Go.RowKit Go.Sort
set_option linter.unusedVariables false

/-- What Text gives. -/
def textR (n : Int) (x : Nat) : ByteArray × Int :=
  if n < 1 ∨ 64 < n then (⟨#[]⟩, 14) else if okB n.toNat x = true then (textB n.toNat x, 0) else (⟨#[]⟩, 8)
theorem textP_any (n : Int) (x : Nat) (w : World) :
    Calls Tryd.prog 5 #[.int .i64 n, .int .u64 x] w fun e w' => e = .returned (.tuple #[.string (textR n x).1, .int .i64 (textR n x).2]) ∧ Below w.heap.size w w' := by
  by_cases h : n < 1 ∨ 64 < n
  · rw [show textR n x = (⟨#[]⟩, 14) by unfold textR; rw [if_pos h]]
    have H := Lib.hid h
    clear h
    go_enter Tryd.func5, Tryd.ntmps5
    go_wp2_with (go_at_call 17; refine (check_bad _ _ _ _ H.out).mono ?_; rintro e w' ⟨rfl, rfl⟩)
    go_ret2
    refine ⟨rfl, ?_⟩
    go_grown
  · obtain ⟨n, rfl⟩ : ∃ m : Nat, n = m := ⟨n.toNat, by omega⟩
    have h0 : 1 ≤ n := by omega
    have h1 : n ≤ 64 := by omega
    cases ho : okB n x with
    | true =>
      rw [show textR n x = (textB n x, 0) by unfold textR; rw [if_neg h, Int.toNat_natCast, if_pos ho]]
      exact textP_ok n x w h0 h1 ((okB_iff n x).1 ho)
    | false =>
      rw [show textR n x = (⟨#[]⟩, 8) by unfold textR; rw [if_neg h, Int.toNat_natCast, if_neg (by rw [ho]; decide)]]
      have c0 : (w.alloc (.cells #[.int .u64 x] 22)).cell? ⟨w.heap.size, 0, none⟩ = some (.int .u64 x) := by go_simp
      have HK := Lib.hid (check1 n x _ _ h0 h1 c0)
      have hx' : chk1 n x = 8 := by unfold chk1; rw [if_neg (by rw [ho]; decide)]
      rw [hx'] at HK
      clear c0 hx' ho h
      go_enter Tryd.func5, Tryd.ntmps5
      go_wp2_with (go_at_call 17; refine HK.out.mono ?_; rintro e w' ⟨rfl, rfl⟩)
      go_ret2
      refine ⟨rfl, ?_⟩
      go_grown

-- Cut, at whatever string
set_option maxRecDepth 100000 in
theorem lcut_none (s : ByteArray) (w : World) (hi : Lib.indexByte s.data.toList 58 = -1) :
    Calls Tryd.prog 35 #[.string s, .string ⟨#[58]⟩] w fun e w' => e = .returned (.tuple #[.string s, .string ⟨#[]⟩, .bool false]) ∧ Below w.heap.size w w' := by
  have HI := Lib.hid (fun W => index_any s W)
  rw [hi] at HI
  clear hi
  go_enter Tryd.func35, Tryd.ntmps35
  go_wp2_with (go_at_call 41; with_reducible refine (HI.out _).mono ?_; rintro e w' ⟨rfl, rfl⟩)
  go_ret3
  exact ⟨rfl, Below.refl _ _⟩

theorem indexByte_lt : ∀ (l : List UInt8) (c : UInt8), Lib.indexByte l c = -1 ∨ ∃ i : Nat, Lib.indexByte l c = (i : Int) ∧ i < l.length
  | [], c => Or.inl rfl
  | b :: l, c => by
    rcases indexByte_lt l c with h | ⟨i, h, hi⟩
    · unfold Lib.indexByte
      by_cases hb : (b == c) = true
      · rw [if_pos hb]; exact Or.inr ⟨0, rfl, by simp⟩
      · rw [if_neg hb, h, if_pos (by rfl)]; exact Or.inl rfl
    · unfold Lib.indexByte
      by_cases hb : (b == c) = true
      · rw [if_pos hb]; exact Or.inr ⟨0, rfl, by simp⟩
      · rw [if_neg hb, h, if_neg (by simp)]; exact Or.inr ⟨i + 1, by simp, by simp; omega⟩

set_option maxRecDepth 100000 in
theorem scut_some (s : ByteArray) (w : World) (hm : s.size ≤ 1000) :
    Calls Tryd.prog 21 #[.string s, .string ⟨#[58]⟩] w fun e w' => (∃ (a b : ByteArray) (q : Bool), e = .returned (.tuple #[.string a, .string b, .bool q]) ∧ a.size ≤ 1000 ∧ b.size ≤ 1000) ∧ Below w.heap.size w w' := by
  have HC : Hid (∃ (a b : ByteArray) (q : Bool), a.size ≤ 1000 ∧ b.size ≤ 1000 ∧ ∀ W, Calls Tryd.prog 35 #[.string s, .string ⟨#[58]⟩] W fun e w' => e = .returned (.tuple #[.string a, .string b, .bool q]) ∧ Below W.heap.size W w') := by
    rcases indexByte_lt s.data.toList 58 with h | ⟨i, h, hi⟩
    · exact Lib.hid ⟨s, ⟨#[]⟩, false, hm, by decide, fun W => lcut_none s W h⟩
    · have hl : s.data.toList.length = s.size := rfl
      refine Lib.hid ⟨s.extract 0 i, s.extract (i + 1) s.size, true, ?_, ?_, fun W => lcut_any s _ _ i s.size W h rfl (by omega) hm rfl rfl⟩
      · rw [ByteArray.size_extract]; omega
      · rw [ByteArray.size_extract]; omega
  obtain ⟨a, b, q, ha, hb, HC⟩ := HC.out
  have HC := Lib.hid HC
  clear hm
  go_enter Tryd.func21, Tryd.ntmps21
  go_wp2_with (go_at_call 35; with_reducible refine (HC.out _).mono ?_; rintro e w1 ⟨rfl, hb1⟩)
  go_ret3
  exact ⟨⟨a, b, q, rfl, ha, hb⟩, hb1⟩
end Go.Proofs.YtffmijafhchjgaaDoor
