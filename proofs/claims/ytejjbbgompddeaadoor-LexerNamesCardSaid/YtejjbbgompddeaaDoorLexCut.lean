/- Contract of strings.Cut at a single byte, for all texts. -/
import Derived.Test.YtejjbbgompddeaaDoorLexClass
import Derived.Lib.Bytealg
import Derived.KernelRfl
namespace Go.Proofs.YtejjbbgompddeaaDoor
open Go.RowKit
set_option linter.unusedVariables false
set_option linter.unusedSimpArgs false

theorem ba_eq {a b : ByteArray} (h : a.data.toList = b.data.toList) : a = b := by
  obtain ⟨x⟩ := a
  obtain ⟨y⟩ := b
  exact congrArg ByteArray.mk (Array.toList_inj.1 h)
/-- How many bytes stand ahead of the first c. -/
def upN (l : List UInt8) (c : UInt8) : Nat := (l.takeWhile (fun b => b != c)).length
theorem upN_le (l : List UInt8) (c : UInt8) : upN l c ≤ l.length := takeWhile_le _ _
theorem indexByte_up (c : UInt8) : ∀ l : List UInt8, Lib.indexByte l c = if upN l c < l.length then (upN l c : Int) else -1
  | [] => by simp [Lib.indexByte, upN]
  | x :: t => by
    have ih := indexByte_up c t
    have hle := upN_le t c
    unfold Lib.indexByte
    by_cases hx : x = c
    · subst hx
      simp [upN]
    · have h1 : (x == c) = false := by simpa using hx
      have h2 : upN (x :: t) c = upN t c + 1 := by
        unfold upN
        rw [List.takeWhile_cons, if_pos (by simpa using hx)]
        rfl
      rw [h1, ih, h2]
      simp only [Bool.false_eq_true, if_false, List.length_cons]
      by_cases hl : upN t c < t.length
      · rw [if_pos hl, if_pos (show upN t c + 1 < t.length + 1 by omega)]
        have : ((upN t c : Int) == -1) = false := by simp
        simp [this]
      · rw [if_neg hl, if_neg (show ¬ upN t c + 1 < t.length + 1 by omega)]
        simp

set_option maxRecDepth 100000 in
theorem lindex_any (s : ByteArray) (c : UInt8) (w : World) :
    Calls Tryd.prog 59 #[.string s, .int .u8 (c.toNat : Nat)] w fun e w' => e = .returned (.int .i64 (Lib.indexByte s.data.toList c)) ∧ w = w' := by
  go_enter Tryd.func59, Tryd.ntmps59
  go_wp2
  rw [run_callFunc_extern Tryd.func73 (by kernel_rfl) (by kernel_rfl) (by kernel_rfl) (e := Extern.BytealgIndexByte.indexByte) (by kernel_rfl), Lib.run_indexByteString]
  simp only [Result.andThen]
  rw [Oper.upon_value]
  go_wp2
  go_ret
  exact ⟨by simp, rfl⟩

set_option maxRecDepth 100000 in
theorem index_any (s : ByteArray) (c : UInt8) (w : World) :
    Calls Tryd.prog 54 #[.string s, .string ⟨#[c]⟩] w fun e w' => e = .returned (.int .i64 (Lib.indexByte s.data.toList c)) ∧ w = w' := by
  cases hne : ([c] == s.toList) with
  | true =>
    have e : Lib.indexByte s.data.toList c = 0 := by
      rw [← ByteArray.toList_eq, ← (by simpa using hne : [c] = s.toList)]
      simp [Lib.indexByte]
    rw [e]
    clear e
    go_enter Tryd.func54, Tryd.ntmps54
    go_wp2
    go_ret
    exact ⟨rfl, rfl⟩
  | false =>
    have HI := Lib.hid (fun W => lindex_any s c W)
    go_enter Tryd.func54, Tryd.ntmps54
    go_wp2_with (go_at_call 59; refine (HI.out _).mono ?_; rintro e w' ⟨rfl, rfl⟩)
    go_ret
    exact ⟨rfl, rfl⟩

/-- What Cut gives. -/
def cutA (s : ByteArray) (c : UInt8) : ByteArray := s.extract 0 (upN s.data.toList c)
def cutB (s : ByteArray) (c : UInt8) : ByteArray := if upN s.data.toList c < s.data.toList.length then s.extract (upN s.data.toList c + 1) s.size else ⟨#[]⟩
def cutQ (s : ByteArray) (c : UInt8) : Bool := decide (upN s.data.toList c < s.data.toList.length)
def cutV (s : ByteArray) (c : UInt8) : Value := .tuple #[.string (cutA s c), .string (cutB s c), .bool (cutQ s c)]
theorem cutA_list (s : ByteArray) (c : UInt8) : (cutA s c).data.toList = s.data.toList.takeWhile (fun x => x != c) := by
  unfold cutA
  rw [Lib.extract_data, List.drop_zero, Nat.sub_zero]
  unfold upN
  conv => lhs; arg 2; rw [← List.takeWhile_append_dropWhile (p := fun x : UInt8 => x != c) (l := s.data.toList)]
  exact List.take_left
theorem cutA_size (s : ByteArray) (c : UInt8) : (cutA s c).size = upN s.data.toList c := by
  have : (cutA s c).data.toList.length = (cutA s c).size := rfl
  rw [← this, cutA_list]; rfl

set_option maxRecDepth 100000 in
theorem lcut_any (s : ByteArray) (c : UInt8) (w : World) (hs : s.size ≤ 1000000) :
    Calls Tryd.prog 46 #[.string s, .string ⟨#[c]⟩] w fun e w' => e = .returned (cutV s c) ∧ ∃ n, w' = w.drewN n := by
  have HI := Lib.hid (fun W => index_any s c W)
  rw [indexByte_up] at HI
  have hl : s.data.toList.length = s.size := rfl
  have hle := upN_le s.data.toList c
  obtain ⟨i, hi⟩ : ∃ i, upN s.data.toList c = i := ⟨_, rfl⟩
  by_cases h : i < s.size
  · rw [hi, if_pos (by omega)] at HI
    obtain ⟨z, hz⟩ : ∃ z, s.size = z := ⟨_, rfl⟩
    have HG := Lib.hid (show (.tuple #[.string (s.extract 0 i), .string (s.extract (i + 1) s.size), .bool true] : Value) = cutV s c from by
      unfold cutV cutA cutB cutQ
      rw [hi, if_pos (by omega), decide_eq_true (by omega)])
    rw [hz] at HG
    have c2 : (i : Int) ≤ (z : Int) := by omega
    have c4 : (i : Int) + 1 ≤ (z : Int) := by omega
    have c5 : z ≤ 1000000 := by omega
    clear hi hl hle h hs
    go_enter Tryd.func46, Tryd.ntmps46
    go_wp2_with (go_at_call 54; with_reducible refine (HI.out _).mono ?_; rintro e w' ⟨rfl, rfl⟩)
    go_quiet (fail)
    go_wp2
    go_ret3
    exact ⟨congrArg Ending.returned HG.out, _, rfl⟩
  · rw [hi, if_neg (by omega)] at HI
    have HG := Lib.hid (show (.tuple #[.string s, .string ⟨#[]⟩, .bool false] : Value) = cutV s c from by
      have hi2 : i = s.size := by omega
      have e : s.extract 0 s.size = s := ba_eq (by rw [Lib.extract_data, List.drop_zero, List.take_of_length_le (by omega)])
      unfold cutV cutA cutB cutQ
      rw [hi, if_neg (by omega), decide_eq_false (by omega), hi2, e])
    clear hi hl hle h hs
    go_enter Tryd.func46, Tryd.ntmps46
    go_wp2_with (go_at_call 54; with_reducible refine (HI.out _).mono ?_; rintro e w' ⟨rfl, rfl⟩)
    go_ret3
    exact ⟨congrArg Ending.returned HG.out, 0, rfl⟩

set_option maxRecDepth 100000 in
theorem cut_any (s : ByteArray) (c : UInt8) (w : World) (hs : s.size ≤ 1000000) :
    Calls Tryd.prog 38 #[.string s, .string ⟨#[c]⟩] w fun e w' => e = .returned (cutV s c) ∧ ∃ n, w' = w.drewN n := by
  have HC := Lib.hid (fun W => lcut_any s c W hs)
  obtain ⟨A, B, q, hv⟩ : ∃ A B q, cutV s c = .tuple #[.string A, .string B, .bool q] := ⟨_, _, _, rfl⟩
  rw [hv] at HC ⊢
  clear hv
  go_enter Tryd.func38, Tryd.ntmps38
  go_wp2_with (go_at_call 46; (with_reducible refine (HC.out _).mono ?_); rintro e w1 ⟨rfl, n, rfl⟩)
  go_ret3
  exact ⟨rfl, n, rfl⟩
end Go.Proofs.YtejjbbgompddeaaDoor
