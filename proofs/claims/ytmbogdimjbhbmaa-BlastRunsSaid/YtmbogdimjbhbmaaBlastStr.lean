/- Contracts of package blast on names and orders: isVariable, strings.Compare, cmp.Compare, cmp.Or, before; and of the reference's Variable. -/
import Derived.Test.YtmbogdimjbhbmaaVarName
import Derived.Test.YtmbogdimjbhbmaaRefName
import Derived.Lib.Bytealg
import Derived.Laws.Cover1
import Derived.Sort.Walk0
namespace Go.Proofs.Ytmbogdimjbhbmaa
open Go.RowKit
set_option linter.unusedVariables false

theorem blastVar_any (s : ByteArray) (W : World) (hm : s.size ≤ 1000) : Calls Try.prog 33 #[.string s] W fun e w' => e = .returned (.bool (varR s)) ∧ Below W.heap.size W w' := by
  have H1 := Lib.hid (fun W => trim_any s W hm)
  have H2 := Lib.hid (fun W => name_any (trimR s) W (by have := trimR_size s; omega))
  rw [show nameR (trimR s) = varR s from rfl] at H2
  clear hm
  generalize trimR s = t at *
  go_enter Try.func33, Try.ntmps33
  go_wp2_with (first
    | (go_at_call 37; (with_reducible refine (H1.out _).mono ?_); rintro e w' ⟨rfl, rfl⟩)
    | (go_at_call 36; (with_reducible refine (H2.out _).mono ?_); rintro e w' ⟨rfl, hb⟩))
  go_ret
  exact ⟨rfl, hb⟩

theorem nameR_empty (s : ByteArray) (h : s.size = 0) : nameR s = false := nameR_no (fun hp => by have := hp.1; omega)
theorem trim_two (s : ByteArray) (h : s.size = 2) : varR s = nameR s := by
  unfold varR trimR
  by_cases hq : (s.extract 0 2).toList = [114, 46]
  · rw [if_pos ⟨by omega, hq⟩, nameR_empty _ (by rw [ByteArray.size_extract]; omega)]
    refine (nameR_no (fun hp => ?_)).symm
    have h1 : s.data.toList = [114, 46] := by
      have e : s.extract 0 2 = s := by rw [← h]; simp
      rw [e, Lib.toList_data] at hq
      exact hq
    rcases hp.2.2 1 46 (by rw [h1]; rfl) with h2 | ⟨_, h2 | h2⟩
    · revert h2; decide
    · revert h2; decide
    · exact absurd h2 (by decide)
  · rw [if_neg (fun h => hq h.2)]

set_option maxRecDepth 100000 in
theorem refVar_any (s : ByteArray) (W : World) (hm : s.size ≤ 1000) : Calls Try.prog 28 #[.string s] W fun e w' => e = .returned (.bool (varR s)) ∧ Below W.heap.size W w' := by
  have H2 := Lib.hid (fun (t : ByteArray) (ht : t.size ≤ s.size) W => refName_any t W (by omega))
  obtain ⟨L, hL⟩ : ∃ L, s.size = L := ⟨_, rfl⟩
  by_cases h2 : 2 < L
  · have hx : (s.extract 2 s.size).size ≤ s.size := by rw [ByteArray.size_extract]; omega
    have H3 := Lib.hid (H2.out _ hx)
    have H4 := Lib.hid (H2.out s (Nat.le_refl _))
    have HT : Hid (varR s = nameR (if (s.extract 0 2).toList = [114, 46] then s.extract 2 s.size else s)) := Lib.hid (by unfold varR trimR; by_cases hq : (s.extract 0 2).toList = [114, 46] <;> simp [hq, show 2 ≤ s.size by omega])
    rw [hL] at H3
    clear hx
    go_enter Try.func28, Try.ntmps28
    go_wp2_with (go_at_call 35; first
      | ((with_reducible refine (H3.out _).mono ?_); rintro e w' ⟨rfl, hb⟩)
      | ((with_reducible refine (H4.out _).mono ?_); rintro e w' ⟨rfl, hb⟩))
    · rename_i hq
      go_ret
      refine ⟨?_, hb⟩
      rw [HT.out, if_pos (by simpa using hq), hL]
      rfl
    · rename_i hq
      go_ret
      refine ⟨?_, hb⟩
      rw [HT.out, if_neg (by simpa using hq)]
      rfl
  · have HT : Hid (varR s = nameR s) := Lib.hid (by
      by_cases h : L = 2
      · exact trim_two s (by omega)
      · unfold varR trimR; rw [if_neg (fun hh => by omega)])
    have H4 := Lib.hid (H2.out s (Nat.le_refl _))
    clear hm
    go_enter Try.func28, Try.ntmps28
    go_wp2_with (go_at_call 35; (with_reducible refine (H4.out _).mono ?_); rintro e w' ⟨rfl, hb⟩)
    go_ret
    exact ⟨by rw [HT.out]; rfl, hb⟩

-- orders
def cmpI (a b : Int) : Int := if a < b then -1 else if b < a then 1 else 0
theorem nanI_any (a : Int) (w : World) : Calls Try.prog 48 #[.int .i64 a] w fun e w' => e = .returned (.bool false) ∧ w = w' := by
  go_enter Try.func48, Try.ntmps48
  go_wp2
  go_ret
  exact ⟨by simp, rfl⟩
theorem compareI_any (a b : Int) (w : World) : Calls Try.prog 44 #[.int .i64 a, .int .i64 b] w fun e w' => e = .returned (.int .i64 (cmpI a b)) ∧ w = w' := by
  by_cases h : a < b
  · have e : cmpI a b = -1 := by simp [cmpI, h]
    rw [e]
    go_enter Try.func44, Try.ntmps44
    go_wp2_with (go_at_call 48; refine (nanI_any _ _).mono ?_; rintro e w' ⟨rfl, rfl⟩)
    go_ret
    exact ⟨rfl, rfl⟩
  · by_cases h2 : b < a
    · have e : cmpI a b = 1 := by simp [cmpI, h, h2]
      rw [e]
      go_enter Try.func44, Try.ntmps44
      go_wp2_with (go_at_call 48; refine (nanI_any _ _).mono ?_; rintro e w' ⟨rfl, rfl⟩)
      go_ret
      exact ⟨rfl, rfl⟩
    · have e : cmpI a b = 0 := by simp [cmpI, h, h2]
      rw [e]
      go_enter Try.func44, Try.ntmps44
      go_wp2_with (go_at_call 48; refine (nanI_any _ _).mono ?_; rintro e w' ⟨rfl, rfl⟩)
      go_ret
      exact ⟨rfl, rfl⟩

def cmpS (a b : ByteArray) : Int := Lib.compareBytes a.data.toList b.data.toList
set_option maxRecDepth 100000 in
theorem cmpString_any (a b : ByteArray) (w : World) : Calls Try.prog 31 #[.string a, .string b] w fun e w' => e = .returned (.int .i64 (cmpS a b)) ∧ w = w' := by
  go_enter Try.func31, Try.ntmps31
  go_wp2
  rw [run_callFunc_extern Try.func40 (by kernel_rfl) (by kernel_rfl) (by kernel_rfl) (e := Extern.BytealgCompare.compare) (by kernel_rfl), Lib.run_compareString]
  simp only [Result.andThen]
  rw [Oper.upon_value]
  go_wp2
  go_ret
  exact ⟨rfl, rfl⟩
theorem compareS_any (a b : ByteArray) (w : World) : Calls Try.prog 23 #[.string a, .string b] w fun e w' => e = .returned (.int .i64 (cmpS a b)) ∧ w = w' := by
  go_enter Try.func23, Try.ntmps23
  go_wp2_with (go_at_call 31; refine (cmpString_any _ _ _).mono ?_; rintro e w' ⟨rfl, rfl⟩)
  go_ret
  exact ⟨rfl, rfl⟩
end Go.Proofs.Ytmbogdimjbhbmaa
