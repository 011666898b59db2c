/- The prefix of the registers' variables: strings.TrimPrefix, and what a variable's name is. -/
import Derived.Test.YtmbogdimjbhbmaaBitsName
import Derived.Lib.Strings
namespace Go.Proofs.Ytmbogdimjbhbmaa
open Go.RowKit
set_option linter.unusedVariables false

def trimR (s : ByteArray) : ByteArray := if 2 ≤ s.size ∧ (s.extract 0 2).toList = [114, 46] then s.extract 2 s.size else s
set_option maxRecDepth 100000 in
theorem trim_any (s : ByteArray) (W : World) (hm : s.size ≤ 1000) : Calls Try.prog 37 #[.string s, .string ⟨#[114, 46]⟩] W fun e w' => e = .returned (.string (trimR s)) ∧ W = w' := by
  obtain ⟨L, hL⟩ : ∃ L, s.size = L := ⟨_, rfl⟩
  by_cases h2 : 2 ≤ L
  · go_enter Try.func37, Try.ntmps37
    go_wp2_with go_in
    · rename_i hq
      go_ret
      refine ⟨?_, rfl⟩
      have : trimR s = s.extract 2 L := by unfold trimR; rw [if_pos ⟨by omega, by simpa using hq⟩, hL]
      rw [this]
      rfl
    · rename_i hq
      go_ret
      refine ⟨?_, rfl⟩
      have : trimR s = s := by unfold trimR; rw [if_neg (fun h => by rw [h.2] at hq; exact absurd hq (by decide))]
      rw [this]
      rfl
  · have e : trimR s = s := by unfold trimR; rw [if_neg (fun h => h2 (by omega))]
    rw [e]
    go_enter Try.func37, Try.ntmps37
    go_wp2_with go_in
    go_ret
    exact ⟨rfl, rfl⟩
theorem trimR_size (s : ByteArray) : (trimR s).size ≤ s.size := by
  unfold trimR
  split
  · rw [ByteArray.size_extract]; omega
  · omega
/-- The name of a variable. -/
noncomputable def varR (s : ByteArray) : Bool := nameR (trimR s)
end Go.Proofs.Ytmbogdimjbhbmaa
