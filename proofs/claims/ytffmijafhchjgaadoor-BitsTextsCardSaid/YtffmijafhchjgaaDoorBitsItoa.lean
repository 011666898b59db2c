/- Contract of strconv.Itoa for the numbers 0 to 99, of one and two digits. -/
import Derived.Test.YtffmijafhchjgaaDoorBitsCalls
import Derived.Lib.Strings
namespace Go.Proofs.YtffmijafhchjgaaDoor
open Go.RowKit Go.Sort
set_option linter.unusedVariables false

/-- The decimal digits of a number below 100. -/
def decB (n : Nat) : ByteArray := if n < 10 then ⟨#[UInt8.ofNat (48 + n)]⟩ else ⟨#[UInt8.ofNat (48 + n / 10), UInt8.ofNat (48 + n % 10)]⟩

/-- The library's two strings of digits. -/
def smallDigits : ByteArray := ⟨#[48, 49, 50, 51, 52, 53, 54, 55, 56, 57, 97, 98, 99, 100, 101, 102, 103, 104, 105, 106, 107, 108, 109, 110, 111, 112, 113, 114, 115, 116, 117, 118, 119, 120, 121, 122]⟩
def smallPairs : ByteArray := ⟨#[48, 48, 48, 49, 48, 50, 48, 51, 48, 52, 48, 53, 48, 54, 48, 55, 48, 56, 48, 57, 49, 48, 49, 49, 49, 50, 49, 51, 49, 52, 49, 53, 49, 54, 49, 55, 49, 56, 49, 57, 50, 48, 50, 49, 50, 50, 50, 51, 50, 52, 50, 53, 50, 54, 50, 55, 50, 56, 50, 57, 51, 48, 51, 49, 51, 50, 51, 51, 51, 52, 51, 53, 51, 54, 51, 55, 51, 56, 51, 57, 52, 48, 52, 49, 52, 50, 52, 51, 52, 52, 52, 53, 52, 54, 52, 55, 52, 56, 52, 57, 53, 48, 53, 49, 53, 50, 53, 51, 53, 52, 53, 53, 53, 54, 53, 55, 53, 56, 53, 57, 54, 48, 54, 49, 54, 50, 54, 51, 54, 52, 54, 53, 54, 54, 54, 55, 54, 56, 54, 57, 55, 48, 55, 49, 55, 50, 55, 51, 55, 52, 55, 53, 55, 54, 55, 55, 55, 56, 55, 57, 56, 48, 56, 49, 56, 50, 56, 51, 56, 52, 56, 53, 56, 54, 56, 55, 56, 56, 56, 57, 57, 48, 57, 49, 57, 50, 57, 51, 57, 52, 57, 53, 57, 54, 57, 55, 57, 56, 57, 57]⟩
set_option maxRecDepth 100000 in
theorem small_one : ∀ n : Fin 10, smallDigits.extract n.val (n.val + 1) = decB n.val := by decide +kernel
set_option maxRecDepth 100000 in
theorem small_two : ∀ n : Fin 100, n.val < 10 ∨ smallPairs.extract (n.val * 2) (n.val * 2 + 2) = decB n.val := by decide +kernel

set_option maxRecDepth 100000 in
theorem small_any (n : Nat) (w : World) (h : n < 100) :
    Calls Tryd.prog 50 #[.int .i64 n] w fun e w' => e = .returned (.string (decB n)) ∧ w = w' := by
  by_cases h1 : n < 10
  · have HB := Lib.hid h1
    go_enter Tryd.func50, Tryd.ntmps50
    go_wp2
    go_ret
    exact ⟨congrArg (fun s => Ending.returned (.string s)) (small_one ⟨n, HB.out⟩), rfl⟩
  · go_enter Tryd.func50, Tryd.ntmps50
    go_wp2
    go_ret
    exact ⟨congrArg (fun s => Ending.returned (.string s)) ((small_two ⟨n, h⟩).resolve_left h1), rfl⟩

theorem itoa_any (n : Nat) (w : World) (h : n < 100) :
    Calls Tryd.prog 18 #[.int .i64 n] w fun e w' => e = .returned (.string (decB n)) ∧ w = w' := by
  have d : decide ((n : Int) < 100) = true := by simp; omega
  go_enter Tryd.func18, Tryd.ntmps18
  go_wp2_with (first | (go_at_call 50; refine (small_any _ _ h).mono ?_; rintro e w' ⟨rfl, rfl⟩) | go_in)
  go_ret
  exact ⟨rfl, rfl⟩
end Go.Proofs.YtffmijafhchjgaaDoor
