/- The walk of LexerTokens: the program's tokens are the reference's. -/
import Derived.Test.YtmehigmomhiaeaaDoorLexSame
import Derived.Test.YtmehigmomhiaeaaDoorLexRefLex
import Derived.Test.YtmehigmomhiaeaaDoorLexLaid
namespace Go.Proofs.YtmehigmomhiaeaaDoor.lexerTokens
open Go.Play Go.RowKit
set_option linter.unusedVariables false
set_option linter.unusedSimpArgs false

theorem same_self (q : Bool) (L : List (Tk × Nat)) : SameP q L L := ⟨rfl, fun i y y' h h' => by
  rw [h] at h'; cases h'; exact ⟨rfl, fun _ => rfl⟩⟩

set_option maxHeartbeats 4000000 in
set_option maxRecDepth 100000 in
theorem core (s : ByteArray) (w : World) (hL : LaidAt w) :
    Calls Tryd.prog 3 #[.string s] w fun e w' => e = .returned (.bool true) ∧ Below w.heap.size w w' := by
  by_cases hbig : 70000 < s.size
  · have g1 : (70000 : Int) < (s.size : Int) := by omega
    clear hbig hL
    go_enter Tryd.func3, Tryd.ntmps3
    go_wp2
    go_ret
    exact ⟨rfl, Below.refl _ _⟩
  have g1 : ¬ (70000 : Int) < (s.size : Int) := by omega
  have HT := Lib.hid (tokens_any s w (by omega) hL)
  have HR := Lib.hid (fun W => refTokens_any s W (by omega))
  unfold TokensGives at HT HR
  have hlen := lex_len s.data.toList
  obtain ⟨L, hLd⟩ : ∃ L, (lexR s.data.toList).1 = L := ⟨_, rfl⟩
  obtain ⟨P, hPd⟩ : ∃ P, (lexR s.data.toList).2.1 = P := ⟨_, rfl⟩
  obtain ⟨E, hEd⟩ : ∃ E, (lexR s.data.toList).2.2 = E := ⟨_, rfl⟩
  have hE16 := lex_codes s.data.toList
  rw [hLd, hPd, hEd] at HT HR
  rw [hLd] at hlen
  have HLN := Lib.hid hlen
  clear hLd hPd hEd hbig hL hlen
  go_enter Tryd.func3, Tryd.ntmps3
  go_wp2_with (first
    | (go_at_call 11; (with_reducible refine HT.out.mono ?_); rintro e w2 ⟨v, rfl, hown, hb2⟩; obtain ⟨A, cp, rfl, ht⟩ := toksAt_of hown; have HB2 := Lib.hid hb2; have HO := Lib.hid ht; clear hb2 hown ht)
    | (go_at_call 12; (with_reducible refine (HR.out _).mono ?_); rintro e w4 ⟨v4, rfl, hown4, hb4⟩; obtain ⟨A4, cp4, rfl, ht4⟩ := toksAt_of hown4; have HB4 := Lib.hid (HB2.out.trans (hb4.mono HB2.out.size)); have HO4 := Lib.hid ht4; have HOL := Lib.hid (HO.out.below hb4); clear hb4 hown4 ht4)
    | (go_at_call 13; (refine (same_yes _ _ _ _ true L L _ HOL.out HO4.out (same_self true L) (by have := HLN.out; omega)).mono ?_); rintro e w5 ⟨rfl, hb5⟩))
  go_ret
  exact ⟨rfl, HB4.out.trans (hb5.mono HB4.out.size)⟩

theorem walk (a0 : ByteArray) {q0 : Prop} (w0 : q0) (W : World) (hL : laidMetH Tryd.prog Rows.lexerTokensRow.laid W) :
    Calls Tryd.prog 3 #[.string a0] W fun e w' => e = .returned (.bool true) ∧ Below W.heap.size W w' :=
  core a0 W (laid_of W hL)
end Go.Proofs.YtmehigmomhiaeaaDoor.lexerTokens
