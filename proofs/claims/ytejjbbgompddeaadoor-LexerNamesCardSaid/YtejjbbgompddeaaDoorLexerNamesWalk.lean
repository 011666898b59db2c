/- The walk of LexerNames: the examples, the limits, further tokens, out of the contracts. -/
import Derived.Test.YtejjbbgompddeaaDoorLNLits
namespace Go.Proofs.YtejjbbgompddeaaDoor.lexerNames
open Go.Play Go.RowKit Go.Instr
set_option linter.unusedVariables false
set_option linter.unusedSimpArgs false

set_option maxHeartbeats 16000000 in
set_option maxRecDepth 100000 in
theorem core (w : World) (hL : LaidAt w) (hA : ∀ Y, Below w.heap.size w Y → Calls Tryd.prog 5 #[] Y fun e w' => e = .returned (.bool true) ∧ Below Y.heap.size Y w') :
    Calls Tryd.prog 4 #[] w fun e w' => e = .returned (.bool true) ∧ Below w.heap.size w w' := by
  have HA := Lib.hid (show ∀ Y, Below w.heap.size w Y → Calls Tryd.prog 5 #[] Y fun e w' => e = .returned (.bool true) ∧ Below w.heap.size w w' from fun Y hb => (hA Y hb).mono fun e w' ⟨h1, h2⟩ => ⟨h1, hb.trans (h2.mono hb.size)⟩)
  have HL := Lib.hid hL
  obtain ⟨S1, hS1⟩ : ∃ S1 : ByteArray, S1 = ⟨(List.replicate 20000 44).toArray⟩ := ⟨_, rfl⟩
  obtain ⟨S2, hS2⟩ : ∃ S2 : ByteArray, S2 = ⟨(List.replicate 20001 44).toArray⟩ := ⟨_, rfl⟩
  obtain ⟨S3, hS3⟩ : ∃ S3 : ByteArray, S3 = ⟨(List.replicate 65537 44).toArray⟩ := ⟨_, rfl⟩
  obtain ⟨S4, hS4⟩ : ∃ S4 : ByteArray, S4 = ⟨(List.replicate 65536 32).toArray⟩ := ⟨_, rfl⟩
  have HM1 := Lib.hid (show ∀ W, Below w.heap.size w W → Calls Tryd.prog 9 #[.int .i64 20000] W fun e w' => e = .returned (.string S1) ∧ Below w.heap.size w w' from over_of (fun W => by rw [hS1]; exact many_any 20000 (by omega) W))
  have HM2 := Lib.hid (show ∀ W, Below w.heap.size w W → Calls Tryd.prog 9 #[.int .i64 20001] W fun e w' => e = .returned (.string S2) ∧ Below w.heap.size w w' from over_of (fun W => by rw [hS2]; exact many_any 20001 (by omega) W))
  have HM3 := Lib.hid (show ∀ W, Below w.heap.size w W → Calls Tryd.prog 9 #[.int .i64 65537] W fun e w' => e = .returned (.string S3) ∧ Below w.heap.size w w' from over_of (fun W => by rw [hS3]; exact many_any 65537 (by omega) W))
  obtain ⟨M, hM, hlx⟩ := lex_full
  have HT1 := Lib.hid (tok_over w S1 M 20000 0 0 hL (by rw [hS1, rep_size]; omega) (by rw [hS1]; exact hlx) hM)
  have HT2 := Lib.hid (tok_over w S2 [] 0 20000 4 hL (by rw [hS2, rep_size]; omega) (by rw [hS2]; exact lex_over) rfl)
  have HT3 := Lib.hid (tok_over w S3 [] 0 0 4 hL (by rw [hS3, rep_size]; omega) (by rw [hS3]; exact lex_large) rfl)
  have HT4 := Lib.hid (tok_over w S4 [] 0 0 0 hL (by rw [hS4, rep_size]; omega) (by rw [hS4]; exact lex_blanks) rfl)
  have HS4 := Lib.hid hS4
  have HNA := Lib.hid (show ∀ s : ByteArray, ∀ W, Below w.heap.size w W → Calls Tryd.prog 11 #[.string s] W fun e w' => e = .returned (.agg #[.int .u8 1, .string s, .int .i64 0, .int .i64 0]) ∧ Below w.heap.size w w' from fun s => over_of (w := w) (fun W => mkName s W))
  have HMA := Lib.hid (show ∀ s : ByteArray, ∀ W, Below w.heap.size w W → Calls Tryd.prog 12 #[.string s] W fun e w' => e = .returned (.agg #[.int .u8 4, .string s, .int .i64 0, .int .i64 0]) ∧ Below w.heap.size w w' from fun s => over_of (w := w) (fun W => mkMark s W))
  have HNU := Lib.hid (show ∀ (s : ByteArray) (n : Int), ∀ W, Below w.heap.size w W → Calls Tryd.prog 15 #[.string s, .int .i64 n] W fun e w' => e = .returned (.agg #[.int .u8 2, .string s, .int .i64 n, .int .i64 0]) ∧ Below w.heap.size w w' from fun s n => over_of (w := w) (fun W => mkNumber s n W))
  obtain ⟨i1, hi1, hy1, hy2, hy3⟩ := info_parts byte_info
  obtain ⟨i2, hi2, hx1, hx2, hx3⟩ := info_parts tok_info
  obtain ⟨OB, hmk, hfill⟩ := made_byte i1 hi1 hy1 hy2 hy3
  obtain ⟨OT, hmt⟩ := made_tok i2 hi2 hx1 hx2 hx3
  have HFI := Lib.hid hfill
  have HP1 := Lib.hid (show ∀ X, Below w.heap.size w X → Calls Tryd.prog 10 #[.slice (some ⟨X.heap.size, 0, none⟩) 1 1] (X.alloc (.cells #[.int .u8 1, .string ⟨#[49]⟩, .int .i64 0, .int .i64 0] 29)) fun e w' => e = .returned (.tuple #[.string ⟨#[]⟩, .int .i64 8]) ∧ Below w.heap.size w w' from fun X hb =>
    print_lit w X [⟨1, ⟨#[49]⟩, 0, 0⟩] _ 1 ⟨#[]⟩ 8 hb rfl rfl (by unfold RawOk; decide) (by decide) hL (by first | kernel_rfl | decide +kernel))
  have HP2 := Lib.hid (show ∀ X, Below w.heap.size w X → Calls Tryd.prog 10 #[.slice (some ⟨X.heap.size, 0, none⟩) 1 1] (X.alloc (.cells #[.int .u8 2, .string ⟨#[49]⟩, .int .i64 2, .int .i64 0] 29)) fun e w' => e = .returned (.tuple #[.string ⟨#[]⟩, .int .i64 8]) ∧ Below w.heap.size w w' from fun X hb =>
    print_lit w X [⟨2, ⟨#[49]⟩, 2, 0⟩] _ 1 ⟨#[]⟩ 8 hb rfl rfl (by unfold RawOk; decide) (by decide) hL (by first | kernel_rfl | decide +kernel))
  have HP3 := Lib.hid (show ∀ X, Below w.heap.size w X → Calls Tryd.prog 10 #[.slice (some ⟨X.heap.size, 0, none⟩) 1 1] (X.alloc (.cells #[.int .u8 0, .string ⟨#[]⟩, .int .i64 0, .int .i64 0] 29)) fun e w' => e = .returned (.tuple #[.string ⟨#[]⟩, .int .i64 8]) ∧ Below w.heap.size w w' from fun X hb =>
    print_lit w X [⟨0, ⟨#[]⟩, 0, 0⟩] _ 1 ⟨#[]⟩ 8 hb rfl rfl (by unfold RawOk; decide) (by decide) hL (by first | kernel_rfl | decide +kernel))
  have HP5 := Lib.hid (show ∀ X, Below w.heap.size w X → Calls Tryd.prog 10 #[.slice (some ⟨X.heap.size, 0, none⟩) 4 4] (X.alloc (.cells #[.int .u8 1, .string ⟨#[97]⟩, .int .i64 0, .int .i64 0, .int .u8 4, .string ⟨#[58]⟩, .int .i64 0, .int .i64 0, .int .u8 5, .string ⟨#[10]⟩, .int .i64 0, .int .i64 77, .int .u8 3, .string ⟨#[]⟩, .int .i64 0, .int .i64 0] 29)) fun e w' => e = .returned (.tuple #[.string ⟨#[97, 32, 58, 10, 34, 34]⟩, .int .i64 0]) ∧ Below w.heap.size w w' from fun X hb =>
    print_lit w X [⟨1, ⟨#[97]⟩, 0, 0⟩, ⟨4, ⟨#[58]⟩, 0, 0⟩, ⟨5, ⟨#[10]⟩, 0, 77⟩, ⟨3, ⟨#[]⟩, 0, 0⟩] _ 4 ⟨#[97, 32, 58, 10, 34, 34]⟩ 0 hb rfl rfl (by unfold RawOk; decide) (by decide) hL (by first | kernel_rfl | decide +kernel))
  have HPO := Lib.hid (fun A c W => print_over A 20001 c W (by omega))
  have HLI := Lib.hid (show ∀ X, Below w.heap.size w X → Calls Tryd.prog 13 #[.slice (some ⟨X.heap.size, 0, none⟩) 4 4] (X.alloc (.cells #[.int .u8 1, .string ⟨#[97]⟩, .int .i64 0, .int .i64 0, .int .u8 5, .string ⟨#[]⟩, .int .i64 0, .int .i64 0, .int .u8 5, .string ⟨#[]⟩, .int .i64 0, .int .i64 0, .int .u8 1, .string ⟨#[98]⟩, .int .i64 0, .int .i64 0] 29)) fun e w' => ∃ g c A0 c0 A1 c1 A2 c2, e = .returned (.slice (some ⟨g, 0, none⟩) 3 c) ∧ w'.cell? ⟨g, 0, none⟩ = some (.slice A0 1 c0) ∧ w'.cell? ⟨g, 1, none⟩ = some (.slice A1 0 c1) ∧ w'.cell? ⟨g, 2, none⟩ = some (.slice A2 1 c2) ∧ Below w.heap.size w w' from fun X hb => lines_lit w X _ hb rfl)
  have HR0 := Lib.hid (rd0 w hL)
  have HR1 := Lib.hid (rd1 w hL)
  have HR2 := Lib.hid (rd2 w hL)
  have HR3 := Lib.hid (rd3 w hL)
  have HR4 := Lib.hid (rd4 w hL)
  have HR5 := Lib.hid (rd5 w hL)
  have HR6 := Lib.hid (rd6 w hL)
  have HF0 := Lib.hid (fl0 w hL)
  have HF1 := Lib.hid (fl1 w hL)
  have HF2 := Lib.hid (fl2 w hL)
  have HF3 := Lib.hid (fl3 w hL)
  have HF4 := Lib.hid (fl4 w hL)
  have HF5 := Lib.hid (fl5 w hL)
  have HF6 := Lib.hid (fl6 w hL)
  have HF7 := Lib.hid (fl7 w hL)
  have HF8 := Lib.hid (fl8 w hL)
  have HF9 := Lib.hid (fl9 w hL)
  have HF10 := Lib.hid (fl10 w hL)
  have HF11 := Lib.hid (fl11 w hL)
  have HF12 := Lib.hid (fl12 w hL)
  have HF13 := Lib.hid (fl13 w hL)
  have HB := Lib.hid (Below.refl w.heap.size w)
  clear hA hL hS1 hS2 hS3 hS4 hlx hM hi1 hy1 hy2 hy3 hi2 hx1 hx2 hx3 hfill
  go_enter Tryd.func4, Tryd.ntmps4
  go_wp2_with (first
    | (go_at_call 9; (with_reducible refine (HM1.out _ HB.out).mono ?_); rintro e w1 ⟨rfl, hb⟩; have HB := Lib.hid hb; clear hb)
    | (go_at_call 9; (with_reducible refine (HM2.out _ HB.out).mono ?_); rintro e w1 ⟨rfl, hb⟩; have HB := Lib.hid hb; clear hb)
    | (go_at_call 9; (with_reducible refine (HM3.out _ HB.out).mono ?_); rintro e w1 ⟨rfl, hb⟩; have HB := Lib.hid hb; clear hb)
    | (go_at_call 6; (with_reducible refine (HT1.out _ HB.out).mono ?_); rintro e w1 ⟨A1, c1, rfl, hb⟩; have HB := Lib.hid hb; clear hb)
    | (go_at_call 6; (with_reducible refine (HT2.out _ HB.out).mono ?_); rintro e w1 ⟨A2, c2, rfl, hb⟩; have HB := Lib.hid hb; clear hb)
    | (go_at_call 6; (with_reducible refine (HT3.out _ HB.out).mono ?_); rintro e w1 ⟨A3, c3, rfl, hb⟩; have HB := Lib.hid hb; clear hb))
  obtain ⟨b, hb0⟩ : ∃ b, b = w1.heap.size := ⟨_, rfl⟩
  have HBB := Lib.hid hb0
  have HB2 := Lib.hid (HB.out.alloc HB.out.size OB)
  have HF0 : Hid (FillAt (w1.alloc OB) b 65536 0 32) := Lib.hid (by rw [hb0]; exact HFI.out w1)
  rw [← HBB.out]
  clear hb0
  go_loopw [11] (fun v wr => ∃ i : Nat, v = .int .i64 i ∧ i ≤ 65536 ∧ Hid (FillAt wr b 65536 i 32 ∧ Below w.heap.size w wr)) (fun v _ => 65536 - (intOf v).toNat)
  case atStart => exact ⟨0, rfl, Nat.zero_le _, Lib.hid ⟨HF0.out, HB2.out⟩⟩
  case round =>
    obtain ⟨i, rfl, hi, HI⟩ := hrel
    by_cases hlt : i < 65536
    · obtain ⟨x, hx⟩ := HI.out.1.cell i hlt
      have hf := HI.out.1.frozen i
      have g1 : (i : Int) < 65536 := by omega
      have HLT := Lib.hid hlt
      go_wp2
      go_roundw
      case rel => exact ⟨i + 1, by first | rfl | go_num | (congr 1), by have := HLT.out; omega, Lib.hid ⟨HI.out.1.step HLT.out, HI.out.2.setCell (p := ⟨b, i, none⟩) (by rw [HBB.out]; exact HB.out.size) _⟩⟩
      case measure => simp only [intOf]; have := HLT.out; omega
    · have h65 : i = 65536 := by omega
      have hcv : (convert 32 9 (.slice (some ⟨b, 0, none⟩) 65536 65536)).run Tryd.prog wr = .ok (.string S4) wr := by
        have h1 := HI.out.1
        rw [h65] at h1
        rw [HS4.out]
        exact h1.string (c := 32) 9 Tryd.underlying9
      have g1 : ¬ (i : Int) < 65536 := by omega
      have HB := Lib.hid HI.out.2
      clear HI hi hlt h65 HF0 HB2
      go_wp2_with (first
        | (go_at_call 6; (with_reducible refine (HT4.out _ HB.out).mono ?_); rintro e w2 ⟨A4, c4, rfl, hb⟩; have HB := Lib.hid hb; clear hb)
        | (go_at_call 10; (with_reducible refine (HP1.out _ HB.out).mono ?_); rintro e w2 ⟨rfl, hb⟩; have HB := Lib.hid hb; clear hb)
        | (go_at_call 10; (with_reducible refine (HP2.out _ HB.out).mono ?_); rintro e w2 ⟨rfl, hb⟩; have HB := Lib.hid hb; clear hb)
        | (go_at_call 10; (with_reducible refine (HP3.out _ HB.out).mono ?_); rintro e w2 ⟨rfl, hb⟩; have HB := Lib.hid hb; clear hb)
        | (go_at_call 10; (with_reducible refine (HP5.out _ HB.out).mono ?_); rintro e w2 ⟨rfl, hb⟩; have HB := Lib.hid hb; clear hb)
        | (go_at_call 10; (with_reducible refine (HPO.out _ _ _).mono ?_); rintro e w2 ⟨rfl, rfl⟩; have HB := Lib.hid (HB.out.alloc HB.out.size OT))
        | (go_at_call 11; (with_reducible refine (HNA.out _ _ HB.out).mono ?_); rintro e w2 ⟨rfl, hb⟩; have HB := Lib.hid hb; clear hb)
        | (go_at_call 12; (with_reducible refine (HMA.out _ _ HB.out).mono ?_); rintro e w2 ⟨rfl, hb⟩; have HB := Lib.hid hb; clear hb)
        | (go_at_call 15; (with_reducible refine (HNU.out _ _ _ HB.out).mono ?_); rintro e w2 ⟨rfl, hb⟩; have HB := Lib.hid hb; clear hb)
        | (go_at_call 13; (with_reducible refine (HLI.out _ HB.out).mono ?_); rintro e w2 ⟨gl, cl, A5, c5, A6, c6, A7, c7, rfl, l0, l1, l2, hb⟩; have HB := Lib.hid hb; clear hb)
        | (go_at_call 14; (with_reducible refine (HR0.out _ HB.out).mono ?_); rintro e w2 ⟨rfl, hb⟩; have HB := Lib.hid hb; clear hb)
        | (go_at_call 14; (with_reducible refine (HR1.out _ HB.out).mono ?_); rintro e w2 ⟨rfl, hb⟩; have HB := Lib.hid hb; clear hb)
        | (go_at_call 14; (with_reducible refine (HR2.out _ HB.out).mono ?_); rintro e w2 ⟨rfl, hb⟩; have HB := Lib.hid hb; clear hb)
        | (go_at_call 14; (with_reducible refine (HR3.out _ HB.out).mono ?_); rintro e w2 ⟨rfl, hb⟩; have HB := Lib.hid hb; clear hb)
        | (go_at_call 14; (with_reducible refine (HR4.out _ HB.out).mono ?_); rintro e w2 ⟨rfl, hb⟩; have HB := Lib.hid hb; clear hb)
        | (go_at_call 14; (with_reducible refine (HR5.out _ HB.out).mono ?_); rintro e w2 ⟨rfl, hb⟩; have HB := Lib.hid hb; clear hb)
        | (go_at_call 14; (with_reducible refine (HR6.out _ HB.out).mono ?_); rintro e w2 ⟨rfl, hb⟩; have HB := Lib.hid hb; clear hb)
        | (go_at_call 16; (with_reducible refine (HF0.out _ HB.out).mono ?_); rintro e w2 ⟨rfl, hb⟩; have HB := Lib.hid hb; clear hb)
        | (go_at_call 16; (with_reducible refine (HF1.out _ HB.out).mono ?_); rintro e w2 ⟨rfl, hb⟩; have HB := Lib.hid hb; clear hb)
        | (go_at_call 16; (with_reducible refine (HF2.out _ HB.out).mono ?_); rintro e w2 ⟨rfl, hb⟩; have HB := Lib.hid hb; clear hb)
        | (go_at_call 16; (with_reducible refine (HF3.out _ HB.out).mono ?_); rintro e w2 ⟨rfl, hb⟩; have HB := Lib.hid hb; clear hb)
        | (go_at_call 16; (with_reducible refine (HF4.out _ HB.out).mono ?_); rintro e w2 ⟨rfl, hb⟩; have HB := Lib.hid hb; clear hb)
        | (go_at_call 16; (with_reducible refine (HF5.out _ HB.out).mono ?_); rintro e w2 ⟨rfl, hb⟩; have HB := Lib.hid hb; clear hb)
        | (go_at_call 16; (with_reducible refine (HF6.out _ HB.out).mono ?_); rintro e w2 ⟨rfl, hb⟩; have HB := Lib.hid hb; clear hb)
        | (go_at_call 16; (with_reducible refine (HF7.out _ HB.out).mono ?_); rintro e w2 ⟨rfl, hb⟩; have HB := Lib.hid hb; clear hb)
        | (go_at_call 16; (with_reducible refine (HF8.out _ HB.out).mono ?_); rintro e w2 ⟨rfl, hb⟩; have HB := Lib.hid hb; clear hb)
        | (go_at_call 16; (with_reducible refine (HF9.out _ HB.out).mono ?_); rintro e w2 ⟨rfl, hb⟩; have HB := Lib.hid hb; clear hb)
        | (go_at_call 16; (with_reducible refine (HF10.out _ HB.out).mono ?_); rintro e w2 ⟨rfl, hb⟩; have HB := Lib.hid hb; clear hb)
        | (go_at_call 16; (with_reducible refine (HF11.out _ HB.out).mono ?_); rintro e w2 ⟨rfl, hb⟩; have HB := Lib.hid hb; clear hb)
        | (go_at_call 16; (with_reducible refine (HF12.out _ HB.out).mono ?_); rintro e w2 ⟨rfl, hb⟩; have HB := Lib.hid hb; clear hb)
        | (go_at_call 16; (with_reducible refine (HF13.out _ HB.out).mono ?_); rintro e w2 ⟨rfl, hb⟩; have HB := Lib.hid hb; clear hb)
        | (go_at_call 5; (with_reducible refine (HA.out _ HB.out).mono ?_); rintro e w2 ⟨rfl, hb⟩; have HB := Lib.hid hb; clear hb))
      go_ret
      exact ⟨rfl, HB.out⟩
theorem walk (W : World) (hL : laidMetH Tryd.prog Rows.lexerNamesRow.laid W) :
    Calls Tryd.prog 4 #[] W fun e w' => e = .returned (.bool true) ∧ Below W.heap.size W w' :=
  core W (laid_of W hL) (fun Y hb => lexerCovers.alive_later W Y hb hL)
end Go.Proofs.YtejjbbgompddeaaDoor.lexerNames
