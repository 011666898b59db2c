/- The reference's Tokens. -/
import Derived.Test.YtmehigmomhiaeaaDoorLexRefNam
import Derived.Test.YtmehigmomhiaeaaDoorLexLex
namespace Go.Proofs.YtmehigmomhiaeaaDoor
open Go.RowKit Go.Instr
set_option linter.unusedVariables false
set_option linter.unusedSimpArgs false

structure RefLexAt (l : List UInt8) (w : World) (wr : World) (at' : Nat) (acc : List (Tk × Nat)) (v : Value) : Prop where
  below : Below w.heap.size w wr
  own : wr.ownsRow w.heap.size 33 4 v acc.length (tkRow acc)
  head : HeadAt l at' acc
  cap : acc.length ≤ 20000
theorem own_keep {w w' : World} {B n : Nat} {v : Value} {xs : List Value} (h : w.ownsRow B 33 4 v n xs) (hb : Below w.heap.size w w') : w'.ownsRow B 33 4 v n xs :=
  h.kept (grown_below (row := none) hb) (by by_cases e : v.ownBlock = none; exact .inl e; exact .inr e)

set_option maxHeartbeats 4000000 in
set_option maxRecDepth 100000 in
theorem refTokens_any (s : ByteArray) (w : World) (hs : s.size ≤ 999999) :
    Calls Tryd.prog 12 #[.string s] w fun e w' => TokensGives s.data.toList w e w' := by
  have hl : s.data.toList.length = s.size := rfl
  by_cases hbig : 65536 < s.size
  · have hR : lexR s.data.toList = ([], 0, 4) := by unfold lexR; rw [if_pos (by omega)]
    have HG := Lib.hid (show TokensGives s.data.toList w (.returned (.tuple #[.slice none 0 0, .int .i64 0, .int .i64 4])) w from ⟨_, by rw [hR]; rfl, by rw [hR]; exact nilRow _ _, Below.refl _ _⟩)
    have hb2 : (65536 : Int) < (s.size : Int) := by omega
    clear hR hl hbig hs
    go_enter Tryd.func12, Tryd.ntmps12
    go_wp2
    go_ret3
    exact HG.out
  have hsmall : ¬ (65536 : Int) < (s.size : Int) := by omega
  have hR : lexR s.data.toList = run (s.data.toList.length + 1) (s.data.toList.drop 0) 0 [] := by unfold lexR; rw [if_neg (by omega)]; rfl
  have HH := Lib.hid (headAt_of hR (by simp) (by omega))
  have HSK : Hid (∀ (a : Nat) W, a ≤ s.size → Calls Tryd.prog 32 #[.string s, .int .i64 a] W fun e w' => e = .returned (.int .i64 (a + skipN (s.data.toList.drop a) : Nat)) ∧ W = w') := Lib.hid (fun a W h => refSkip_any s a W hs h)
  have HSK0 : Hid (∀ W, Calls Tryd.prog 32 #[.string s, .int .i64 0] W fun e w' => e = .returned (.int .i64 (0 + skipN (s.data.toList.drop 0) : Nat)) ∧ W = w') := Lib.hid (fun W => refSkip_any s 0 W hs (Nat.zero_le _))
  obtain ⟨x0, hx0⟩ : ∃ x0, 0 + skipN (s.data.toList.drop 0) = x0 := ⟨_, rfl⟩
  rw [hx0] at HSK0 HH
  have HSZ := Lib.hid (And.intro hs hl)
  obtain ⟨i0, hi, hz0, hz1, hz2⟩ := info_parts tok_info
  clear hl hbig hs hR hx0
  go_enter Tryd.func12, Tryd.ntmps12
  go_wp2_with (go_at_call 32; (with_reducible refine (HSK0.out _).mono ?_); rintro e w1 ⟨rfl, rfl⟩)
  go_loopw [5, 6] (fun v p wr => ∃ (at' : Nat) (acc : List (Tk × Nat)), p = .int .i64 at' ∧ RefLexAt s.data.toList w wr at' acc v) (fun _ p _ => s.size - (intOf p).toNat)
  case atStart => exact ⟨_, [], rfl, Below.refl _ _, nilRow _ _, HH.out, by simp⟩
  case round =>
    obtain ⟨x, acc, rfl, hst⟩ := hrel
    obtain ⟨A, cp, rfl⟩ := own_slice hst.own
    have HST := Lib.hid hst
    obtain ⟨hs, hl⟩ := HSZ.out
    have hx := hst.head.1
    have x1 : (x : Int) ≤ 999999 := by omega
    have z2 : (s.size : Int) ≤ 999999 := by omega
    clear hst
    by_cases hlt : x < s.size
    · have g1 : (x : Int) < (s.size : Int) := by omega
      have HLT := Lib.hid hlt
      have HT := Lib.hid (fun W => refNext_any s x W hs hlt)
      clear hs hl hx hlt
      go_wp2_with (fail)
      refine (HT.out wr).mono ?_
      rintro e w4 ⟨ht, hb4⟩
      unfold NextGives at ht
      have HBB := Lib.hid hb4
      have HB4 := Lib.hid (HST.out.below.trans (hb4.mono HST.out.below.size))
      have HO4 := Lib.hid (own_keep HST.out.own hb4)
      clear hb4
      cases hn : nextT (s.data.toList.drop x) with
      | none =>
        rw [hn] at ht
        simp only at ht
        subst ht
        have HE := Lib.hid (HST.out.head.2.2.1 (fun e => by have := congrArg List.length e; rw [List.length_drop] at this; have := HLT.out; have := HSZ.out.2; simp at *; omega) hn)
        clear hn
        go_wp2
        go_ret3
        exact ⟨.slice none 0 0, by rw [HE.out]; rfl, by rw [HE.out]; exact nilRow _ _, HB4.out.alloc HB4.out.size _⟩
      | some y =>
        obtain ⟨y, n⟩ := y
        rw [hn] at ht
        simp only at ht
        subst ht
        have HN4 := Lib.hid hn
        clear hn
        by_cases hcap : acc.length = 20000
        · have HE := Lib.hid (HST.out.head.2.2.2.1 y n HN4.out (by omega))
          have hc2 : (20000 : Int) ≤ (acc.length : Int) := by omega
          go_wp2
          go_ret3
          exact ⟨.slice none 0 0, by rw [HE.out]; rfl, by rw [HE.out]; exact nilRow _ _, HB4.out.alloc HB4.out.size _⟩
        · have hacc : acc.length < 20000 := by have := HST.out.cap; omega
          have hc2 : ¬ (20000 : Int) ≤ (acc.length : Int) := by omega
          have HA5 := Lib.hid (HST.out.head.2.2.2.2 y n HN4.out hacc)
          have HAC := Lib.hid hacc
          have HSZ4 := Lib.hid HB4.out.size
          clear hacc hcap
          go_wp2_with (at_builtin; refine Hid.out ?_)
          refine Lib.hid ?_
          refine wpList_append_own _ rfl _ _ 22 rfl w.heap.size 33 i0 (.agg #[.int .u8 0, .string ⟨#[]⟩, .int .i64 0, .int .i64 0]) 4 40 Tryd.underlying22 hi hz0 hz1 hz2 rfl (by decide) _ acc.length (tkRow acc) rfl (own_keep (own_keep HO4.out (Below.alloc (Below.refl _ _) (Nat.le_refl _) _)) (Below.alloc (Below.refl _ _) (Nat.le_refl _) _)) ⟨_, 0, none⟩ 1 1 (tkC (y, x)) rfl rfl (tk_cells _ (y, x) _ _ (by simp)) (by intro u hu; simp [tkC] at hu; rcases hu with rfl | rfl | rfl | rfl <;> rfl) (by have := HAC.out; unfold maxLen; omega) (by have := HAC.out; omega) (by have := HSZ4.out; simp; omega) ?_
          intro v5 w5 hown5 hg5 _
          have hge := own_ge HST.out.own
          have hba : Below w4.heap.size w4 _ := ((Below.refl w4.heap.size w4).alloc (Nat.le_refl _) (.cells #[.int .u8 (y.k : Nat), .string ⟨y.t.toArray⟩, .int .i64 y.n, .int .i64 (x : Nat)] 33)).alloc (by simp) (.cells #[.int .u8 (y.k : Nat), .string ⟨y.t.toArray⟩, .int .i64 y.n, .int .i64 (x : Nat)] 33)
          have HB5 := Lib.hid ((HB4.out.trans (hba.mono HB4.out.size)).grown hg5 (by have := HB4.out.size; simp; omega) (fun k hk => hge _ hk))
          have HO5 := Lib.hid (show w5.ownsRow w.heap.size 33 4 v5 (acc ++ [(y, x)]).length (tkRow (acc ++ [(y, x)])) by rw [tkRow_snoc, List.length_append]; exact hown5)
          obtain ⟨x6, hx6⟩ : ∃ x6, x + n + skipN (s.data.toList.drop (x + n)) = x6 := ⟨_, rfl⟩
          have hle : x + n ≤ s.size := by have := (nextT_le HN4.out).2.1; rw [List.length_drop] at this; have := HSZ.out.2; have := HLT.out; omega
          have HS6 := Lib.hid (fun W => HSK.out (x + n) W hle)
          rw [hx6, show ((x + n : Nat) : Int) = (x : Int) + (n : Int) by omega] at HS6
          have HS7 : Hid (RefLexAt s.data.toList w w5 x6 (acc ++ [(y, x)]) v5) := Lib.hid (by
            obtain ⟨f, a0, rfl, h1, h2⟩ := HA5.out
            refine ⟨HB5.out, HO5.out, hx6 ▸ headAt_of h1 h2 (by have := HSZ.out.2; omega), by rw [List.length_append]; have := HAC.out; simp; omega⟩)
          have HM6 : Hid (s.size - x6 < s.size - x) := Lib.hid (by have := (nextT_le HN4.out).1; have := HLT.out; omega)
          clear hown5 hg5 hge hba hc2 hx6 hle
          go_wp2_with (go_at_call 32; (with_reducible refine (HS6.out _).mono ?_); rintro e w6 ⟨rfl, rfl⟩)
          go_roundw
          case rel => exact ⟨x6, _, rfl, HS7.out⟩
          case measure => have := HM6.out; simp only [intOf]; omega
    · have HE := Lib.hid (HST.out.head.2.1 (List.drop_of_length_le (by omega)))
      have g1 : ¬ (x : Int) < (s.size : Int) := by omega
      clear hs hl hx hlt
      go_wp2
      go_ret3
      exact ⟨_, by rw [HE.out]; rfl, by rw [HE.out]; exact HST.out.own, HST.out.below⟩
end Go.Proofs.YtmehigmomhiaeaaDoor
