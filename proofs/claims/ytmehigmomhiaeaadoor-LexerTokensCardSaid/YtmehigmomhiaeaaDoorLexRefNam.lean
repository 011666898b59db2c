/- The reference's next: names; for all bytes. -/
import Derived.Test.YtmehigmomhiaeaaDoorLexRefNum
namespace Go.Proofs.YtmehigmomhiaeaaDoor
open Go.RowKit
set_option linter.unusedVariables false
set_option linter.unusedSimpArgs false

theorem next_tokCells {w w1 : World} {a : Int} (k : Int) (hb : Below ((w.alloc (.cells #[.int .u8 0, .string ⟨#[]⟩, .int .i64 0, .int .i64 0] 33)).alloc (.cells #[.int .u8 k, .string ⟨#[]⟩, .int .i64 0, .int .i64 a] 33)).heap.size ((w.alloc (.cells #[.int .u8 0, .string ⟨#[]⟩, .int .i64 0, .int .i64 0] 33)).alloc (.cells #[.int .u8 k, .string ⟨#[]⟩, .int .i64 0, .int .i64 a] 33)) w1) :
    w1.heap[w.heap.size]? = some (.cells #[.int .u8 0, .string ⟨#[]⟩, .int .i64 0, .int .i64 0] 33 (0, 0)) ∧ w1.heap[w.heap.size + 1]? = some (.cells #[.int .u8 k, .string ⟨#[]⟩, .int .i64 0, .int .i64 a] 33 (0, 0)) := by
  refine ⟨?_, ?_⟩
  · refine (hb.block w.heap.size (by simp; omega)).trans ?_
    refine (Below.heap_alloc _ _ _ (by simp)).trans ?_
    exact (MapKept.heap_alloc w (.cells #[.int .u8 0, .string ⟨#[]⟩, .int .i64 0, .int .i64 0] 33)).1
  · refine (hb.block (w.heap.size + 1) (by simp)).trans ?_
    have := (MapKept.heap_alloc (w.alloc (.cells #[.int .u8 0, .string ⟨#[]⟩, .int .i64 0, .int .i64 0] 33)) (.cells #[.int .u8 k, .string ⟨#[]⟩, .int .i64 0, .int .i64 a] 33)).1
    simpa using this

theorem next_cells {w w1 : World} {a : Int} (k : Int) (hb : Below ((w.alloc (.cells #[.int .u8 0, .string ⟨#[]⟩, .int .i64 0, .int .i64 0] 33)).alloc (.cells #[.int .u8 k, .string ⟨#[]⟩, .int .i64 0, .int .i64 a] 33)).heap.size ((w.alloc (.cells #[.int .u8 0, .string ⟨#[]⟩, .int .i64 0, .int .i64 0] 33)).alloc (.cells #[.int .u8 k, .string ⟨#[]⟩, .int .i64 0, .int .i64 a] 33)) w1) :
    (w1.cell? ⟨w.heap.size, 0, none⟩ = some (.int .u8 0) ∧ w1.cell? ⟨w.heap.size, 1, none⟩ = some (.string ⟨#[]⟩) ∧ w1.cell? ⟨w.heap.size, 2, none⟩ = some (.int .i64 0) ∧ w1.cell? ⟨w.heap.size, 3, none⟩ = some (.int .i64 0) ∧ (∀ o, w1.frozen? ⟨w.heap.size, o, none⟩ = false)) ∧
    (w1.cell? ⟨w.heap.size + 1, 0, none⟩ = some (.int .u8 k) ∧ w1.cell? ⟨w.heap.size + 1, 1, none⟩ = some (.string ⟨#[]⟩) ∧ w1.cell? ⟨w.heap.size + 1, 2, none⟩ = some (.int .i64 0) ∧ w1.cell? ⟨w.heap.size + 1, 3, none⟩ = some (.int .i64 a) ∧ (∀ o, w1.frozen? ⟨w.heap.size + 1, o, none⟩ = false)) := by
  obtain ⟨h1, h2⟩ := next_tokCells k hb
  refine ⟨⟨?_, ?_, ?_, ?_, fun o => ?_⟩, ?_, ?_, ?_, ?_, fun o => ?_⟩
  all_goals first | (simp [World.cell?, h1]; done) | (simp [World.cell?, h2]; done) | (simp [World.frozen?, h1]; done) | (simp [World.frozen?, h2]; done)

theorem next_end {Wf : World} {B : Nat} {tmps : Array Value} {Q : Ending → World → Prop} {a0 a1 a2 a3 v5 v6 : Value} (h4 : tmps.getD 4 undef = .pointer (some ⟨B, 0, none⟩)) (h5 : tmps.getD 5 undef = v5) (h6 : tmps.getD 6 undef = v6)
    (hb : Wf.heap[B]? = some (.cells #[a0, a1, a2, a3] 33 (0, 0))) (hQ : Q (.returned (.tuple #[.agg #[a0, a1, a2, a3], v5, v6])) Wf) :
    bodyPost Tryd.prog Tryd.f33 Q Exit.ret ⟨tmps, []⟩ Wf := by
  have e0 : Wf.cell? ⟨B, 0, none⟩ = some a0 := by simp [World.cell?, hb]
  have e1 : Wf.cell? ⟨B, 1, none⟩ = some a1 := by simp [World.cell?, hb]
  have e2 : Wf.cell? ⟨B, 2, none⟩ = some a2 := by simp [World.cell?, hb]
  have e3 : Wf.cell? ⟨B, 3, none⟩ = some a3 := by simp [World.cell?, hb]
  have h4' : tmps[4]?.getD undef = .pointer (some ⟨B, 0, none⟩) := by simpa using h4
  have h5' : tmps[5]?.getD undef = v5 := by simpa using h5
  have h6' : tmps[6]?.getD undef = v6 := by simpa using h6
  exact bodyPost_ret (v := .tuple #[.agg #[a0, a1, a2, a3], v5, v6]) (by simp [results, Tryd.results33, go_sem, h4', h5', h6', e0, e1, e2, e3]) rfl hQ

theorem next_fin {w w2 W : World} {a k : Int} {tmps : Array Value} {R : Ending → Prop} {b0 b1 b2 b3 v5 v6 : Value} (hb : Below ((w.alloc (.cells #[.int .u8 0, .string ⟨#[]⟩, .int .i64 0, .int .i64 0] 33)).alloc (.cells #[.int .u8 k, .string ⟨#[]⟩, .int .i64 0, .int .i64 a] 33)).heap.size ((w.alloc (.cells #[.int .u8 0, .string ⟨#[]⟩, .int .i64 0, .int .i64 0] 33)).alloc (.cells #[.int .u8 k, .string ⟨#[]⟩, .int .i64 0, .int .i64 a] 33)) w2)
    (hW : Below w2.heap.size w2 W ∨ ∃ v, W = w2.setCell ⟨w.heap.size + 1, 1, none⟩ v)
    (h4 : tmps.getD 4 undef = .pointer (some ⟨w.heap.size, 0, none⟩)) (h5 : tmps.getD 5 undef = v5) (h6 : tmps.getD 6 undef = v6)
    (hR : R (.returned (.tuple #[.agg #[b0, b1, b2, b3], v5, v6]))) :
    bodyPost Tryd.prog Tryd.f33 (fun e w' => R e ∧ Below w.heap.size w w') Exit.ret ⟨tmps, []⟩ ((((W.setCell ⟨w.heap.size, 0, none⟩ b0).setCell ⟨w.heap.size, 1, none⟩ b1).setCell ⟨w.heap.size, 2, none⟩ b2).setCell ⟨w.heap.size, 3, none⟩ b3) := by
  have h0 := (next_tokCells k hb).1
  have hBW : Below w.heap.size w w2 := (((Below.refl _ _).alloc (Nat.le_refl _) _).alloc (by simp) _).trans (hb.mono (by simp; omega))
  have hBX : Below w.heap.size w W := by
    rcases hW with h | ⟨v, rfl⟩
    · exact hBW.trans (h.mono hBW.size)
    · exact hBW.setCell (by simp) _
  have hX : W.heap[w.heap.size]? = some (.cells #[.int .u8 0, .string ⟨#[]⟩, .int .i64 0, .int .i64 0] 33 (0, 0)) := by
    rcases hW with h | ⟨v, rfl⟩
    · exact (h.block _ (lt_of_block h0)).trans h0
    · exact (Below.heap_setCell w2 ⟨w.heap.size + 1, 1, none⟩ v w.heap.size (by simp)).trans h0
  exact next_end h4 h5 h6 (set4 hX b0 b1 b2 b3) ⟨hR, (((hBX.setCell (Nat.le_refl _) _).setCell (Nat.le_refl _) _).setCell (Nat.le_refl _) _).setCell (Nat.le_refl _) _⟩

set_option maxHeartbeats 2000000 in
set_option maxRecDepth 100000 in
theorem refNext_name (s : ByteArray) (a : Nat) (w : World) (hs : s.size ≤ 999999) (ha : a < s.size) (c : UInt8) (t : List UInt8) (hd : s.data.toList.drop a = c :: t) (hm : letN c.toNat = true) :
    Calls Tryd.prog 33 #[.string s, .int .i64 a] w fun e w' => NextGives (s.data.toList.drop a) a e ∧ Below w.heap.size w w' := by
  have hc := byte_at ha hd
  obtain ⟨h3, h10, h34, hmk⟩ := cls_let ⟨c.toNat, c.toNat_lt⟩ hm
  simp only at h3 h10 h34 hmk
  have n10 : ((c.toNat : Int) == 10) = false := byte_ne' (m := 10) h10
  have n34 : ((c.toNat : Int) == 34) = false := byte_ne' (m := 34) h34
  have HM := Lib.hid (fun W => refMark_any c.toNat W c.toNat_lt)
  have HLt := Lib.hid (fun W => refLetter_any c.toNat W c.toNat_lt)
  rw [hmk] at HM
  rw [hm] at HLt
  have hn : nextT (c :: t) = if nameB (wordB c t) = true then some (⟨1, wordB c t, 0⟩, (wordB c t).length) else none := by
    simp only [nextT]
    rw [if_neg (by omega), if_neg (by omega), if_neg (by omega), if_pos h3]
  have hl : s.data.toList.length = s.size := rfl
  have hwl := wordS_list (bs := s) hd
  have hws := wordS_size s a hd
  have HB := Lib.hid (And.intro hd (And.intro hn (And.intro hwl (And.intro hws hl))))
  obtain ⟨L, hL⟩ : ∃ L, s.size = L := ⟨_, rfl⟩
  have HL := Lib.hid hL
  have L9 : L ≤ 999999 := by omega
  have aL : a < L := by omega
  clear hd hl hs hn hwl hws h3 h10 h34 hmk hm
  go_enter Tryd.func33, Tryd.ntmps33
  go_wp2_with (first
    | (go_at_call 53; (with_reducible refine (HM.out _).mono ?_); rintro e w' ⟨rfl, rfl⟩)
    | (go_at_call 54; (with_reducible refine (HLt.out _).mono ?_); rintro e w' ⟨rfl, rfl⟩))
  clear hc
  go_loop [9] (fun v => ∃ x k : Nat, v = .int .i64 x ∧ x ≤ L ∧ a < x ∧ Hid (x = a + 1 + k ∧ wn s.data.toList (a + 1) = k + wn s.data.toList x)) (fun v => L - (intOf v).toNat)
  case atStart => exact ⟨a + 1, 0, by first | rfl | (simp; done) | go_num, by omega, by omega, Lib.hid ⟨rfl, by simp⟩⟩
  case round =>
    obtain ⟨x, k, rfl, hx, hax, HK⟩ := hrel
    have HEND : Hid (contI s.data.toList x = false → s.extract a x = wordS s a ∧ x = a + (wordB c t).length) := Lib.hid (fun h0 => by
      obtain ⟨hk1, hk2⟩ := HK.out
      have hw := wn_no h0
      have hxx : a + 1 + wn s.data.toList (a + 1) = x := by omega
      refine ⟨by unfold wordS; rw [hxx], ?_⟩
      have := HB.out.2.2.2.1.1
      unfold wordS at this
      rw [hxx, ByteArray.size_extract] at this
      have := HL.out
      omega)
    by_cases hgo : x < L ∧ contI s.data.toList x = true
    · obtain ⟨hlt, hp⟩ := hgo
      obtain ⟨d, hdd⟩ : ∃ d : UInt8, s[x]'(by omega) = d := ⟨_, rfl⟩
      have hci : contI s.data.toList x = isW d := cont_at (by rw [Lib.data_getElem? s x (by omega), hdd])
      have HWd := Lib.hid (fun W => refWord_any d.toNat W d.toNat_lt)
      rw [← isW_eq, ← hci, hp] at HWd
      have HN := Lib.hid (show x + 1 = a + 1 + (k + 1) ∧ wn s.data.toList (a + 1) = (k + 1) + wn s.data.toList (x + 1) from by
        obtain ⟨hk1, hk2⟩ := HK.out
        have := (wn_yes hp).1
        exact ⟨by omega, by omega⟩)
      clear hci hp
      go_wp2_with (go_at_call 56; (with_reducible refine (HWd.out _).mono ?_); rintro e w' ⟨rfl, rfl⟩)
      go_round
      case rel => exact ⟨x + 1, k + 1, by go_num, by omega, by omega, HN⟩
      case measure => simp only [intOf]; omega
    · have hp : contI s.data.toList x = false := by
        by_cases hlt : x < L
        · simpa using fun h => hgo ⟨hlt, h⟩
        · exact cont_out (by have := HB.out.2.2.2.2; have := HL.out; omega)
      have HG : Hid (∀ (hlt : x < L) (W : World), Calls Tryd.prog 56 #[.int .u8 ((s[x]'(by omega)).toNat : Nat)] W fun e w' => e = .returned (.bool false) ∧ W = w') := Lib.hid (fun hlt W => by
        have h := refWord_any (s[x]'(by omega)).toNat W (s[x]'(by omega)).toNat_lt
        rw [← isW_eq, ← cont_at (l := s.data.toList) (i := x) (by rw [Lib.data_getElem? s x (by omega)]), hp] at h
        exact h)
      obtain ⟨he, hxe⟩ := HEND.out hp
      obtain ⟨S, hS⟩ : ∃ S, wordS s a = S := ⟨_, rfl⟩
      rw [hS] at he
      have HN := Lib.hid (fun W => refName_any S W (by have := HB.out.2.2.2.1.2; rw [hS] at this; have := HL.out; omega))
      obtain ⟨q, hq⟩ : ∃ q, nameR S = q := ⟨_, rfl⟩
      have hq2 : nameB (wordB c t) = q := by rw [← hq, nameR_nameB, ← hS, HB.out.2.2.1]
      rw [hq] at HN
      have HX : Hid (NextGives (s.data.toList.drop a) a (.returned (if q = true then .tuple #[.agg #[.int .u8 1, .string S, .int .i64 0, .int .i64 (a : Nat)], .int .i64 (x : Int), .bool true] else .tuple #[.agg #[.int .u8 0, .string ⟨#[]⟩, .int .i64 0, .int .i64 0], .int .i64 0, .bool false]))) := Lib.hid (by
        cases q with
        | true => exact nextGives_some (x := ⟨1, wordB c t, 0⟩) (n := (wordB c t).length) (by rw [HB.out.1, HB.out.2.1, hq2]; rfl) (by rw [← hS]; exact HB.out.2.2.1) rfl rfl (by omega)
        | false => exact nextGives_none (by rw [HB.out.1, HB.out.2.1, hq2]; rfl))
      clear hp hS hq hq2 hxe hgo
      have hlr : (x < L ∧ ¬ x = L) ∨ x = L := by omega
      rcases hlr with ⟨hlt, _⟩ | rfl
      · cases q with
        | false =>
          rw [if_neg (by decide)] at HX
          go_wp2_with (first
            | (go_at_call 56; (with_reducible refine (HG.out hlt _).mono ?_); rintro e w' ⟨rfl, rfl⟩)
            | (go_at_call 54; (with_reducible refine (HLt.out _).mono ?_); rintro e w' ⟨rfl, rfl⟩)
            | (go_at_call 57; (with_reducible refine (HN.out _).mono ?_); rintro e w2 ⟨rfl, hb2⟩; have HB2 := Lib.hid hb2; obtain ⟨⟨p0, p1, p2, p3, pf⟩, ⟨q0, q1, q2, q3, qf⟩⟩ := next_cells _ hb2; clear hb2))
          exact next_fin (R := NextGives (s.data.toList.drop a) a) HB2.out (.inl (Below.refl _ _)) rfl rfl rfl HX.out
        | true =>
          rw [if_pos rfl] at HX
          go_wp2_with (first
            | (go_at_call 56; (with_reducible refine (HG.out hlt _).mono ?_); rintro e w' ⟨rfl, rfl⟩)
            | (go_at_call 54; (with_reducible refine (HLt.out _).mono ?_); rintro e w' ⟨rfl, rfl⟩)
            | (go_at_call 57; (with_reducible refine (HN.out _).mono ?_); rintro e w2 ⟨rfl, hb2⟩; have HB2 := Lib.hid hb2; obtain ⟨⟨p0, p1, p2, p3, pf⟩, ⟨q0, q1, q2, q3, qf⟩⟩ := next_cells _ hb2; clear hb2))
          exact next_fin (R := NextGives (s.data.toList.drop a) a) HB2.out (.inr ⟨_, rfl⟩) rfl rfl rfl HX.out
      · cases q with
        | false =>
          rw [if_neg (by decide)] at HX
          go_wp2_with (first
            | (go_at_call 56; (with_reducible refine (HG.out hlt _).mono ?_); rintro e w' ⟨rfl, rfl⟩)
            | (go_at_call 54; (with_reducible refine (HLt.out _).mono ?_); rintro e w' ⟨rfl, rfl⟩)
            | (go_at_call 57; (with_reducible refine (HN.out _).mono ?_); rintro e w2 ⟨rfl, hb2⟩; have HB2 := Lib.hid hb2; obtain ⟨⟨p0, p1, p2, p3, pf⟩, ⟨q0, q1, q2, q3, qf⟩⟩ := next_cells _ hb2; clear hb2))
          exact next_fin (R := NextGives (s.data.toList.drop a) a) HB2.out (.inl (Below.refl _ _)) rfl rfl rfl HX.out
        | true =>
          rw [if_pos rfl] at HX
          go_wp2_with (first
            | (go_at_call 56; (with_reducible refine (HG.out hlt _).mono ?_); rintro e w' ⟨rfl, rfl⟩)
            | (go_at_call 54; (with_reducible refine (HLt.out _).mono ?_); rintro e w' ⟨rfl, rfl⟩)
            | (go_at_call 57; (with_reducible refine (HN.out _).mono ?_); rintro e w2 ⟨rfl, hb2⟩; have HB2 := Lib.hid hb2; obtain ⟨⟨p0, p1, p2, p3, pf⟩, ⟨q0, q1, q2, q3, qf⟩⟩ := next_cells _ hb2; clear hb2))
          exact next_fin (R := NextGives (s.data.toList.drop a) a) HB2.out (.inr ⟨_, rfl⟩) rfl rfl rfl HX.out

theorem refNext_any (s : ByteArray) (a : Nat) (w : World) (hs : s.size ≤ 999999) (ha : a < s.size) :
    Calls Tryd.prog 33 #[.string s, .int .i64 a] w fun e w' => NextGives (s.data.toList.drop a) a e ∧ Below w.heap.size w w' := by
  have hlt : a < s.data.toList.length := ha
  obtain ⟨c, t, hd⟩ : ∃ c t, s.data.toList.drop a = c :: t := ⟨_, _, List.drop_eq_getElem_cons hlt⟩
  by_cases h10 : c = 10
  · subst h10; exact refNext_line s a w hs ha t hd
  by_cases h34 : c = 34
  · subst h34; exact refNext_text s a w hs ha t hd
  cases hm : markN c.toNat with
  | true => exact refNext_mark s a w hs ha c t hd hm
  | false =>
    cases hl : letN c.toNat with
    | true => exact refNext_name s a w hs ha c t hd hl
    | false =>
      cases hn : (digN c.toNat || c.toNat == 45) with
      | true => exact refNext_num s a w hs ha c t hd hn
      | false =>
        refine refNext_rest s a w hs ha c t hd ?_
        rw [Bool.or_eq_false_iff] at hn
        have e10 : (c.toNat == 10) = false := by simp only [beq_eq_false_iff_ne]; exact fun e => h10 (UInt8.toNat_inj.1 e)
        have e34 : (c.toNat == 34) = false := by simp only [beq_eq_false_iff_ne]; exact fun e => h34 (UInt8.toNat_inj.1 e)
        rw [e10, hm, e34, hl, hn.1, hn.2]; rfl
end Go.Proofs.YtmehigmomhiaeaaDoor
