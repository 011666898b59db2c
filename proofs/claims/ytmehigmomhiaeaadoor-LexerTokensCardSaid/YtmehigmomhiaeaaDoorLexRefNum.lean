/- The reference's next: names and numbers; for all bytes. -/
import Derived.Test.YtmehigmomhiaeaaDoorLexRefText
import Derived.Test.YtmehigmomhiaeaaDoorLexRefMinus
namespace Go.Proofs.YtmehigmomhiaeaaDoor
open Go.RowKit
set_option linter.unusedVariables false
set_option linter.unusedSimpArgs false

set_option maxHeartbeats 2000000 in
set_option maxRecDepth 100000 in
theorem refNext_num (s : ByteArray) (a : Nat) (w : World) (hs : s.size ≤ 999999) (ha : a < s.size) (c : UInt8) (t : List UInt8) (hd : s.data.toList.drop a = c :: t) (hm : (digN c.toNat || c.toNat == 45) = true) :
    Calls Tryd.prog 33 #[.string s, .int .i64 a] w fun e w' => NextGives (s.data.toList.drop a) a e ∧ Below w.heap.size w w' := by
  have hc := byte_at ha hd
  obtain ⟨h46, h10, h34, hmk, hlt⟩ := cls_num ⟨c.toNat, c.toNat_lt⟩ hm
  simp only at h46 h10 h34 hmk hlt
  have n10 : ((c.toNat : Int) == 10) = false := byte_ne' (m := 10) h10
  have n34 : ((c.toNat : Int) == 34) = false := byte_ne' (m := 34) h34
  have HM := Lib.hid (fun W => refMark_any c.toNat W c.toNat_lt)
  have HLt := Lib.hid (fun W => refLetter_any c.toNat W c.toNat_lt)
  have HG := Lib.hid (fun W => refDigit_any c.toNat W c.toNat_lt)
  rw [hmk] at HM
  rw [hlt] at HLt
  have hn : nextT (c :: t) = (match numV (wordB c t) with | some n => some (⟨2, wordB c t, n⟩, (wordB c t).length) | none => none) := by
    simp only [nextT]
    rw [if_neg (by omega), if_neg (by omega), if_neg (by omega), if_neg (by omega), if_pos h46]
    rfl
  have hl : s.data.toList.length = s.size := rfl
  have hwl := wordS_list (bs := s) hd
  have hws := wordS_size s a hd
  have HB := Lib.hid (And.intro hd (And.intro hn (And.intro hwl (And.intro hws hl))))
  obtain ⟨L, hL⟩ : ∃ L, s.size = L := ⟨_, rfl⟩
  have HL := Lib.hid hL
  have L9 : L ≤ 999999 := by omega
  have aL : a < L := by omega
  obtain ⟨dg, hdg⟩ : ∃ dg, digN c.toNat = dg := ⟨_, rfl⟩
  rw [hdg] at HG
  have h45 : dg = true ∨ (dg = false ∧ ((c.toNat : Int) == 45) = true) := by
    rw [hdg] at hm
    cases dg with
    | true => exact .inl rfl
    | false => right; simp at hm; refine ⟨rfl, ?_⟩; rw [hm]; rfl
  clear hd hl hs hn hwl hws h46 h10 h34 hmk hlt hm hdg
  rcases h45 with rfl | ⟨rfl, h45⟩
  all_goals
    go_enter Tryd.func33, Tryd.ntmps33
    go_wp2_with (first
      | (go_at_call 53; (with_reducible refine (HM.out _).mono ?_); rintro e w' ⟨rfl, rfl⟩)
      | (go_at_call 54; (with_reducible refine (HLt.out _).mono ?_); rintro e w' ⟨rfl, rfl⟩)
      | (go_at_call 55; (with_reducible refine (HG.out _).mono ?_); rintro e w' ⟨rfl, rfl⟩))
    clear hc
    go_loop [9] (fun v => ∃ x k : Nat, v = .int .i64 x ∧ x ≤ L ∧ a < x ∧ Hid (x = a + 1 + k ∧ wn s.data.toList (a + 1) = k + wn s.data.toList x)) (fun v => L - (intOf v).toNat)
    case atStart => exact ⟨a + 1, 0, by first | rfl | (simp; done) | go_num, by omega, by omega, Lib.hid ⟨rfl, by simp⟩⟩
    case round =>
      obtain ⟨x, k, rfl, hx, hax, HK⟩ := hrel
      have HEND : Hid (contI s.data.toList x = false → s.extract a x = wordS s a ∧ x = a + (wordB c t).length) := Lib.hid (fun h0 => by
        obtain ⟨hk1, hk2⟩ := HK.out
        have hw := wn_no h0
        have hxx : a + 1 + wn s.data.toList (a + 1) = x := by omega
        refine ⟨by unfold wordS; rw [hxx], ?_⟩
        have := HB.out.2.2.2.1.1
        unfold wordS at this
        rw [hxx, ByteArray.size_extract] at this
        have := HL.out
        omega)
      by_cases hlt : x < L
      · obtain ⟨d, hdd⟩ : ∃ d : UInt8, s[x]'(by omega) = d := ⟨_, rfl⟩
        have hci : contI s.data.toList x = isW d := cont_at (by rw [Lib.data_getElem? s x (by omega), hdd])
        have HWd := Lib.hid (fun W => refWord_any d.toNat W d.toNat_lt)
        rw [← isW_eq, ← hci] at HWd
        cases hp : contI s.data.toList x with
        | true =>
          rw [hp] at HWd
          have HN := Lib.hid (show x + 1 = a + 1 + (k + 1) ∧ wn s.data.toList (a + 1) = (k + 1) + wn s.data.toList (x + 1) from by
            obtain ⟨hk1, hk2⟩ := HK.out
            have := (wn_yes hp).1
            exact ⟨by omega, by omega⟩)
          clear hci hp
          go_wp2_with (go_at_call 56; (with_reducible refine (HWd.out _).mono ?_); rintro e w' ⟨rfl, rfl⟩)
          go_round
          case rel => exact ⟨x + 1, k + 1, by go_num, by omega, by omega, HN⟩
          case measure => simp only [intOf]; omega
        | false =>
          rw [hp] at HWd
          obtain ⟨he, hxe⟩ := HEND.out hp
          obtain ⟨S, hS⟩ : ∃ S, wordS s a = S := ⟨_, rfl⟩
          rw [hS] at he
          have HN := Lib.hid (fun W => refNumber_any S W (by have := HB.out.2.2.2.1.2; rw [hS] at this; have := HL.out; omega))
          obtain ⟨V, hV⟩ : ∃ V, numV S.data.toList = V := ⟨_, rfl⟩
          have HV := Lib.hid (show numV (wordB c t) = V by rw [← hV, ← hS, HB.out.2.2.1])
          rw [hV] at HN
          cases V with
          | none =>
            have HX := Lib.hid (nextGives_none (a := a) (l := s.data.toList.drop a) (by rw [HB.out.1, HB.out.2.1, HV.out]))
            clear hci hp hS hV hxe
            go_wp2_with (first
              | (go_at_call 56; (with_reducible refine (HWd.out _).mono ?_); rintro e w' ⟨rfl, rfl⟩)
              | (go_at_call 54; (with_reducible refine (HLt.out _).mono ?_); rintro e w' ⟨rfl, rfl⟩)
              | (go_at_call 58; (with_reducible refine (HN.out _).mono ?_); rintro e w' ⟨rfl, rfl⟩))
            exact bodyPost_ret (by simp [results, Tryd.results33, go_sem]) rfl ⟨HX.out, ((Below.refl _ _).alloc (Nat.le_refl _) _).alloc (by simp) _⟩
          | some n =>
            have HX : Hid (NextGives (s.data.toList.drop a) a (.returned (.tuple #[.agg #[.int .u8 2, .string S, .int .i64 n, .int .i64 (a : Nat)], .int .i64 (x : Int), .bool true]))) :=
              Lib.hid (nextGives_some (x := ⟨2, wordB c t, n⟩) (n := (wordB c t).length) (by rw [HB.out.1, HB.out.2.1, HV.out]) (by rw [← hS]; exact HB.out.2.2.1) rfl rfl (by omega))
            clear hci hp hS hV hxe
            go_wp2_with (first
              | (go_at_call 56; (with_reducible refine (HWd.out _).mono ?_); rintro e w' ⟨rfl, rfl⟩)
              | (go_at_call 54; (with_reducible refine (HLt.out _).mono ?_); rintro e w' ⟨rfl, rfl⟩)
              | (go_at_call 58; (with_reducible refine (HN.out _).mono ?_); rintro e w' ⟨rfl, rfl⟩))
            exact bodyPost_ret (by simp [results, Tryd.results33, go_sem]) rfl ⟨HX.out, ((Below.refl _ _).alloc (Nat.le_refl _) _).alloc (by simp) _⟩
      · obtain rfl : x = L := by omega
        obtain ⟨he, hxe⟩ := HEND.out (cont_out (by have := HB.out.2.2.2.2; have := HL.out; omega))
        obtain ⟨S, hS⟩ : ∃ S, wordS s a = S := ⟨_, rfl⟩
        rw [hS] at he
        have HN := Lib.hid (fun W => refNumber_any S W (by have := HB.out.2.2.2.1.2; rw [hS] at this; have := HL.out; omega))
        obtain ⟨V, hV⟩ : ∃ V, numV S.data.toList = V := ⟨_, rfl⟩
        have HV := Lib.hid (show numV (wordB c t) = V by rw [← hV, ← hS, HB.out.2.2.1])
        rw [hV] at HN
        cases V with
        | none =>
          have HX := Lib.hid (nextGives_none (a := a) (l := s.data.toList.drop a) (by rw [HB.out.1, HB.out.2.1, HV.out]))
          clear hS hV hxe
          go_wp2_with (first
            | (go_at_call 54; (with_reducible refine (HLt.out _).mono ?_); rintro e w' ⟨rfl, rfl⟩)
            | (go_at_call 58; (with_reducible refine (HN.out _).mono ?_); rintro e w' ⟨rfl, rfl⟩))
          exact bodyPost_ret (by simp [results, Tryd.results33, go_sem]) rfl ⟨HX.out, ((Below.refl _ _).alloc (Nat.le_refl _) _).alloc (by simp) _⟩
        | some n =>
          have HX : Hid (NextGives (s.data.toList.drop a) a (.returned (.tuple #[.agg #[.int .u8 2, .string S, .int .i64 n, .int .i64 (a : Nat)], .int .i64 (x : Int), .bool true]))) :=
            Lib.hid (nextGives_some (x := ⟨2, wordB c t, n⟩) (n := (wordB c t).length) (by rw [HB.out.1, HB.out.2.1, HV.out]) (by rw [← hS]; exact HB.out.2.2.1) rfl rfl (by omega))
          clear hS hV hxe
          go_wp2_with (first
            | (go_at_call 54; (with_reducible refine (HLt.out _).mono ?_); rintro e w' ⟨rfl, rfl⟩)
            | (go_at_call 58; (with_reducible refine (HN.out _).mono ?_); rintro e w' ⟨rfl, rfl⟩))
          exact bodyPost_ret (by simp [results, Tryd.results33, go_sem]) rfl ⟨HX.out, ((Below.refl _ _).alloc (Nat.le_refl _) _).alloc (by simp) _⟩
end Go.Proofs.YtmehigmomhiaeaaDoor
