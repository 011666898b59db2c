/- skip of package lexer. -/
import Derived.Test.YtejjbbgompddeaaDoorLexForms
namespace Go.Proofs.YtejjbbgompddeaaDoor
open Go.RowKit
set_option linter.unusedVariables false
set_option linter.unusedSimpArgs false

/-- What the initialisers lay holds wherever only the reader is written. -/
def LaidOn (w : World) (r : Nat) : Prop := ∀ W, w.grownBy W (some r) → LaidAt W
theorem LaidOn.on {w w' : World} {r : Nat} (h : LaidOn w r) (hg : w.grownBy w' (some r)) : LaidOn w' r := fun W hW => h W (grown_trans hg hW)
/-- Where a reader stands. -/
def atOf (r : Nat) (w : World) : Nat := match w.cell? ⟨r, 1, none⟩ with | some (.int _ n) => n.toNat | _ => 0
theorem atOf_eq {w : World} {r a : Nat} {m : Option Nat} {bs : ByteArray} (h : RdAt w r bs a m) : atOf r w = a := by unfold atOf; rw [h.c1]; simp

theorem cls_space {c : Nat} (h : cls c = 1) : c = 32 := by
  revert h; unfold cls; repeat' split
  all_goals first | (intro h; omega) | (intro h; contradiction)
theorem cls_remark {c : Nat} (h : cls c = 2) : c = 35 := by
  revert h; unfold cls; repeat' split
  all_goals first | (intro h; omega) | (intro h; contradiction)
theorem skip_space {l : List UInt8} {i : Nat} (h : clsI l i = 1) : i < l.length ∧ skipN (l.drop i) = 1 + skipN (l.drop (i + 1)) := by
  have hi : i < l.length := by
    rcases Nat.lt_or_ge i l.length with h' | h'
    · exact h'
    · rw [clsI_out h'] at h; cases h
  refine ⟨hi, ?_⟩
  rw [clsI_at (List.getElem?_eq_getElem hi)] at h
  have h32 : l[i] = 32 := UInt8.toNat_inj.1 (cls_space h)
  rw [List.drop_eq_getElem_cons hi, h32]
  conv => lhs; unfold skipN
  rw [if_pos rfl]; omega
theorem takeWhile_stop (p : UInt8 → Bool) : ∀ l : List UInt8, l.drop (l.takeWhile p).length = [] ∨ ∃ c t, l.drop (l.takeWhile p).length = c :: t ∧ p c = false
  | [] => .inl rfl
  | x :: t => by
    rw [List.takeWhile_cons]
    by_cases h : p x = true
    · rw [if_pos h]
      rcases takeWhile_stop p t with h' | ⟨c, u, h', hc⟩
      · left; simpa using h'
      · right; exact ⟨c, u, by simpa using h', hc⟩
    · rw [if_neg h]; right; exact ⟨x, t, rfl, by simpa using h⟩
theorem skip_remark {l : List UInt8} {i : Nat} (h : clsI l i = 2) : i < l.length ∧ skipN (l.drop i) = upN (l.drop i) 10 + skipN (l.drop (i + upN (l.drop i) 10)) ∧ 1 ≤ upN (l.drop i) 10 := by
  have hi : i < l.length := by
    rcases Nat.lt_or_ge i l.length with h' | h'
    · exact h'
    · rw [clsI_out h'] at h; cases h
  rw [clsI_at (List.getElem?_eq_getElem hi)] at h
  have h35 : l[i] = 35 := UInt8.toNat_inj.1 (cls_remark h)
  have hd : l.drop i = 35 :: l.drop (i + 1) := by rw [List.drop_eq_getElem_cons hi, h35]
  have hu : upN (l.drop i) 10 = ((l.drop (i + 1)).takeWhile (fun b => b != 10)).length + 1 := by
    unfold upN; rw [hd, List.takeWhile_cons, if_pos (by decide)]; rfl
  have hs : skipN (l.drop i) = ((l.drop (i + 1)).takeWhile (fun b => b != 10)).length + 1 := by
    rw [hd]; conv => lhs; unfold skipN
    rw [if_neg (by decide)]; rfl
  have h0 : skipN (l.drop (i + upN (l.drop i) 10)) = 0 := by
    rw [← List.drop_drop]
    rcases takeWhile_stop (fun b => b != 10) (l.drop i) with h' | ⟨c, t, h', hc⟩
    · show skipN ((l.drop i).drop ((l.drop i).takeWhile (fun b => b != 10)).length) = 0
      rw [h']; rfl
    · show skipN ((l.drop i).drop ((l.drop i).takeWhile (fun b => b != 10)).length) = 0
      rw [h']
      have : c = 10 := by simpa using hc
      rw [this]
      conv => lhs; unfold skipN
      rw [if_neg (by decide), if_neg (by decide)]
  exact ⟨hi, by rw [h0, hs, hu], by omega⟩
theorem skip_else {l : List UInt8} {i : Nat} (h1 : clsI l i ≠ 1) (h2 : clsI l i ≠ 2) : skipN (l.drop i) = 0 := by
  rcases Nat.lt_or_ge i l.length with hi | hi
  · rw [clsI_at (List.getElem?_eq_getElem hi)] at h1 h2
    rw [List.drop_eq_getElem_cons hi]
    unfold skipN
    rw [if_neg (fun e => h1 (by rw [e]; decide)), if_neg (fun e => h2 (by rw [e]; decide))]
  · rw [List.drop_of_length_le hi]; rfl

theorem quiet_left {P : Program} {f : FuncId} {args : Array Value} {w : World} {n : Nat} {v : Value}
    (h : Calls P f args (w.drewN n) fun e w' => e = .returned v ∧ w.drewN n = w') : Calls P f args (w.drewN n) fun e w'' => e = .returned v ∧ ∃ m, w'' = w.drewN m :=
  h.mono fun _ _ ⟨he, hm⟩ => ⟨he, n, hm.symm⟩
theorem RdAt.set1' {w : World} {r : Nat} {bs : ByteArray} {a : Nat} {m : Option Nat} (h : RdAt w r bs a m) (b : Nat) (v : Int) (hv : v = (b : Int)) : RdAt (w.setCell ⟨r, 1, none⟩ (.int .i64 v)) r bs b m := by rw [hv]; exact h.set1 b
set_option maxRecDepth 100000 in
theorem skip_any (r a : Nat) (m : Option Nat) (bs : ByteArray) (w : World) (hr : RdAt w r bs a m) (hT : LaidOn w r) (hbs : bs.size ≤ 999999) (ha : a ≤ bs.size) :
    Calls Tryd.prog 19 #[.pointer (some ⟨r, 0, none⟩)] w fun e w' => e = .returned (.tuple #[]) ∧ w.grownBy w' (some r) ∧ RdAt w' r bs (a + skipN (bs.data.toList.drop a)) m := by
  have hl : bs.data.toList.length = bs.size := rfl
  have HA := Lib.hid (And.intro hbs (And.intro ha hl))
  have HR := Lib.hid hr
  have HT := Lib.hid hT
  clear hbs ha hl hr hT
  go_enter Tryd.func19, Tryd.ntmps19
  go_wp2
  go_loopw [10] (fun _ wr => ∃ k : Nat, RdAt wr r bs (a + k) m ∧ w.grownBy wr (some r) ∧ Hid (skipN (bs.data.toList.drop a) = k + skipN (bs.data.toList.drop (a + k)) ∧ a + k ≤ bs.size)) (fun _ wr => bs.size - atOf r wr)
  case atStart => exact ⟨0, HR.out, World.grownBy.refl _ _, Lib.hid ⟨by simp, HA.out.2.1⟩⟩
  case round =>
    obtain ⟨k, hrd, hg, HK⟩ := hrel
    obtain ⟨hbs, ha, hl⟩ := HA.out
    obtain ⟨hk1, hk2⟩ := HK.out
    obtain ⟨x, hx⟩ : ∃ x, a + k = x := ⟨_, rfl⟩
    rw [hx] at hrd hk1 hk2
    have HX := Lib.hid hx
    have HC := Lib.hid (class_any r x x m bs wr hrd (HT.out _ hg).cls (by omega) (by omega))
    have c0 := hrd.c0
    have c1 := hrd.c1
    have f1 := hrd.f1
    have x1 : (x : Int) ≤ 999999 := by omega
    have HRD := Lib.hid hrd
    have HGR := Lib.hid hg
    obtain ⟨q, hq⟩ : ∃ q, clsI bs.data.toList x = q := ⟨_, rfl⟩
    rw [hq] at HC
    by_cases h1 : q = 1
    · subst h1
      obtain ⟨s1, s2⟩ := skip_space hq
      have HS := Lib.hid (And.intro s1 s2)
      have HK1 := Lib.hid hk1
      clear hrd hg hbs ha hl hk1 hk2 hx hq s1 s2 HK
      go_wp2_with (go_at_call 37; (with_reducible refine HC.out.mono ?_); rintro e w' ⟨rfl, rfl⟩)
      have HRD2 := Lib.hid (HRD.out.set1' (x + 1) ((x : Int) + 1) (by omega))
      go_roundw
      case rel => 
        refine ⟨k + 1, ?_, ?_, Lib.hid ⟨?_, ?_⟩⟩
        · rw [← Nat.add_assoc, HX.out]; exact HRD2.out
        · exact grown_trans HGR.out (grown_set _ _ _)
        · rw [HK1.out, HS.out.2, show a + (k + 1) = x + 1 by have := HX.out; omega]; omega
        · have := HX.out; have := HS.out.1; have := HA.out.2.2; omega
      case measure =>
        rw [atOf_eq HRD.out, atOf_eq HRD2.out]
        have := HS.out.1; have := HA.out.2.2; omega
    · by_cases h2 : q = 2
      · subst h2
        obtain ⟨s1, s2, s3⟩ := skip_remark hq
        obtain ⟨R, hR⟩ : ∃ R, bs.extract x bs.size = R := ⟨_, rfl⟩
        have hRl : R.data.toList = bs.data.toList.drop x := by
          rw [← hR, Lib.extract_data, List.take_of_length_le (by rw [List.length_drop]; omega)]
        have hRs : R.size ≤ bs.size := by rw [← hR, ByteArray.size_extract]; omega
        have HCU := Lib.hid (fun W => cut_any R 10 W (by omega))
        have has := cutA_size R 10
        obtain ⟨A, hA⟩ : ∃ A, cutA R 10 = A := ⟨_, rfl⟩
        obtain ⟨B, hB⟩ : ∃ B, cutB R 10 = B := ⟨_, rfl⟩
        obtain ⟨p, hp⟩ : ∃ p, cutQ R 10 = p := ⟨_, rfl⟩
        have hv : cutV R 10 = .tuple #[.string A, .string B, .bool p] := by unfold cutV; rw [hA, hB, hp]
        rw [hv] at HCU
        rw [hA, hRl] at has
        rw [← has] at s2 s3
        have hup := upN_le (bs.data.toList.drop x) 10
        rw [← has, List.length_drop] at hup
        have HS := Lib.hid (And.intro s1 (And.intro s2 (And.intro s3 hup)))
        have HK1 := Lib.hid hk1
        have HR2 := Lib.hid hR
        have n1 : ((2 : Int) == 1) = false := by decide
        have z1 : (x : Int) ≤ (bs.size : Int) := by omega
        have z2 : (bs.size : Int) ≤ 999999 := by omega
        have z3 : (x : Int) + (A.size : Int) ≤ 999999 := by omega
        clear hrd hg hbs ha hl hk1 hk2 hx hq s1 s2 s3 HK h1 hR hRl hRs has hA hB hp hv hup
        go_wp2_with (go_at_call 37; (with_reducible refine HC.out.mono ?_); rintro e w' ⟨rfl, rfl⟩)
        go_quiet ((go_at_call 38; rw [HR2.out]; exact Calls.quiet_of (HCU.out _)))
        go_wp2
        have HRD2 : ∀ nq, Hid (RdAt ((wr.drewN nq).setCell ⟨r, 1, none⟩ (.int .i64 ((x : Int) + (A.size : Int)))) r bs (x + A.size) m) := fun nq => Lib.hid (RdAt.set1' (w := wr.drewN nq) HRD.out (x + A.size) _ (by omega))
        go_roundw
        case rel =>
          refine ⟨k + A.size, ?_, ?_, Lib.hid ⟨?_, ?_⟩⟩
          · rw [← Nat.add_assoc, HX.out]; exact (HRD2 _).out
          · exact grown_trans (grown_trans HGR.out (grown_below (drewN_below _ _))) (grown_set _ _ _)
          · rw [HK1.out, HS.out.2.1, show a + (k + A.size) = x + A.size by have := HX.out; omega]; omega
          · have := HX.out; have := HS.out; have := HA.out.2.2; omega
        case measure =>
          rw [atOf_eq HRD.out, atOf_eq (HRD2 _).out]
          have := HS.out; have := HA.out.2.2; omega
      · have hz := skip_else (l := bs.data.toList) (i := x) (by rw [hq]; exact h1) (by rw [hq]; exact h2)
        have HE := Lib.hid (show RdAt wr r bs (a + skipN (bs.data.toList.drop a)) m by rw [hk1, hz, show a + (k + 0) = x by omega]; exact hrd)
        have n1 : ((q : Int) == 1) = false := by simp; omega
        have n2 : ((q : Int) == 2) = false := by simp; omega
        clear hrd hg hbs ha hl hk1 hk2 hx hq HK h1 h2 hz
        go_wp2_with (go_at_call 37; (with_reducible refine HC.out.mono ?_); rintro e w' ⟨rfl, rfl⟩)
        exact bodyPost_ret (v := .tuple #[]) (by simp [results, Tryd.results19, go_sem]) rfl ⟨rfl, HGR.out, HE.out⟩
end Go.Proofs.YtejjbbgompddeaaDoor
