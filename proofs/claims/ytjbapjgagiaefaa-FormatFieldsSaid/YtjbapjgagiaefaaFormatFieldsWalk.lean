/- The walk of FormatFields. -/
import Derived.Test.YtjbapjgagiaefaaFormatPutsWalk
import Derived.Test.YtjbapjgagiaefaaFmtRefLay
namespace Go.Proofs.Ytjbapjgagiaefaa.formatFields
open Go.RowKit Go.Instr Go.Sort Go.ChangeShapes Go.Proofs.Ytjbapjgagiaefaa.formatPuts
set_option linter.unusedVariables false
set_option linter.unusedSimpArgs false
set_option maxRecDepth 100000
set_option maxHeartbeats 2000000

theorem emptyRow (w : World) (B : Nat) (hB : B ≤ w.heap.size) : (w.alloc (.cells #[] 33)).ownsRow B 33 2 (.slice (some ⟨w.heap.size, 0, none⟩) 0 0) 0 [] :=
  ⟨rfl, .inr ⟨_, 0, #[], rfl, hB, heap_alloc_new w _, Nat.le_refl _, by unfold maxLen; omega, rfl, rfl⟩⟩
theorem own_slice {w : World} {B n : Nat} {v : Value} {L : List MPiece} (h : w.ownsRow B 33 2 v n (pcRow L)) (hn : L.length = n) : ∃ A c, v = .slice A n c ∧ PcsAt w A L := by
  subst hn
  rcases h.2 with ⟨rfl, e⟩ | ⟨g, cap, cur, rfl, _⟩
  · refine ⟨none, 0, by rw [e], fun i x hx => ?_⟩
    have := (List.getElem?_eq_some_iff.1 hx).1
    omega
  · exact ⟨_, cap, rfl, pcsAt_own h⟩
theorem core (size : Int) (word : Nat) (A : Option Addr) (c : Nat) (L : List MPiece) (field : Nat) (w : World) (hA : PcsAt w A L) (hok : PcsOk L) (hc : L.length ≤ c) (hcm : c ≤ maxLen) (hword : word < 18446744073709551616) (hfield : field < 18446744073709551616) :
    Calls Try.prog 4 #[.int .i64 size, .int .u64 word, .slice A L.length c, .int .u64 field] w fun e w' => e = .returned (.bool true) ∧ Below w.heap.size w w' := by
  have G1 := Lib.hid (fun W (h : PcsAt W A L) => get_any size word A c L W h hok hc hcm hword)
  have G2 := Lib.hid (fun W (h : PcsAt W A L) => refGet_any size word A c L W h hok hc hcm hword)
  have M1 := Lib.hid (fun W (h : PcsAt W A L) => mask_any size A c L W h hok hc hcm)
  have M2 := Lib.hid (fun W (h : PcsAt W A L) => refMask_any size A c L W h hok hc hcm)
  have P1 := Lib.hid (fun W (h : PcsAt W A L) => put_any size word A c L field W h hok hc hcm hword hfield)
  have P2 := Lib.hid (fun W (h : PcsAt W A L) => refPut_any size word A c L field W h hok hc hcm hword hfield)
  have C1 := Lib.hid (fun W (h : PcsAt W A L) => check_any size A c L W h hok hc hcm)
  have C2 := Lib.hid (fun W (h : PcsAt W A L) => refCheck_any size A c L W h hok hc hcm)
  have HAL := Lib.hid (fun W (h : Below w.heap.size w W) => hA.later h)
  have hr0 := Below.refl w.heap.size w
  obtain ⟨i0, hi0, hz0, hz1, hz2⟩ := info_parts pc_info
  obtain ⟨n, hn⟩ : ∃ n, L.length = n := ⟨_, rfl⟩
  have HN := Lib.hid hn
  by_cases h50 : 50 < n
  · rw [hn]
    have g50 : decide (50 < n) = true := by simpa using h50
    have g50' : decide ((50 : Int) < n) = true := by simp; omega
    clear G1 G2 M1 M2 P1 P2 C1 C2 hA hok hc hcm hword hfield hn
    go_enter Try.func4, Try.ntmps4
    go_wp2
    go_ret
    exact ⟨rfl, by assumption⟩
  have g50 : decide (50 < n) = false := by simp; omega
  have g50' : decide ((50 : Int) < n) = false := by simp; omega
  have hn50 : (n : Int) ≤ 50 := by omega
  rw [hn] at G1 G2 M1 M2 P1 P2 C1 C2 ⊢
  generalize (maskR size L).1 = a1 at *
  generalize (maskR size L).2 = a2 at *
  generalize (putR size word L field).1 = b1 at *
  generalize (putR size word L field).2 = b2 at *
  generalize (getR size word L).1 = c1 at *
  generalize (getR size word L).2 = c2 at *
  clear hA hok hc hcm hword hfield hn h50
  go_enter Try.func4, Try.ntmps4
  go_wp2_with (at_builtin; refine Hid.out ?_)
  refine Lib.hid ?_
  have hb1 : Below w.heap.size w (w.alloc (.cells #[] 33)) := (Below.refl _ _).alloc (Nat.le_refl _) _
  have hsr : SrcAt (w.alloc (.cells #[] 33)) A n 2 (pcF L) := by have h := srcAt_pcs (HAL.out _ hb1); rwa [HN.out] at h
  have hrow : (List.range (n * 2)).map (pcF L) = pcRow L := by have h := pcF_all L; rwa [HN.out] at h
  refine wpList_append_src rfl _ _ 34 rfl w.heap.size 33 i0 (.agg #[.int .i64 0, .int .i64 0]) 2 16 Try.underlying34 hi0 hz0 hz1 hz2 rfl (by decide) _ 0 [] rfl (emptyRow w w.heap.size (Nat.le_refl _)) A n c (pcF L) rfl hsr (pcF_one _) (by unfold maxLen; omega) (by omega) (by simp) ?_
  intro v5 w5 hown5 hg5
  rw [hrow, List.nil_append, Nat.zero_add] at hown5
  have hB5 : Below w.heap.size w w5 := hb1.grown hg5 (by simp) (fun q hq => by cases hq; exact Nat.le_refl _)
  obtain ⟨A5, c5, rfl, hcl5⟩ := own_slice hown5 HN.out
  have HCL5 := Lib.hid hcl5
  have HA5 := Lib.hid (HAL.out _ hB5)
  have G1 := Lib.hid (lift_pcs HA5.out G1.out)
  have G2 := Lib.hid (lift_pcs HA5.out G2.out)
  have M1 := Lib.hid (lift_pcs HA5.out M1.out)
  have M2 := Lib.hid (lift_pcs HA5.out M2.out)
  have P1 := Lib.hid (lift_pcs HA5.out P1.out)
  have P2 := Lib.hid (lift_pcs HA5.out P2.out)
  have C1 := Lib.hid (lift_pcs HA5.out C1.out)
  have C2 := Lib.hid (lift_pcs HA5.out C2.out)
  have hr5 := Below.refl w5.heap.size w5
  clear hcl5 hown5 hg5 hb1 hsr hrow
  go_wp2_with (first
    | (go_at_call 16; (with_reducible refine (M1.out _ (by assumption)).mono ?_); rintro e w2 ⟨rfl, hb2⟩)
    | (go_at_call 21; (with_reducible refine (M2.out _ (by assumption)).mono ?_); rintro e w2 ⟨rfl, hb2⟩)
    | (go_at_call 18; (with_reducible refine (P1.out _ (by assumption)).mono ?_); rintro e w2 ⟨rfl, hb2⟩)
    | (go_at_call 22; (with_reducible refine (P2.out _ (by assumption)).mono ?_); rintro e w2 ⟨rfl, hb2⟩)
    | (go_at_call 17; (with_reducible refine (G1.out _ (by assumption)).mono ?_); rintro e w2 ⟨rfl, hb2⟩)
    | (go_at_call 23; (with_reducible refine (G2.out _ (by assumption)).mono ?_); rintro e w2 ⟨rfl, hb2⟩)
    | (go_at_call 19; (with_reducible refine (C1.out _ (by assumption)).mono ?_); rintro e w2 ⟨rfl, hb2⟩)
    | (go_at_call 24; (with_reducible refine (C2.out _ (by assumption)).mono ?_); rintro e w2 ⟨rfl, hb2⟩))
  go_loopw [22, 23] (fun vo vi wr => ∃ i : Nat, vo = .bool true ∧ vi = .int .i64 i ∧ i ≤ n ∧ Below w5.heap.size w5 wr) (fun _ vi _ => n - (intOf vi).toNat)
  case atStart => exact ⟨0, rfl, rfl, Nat.zero_le _, by assumption⟩
  case round =>
    obtain ⟨i, rfl, rfl, hi, hbr⟩ := hrel
    by_cases hlt : i < n
    · obtain ⟨x, hx⟩ : ∃ x, L[i]? = some x := ⟨_, List.getElem?_eq_getElem (by rw [HN.out]; exact hlt)⟩
      obtain ⟨g, o, rfl, hg, t0, t1⟩ := (HA5.out.later hbr) i x hx
      obtain ⟨g5, o5, rfl, hg5, u0, u1⟩ := (HCL5.out.later hbr) i x hx
      have HLT := Lib.hid hlt
      clear hx hg hg5
      go_wp2
      go_quiet (fail)
      go_wp2
      go_roundw
      case rel => exact ⟨i + 1, by first | rfl | simp, by first | rfl | go_num, by have := HLT.out; omega, hbr.trans (belDrewN _ _ _)⟩
      case measure => simp only [intOf]; have := HLT.out; omega
    · obtain rfl : i = n := by omega
      go_wp2
      go_ret
      exact ⟨rfl, hB5.trans (hbr.mono hB5.size)⟩
theorem walk {H : Type} {enc : TypeId × Value → H} {base : Nat} {W : World} {d2 : DataW H} {p2 : List MemPlace} (a0 a1 : Int) (v2 : Value) (a3 : Int) (w0 : (Lit.int .i64 a0).wf = true) (w1 : (Lit.int .u64 a1).wf = true) (ok2 : Value.okWide Try.prog W .any base 34 v2) (h2 : DataW.Trod enc Try.prog W 0 (fun _ => true) true 34 v2 d2 p2) (w3 : (Lit.int .u64 a3).wf = true) :
    Calls Try.prog 4 #[.int .i64 a0, .int .u64 a1, v2, .int .u64 a3] W fun e w' => e = .returned (.bool true) ∧ Below W.heap.size W w' := by
  obtain ⟨x, rfl, hx⟩ := nat_u64 w1
  obtain ⟨y, rfl, hy⟩ := nat_u64 w3
  obtain ⟨A, c, L, rfl, hA, hok, hc, hcm⟩ := open_pieces ok2 h2
  exact core a0 x A c L y W hA hok hc hcm hx hy
end Go.Proofs.Ytjbapjgagiaefaa.formatFields
