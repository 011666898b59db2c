/- The reference's value, Bit, Places of layer 9. -/
import Derived.Test.YtjbapjgagiaefaaFmtRefMath
import Derived.Test.YtjbapjgagiaefaaFmtSrc
import Derived.Test.YtjbapjgagiaefaaFmtRef
namespace Go.Proofs.Ytjbapjgagiaefaa
open Go.RowKit Go.Instr
set_option linter.unusedVariables false
set_option linter.unusedSimpArgs false
set_option maxRecDepth 100000
set_option maxHeartbeats 2000000

theorem pow63 (i : Nat) (h : i ≤ 63) : 1 ≤ 2 ^ i ∧ 2 ^ i ≤ 9223372036854775808 := by
  have h1 := Nat.pow_le_pow_right (n := 2) (by omega) h
  have h2 := Nat.two_pow_pos i
  have h3 : 2 ^ i ≤ 9223372036854775808 := by simpa using h1
  omega
theorem wrap_dbl (P : Nat) (h : 2 * P < 18446744073709551616) : IntKind.u64.wrap (2 * (P : Int)) = ((2 * P : Nat) : Int) := by rw [IntKind.wrap_u64]; omega
theorem refValue_any (n : Nat) (hn : n ≤ 63) (w : World) :
    Calls Try.prog 43 #[.int .i64 n] w fun e w' => e = .returned (.int .u64 (2 ^ n : Nat)) ∧ w = w' := by
  obtain ⟨R, hR⟩ : ∃ R, 2 ^ n = R := ⟨_, rfl⟩
  rw [hR]
  have HR := Lib.hid hR
  clear hR
  go_enter Try.func43, Try.ntmps43
  go_wp2
  go_loop [3, 4] (fun p v => ∃ i P : Nat, v = .int .i64 i ∧ i ≤ n ∧ p = .int .u64 P ∧ Hid (P = 2 ^ i)) (fun _ v => n - (intOf v).toNat)
  case atStart => exact ⟨0, 1, rfl, Nat.zero_le _, rfl, Lib.hid rfl⟩
  case round =>
    obtain ⟨i, P, rfl, hi, rfl, HP⟩ := hrel
    by_cases hlt : i < n
    · have hp := pow63 (i + 1) (by omega)
      have he : 2 ^ (i + 1) = 2 * 2 ^ i := by rw [Nat.pow_succ, Nat.mul_comm]
      rw [he, ← HP.out] at hp
      have HE : Hid (2 * P = 2 ^ (i + 1)) := Lib.hid (by rw [he, HP.out])
      have hv := wrap_dbl P (by omega)
      clear he hp
      go_wp2
      go_round
      case rel => exact ⟨i + 1, 2 * P, by first | rfl | go_num, by omega, by first | rfl | go_num, HE⟩
      case measure => simp [intOf]; omega
    · obtain rfl : i = n := by omega
      have HP2 : Hid (P = R) := Lib.hid (by rw [HP.out, HR.out])
      go_wp2
      go_ret
      exact ⟨by rw [← HP2.out]; rfl, rfl⟩
theorem refBit_any (x n : Nat) (hn : n ≤ 63) (hx : x < 18446744073709551616) (w : World) :
    Calls Try.prog 45 #[.int .u64 x, .int .i64 n] w fun e w' => e = .returned (.int .i64 ((x.testBit n).toNat : Nat)) ∧ w = w' := by
  have HX := Lib.hid hx
  obtain ⟨R, hR⟩ : ∃ R, (x.testBit n).toNat = R := ⟨_, rfl⟩
  rw [hR]
  have HR := Lib.hid hR
  clear hx hR
  go_enter Try.func45, Try.ntmps45
  go_wp2
  go_loop [0, 5] (fun p v => ∃ i : Nat, v = .int .i64 i ∧ i ≤ n ∧ ∃ y : Nat, p = .int .u64 y ∧ Hid (y = x / 2 ^ i)) (fun _ v => n - (intOf v).toNat)
  case atStart => exact ⟨0, rfl, Nat.zero_le _, x, rfl, Lib.hid (by simp)⟩
  case round =>
    obtain ⟨i, rfl, hi, y, rfl, HY⟩ := hrel
    by_cases hlt : i < n
    · have HW := Lib.hid (wrap_half y (by rw [HY.out]; exact Nat.lt_of_le_of_lt (Nat.div_le_self _ _) HX.out))
      go_wp2
      go_round
      case rel => exact ⟨i + 1, by first | rfl | go_num, by omega, y / 2, by first | rw [HW.out] | rfl | go_num, Lib.hid (by rw [HY.out, Nat.div_div_eq_div_mul, Nat.pow_succ])⟩
      case measure => simp [intOf]; omega
    · obtain rfl : i = n := by omega
      have HE : Hid (y % 2 = R) := Lib.hid (by rw [← HR.out, HY.out, Nat.toNat_testBit])
      have v1 : IntKind.u64.wrap ((y : Int) % 2) = ((y % 2 : Nat) : Int) := by rw [IntKind.wrap_u64]; omega
      have v2 : wrap64 (((y % 2 : Nat)) : Int) = ((y % 2 : Nat) : Int) := wrap64_small _ (by omega) (by omega)
      go_wp2
      go_ret
      refine ⟨?_, rfl⟩
      rw [← HE.out]
      first | rfl | simp
/-- Places in memory. -/
def IntsAt (w : World) (v : Value) (L : List Nat) : Prop := ∃ A c, v = .slice A L.length c ∧ ∀ i p, L[i]? = some p → ∃ g, A = some ⟨g, 0, none⟩ ∧ w.cell? ⟨g, i, none⟩ = some (.int .i64 (p : Nat))
def intRow (L : List Nat) : List Value := L.map fun p => .int .i64 (p : Nat)
theorem intsAt_own {w : World} {B : Nat} {v : Value} {L : List Nat} (h : w.ownsRow B 3 1 v L.length (intRow L)) : IntsAt w v L := by
  rcases h.2 with ⟨rfl, hn⟩ | ⟨g, cap, cur, rfl, _⟩
  · refine ⟨none, 0, by rw [hn], fun i p hp => ?_⟩
    have := (List.getElem?_eq_some_iff.1 hp).1
    omega
  · refine ⟨_, cap, rfl, fun i p hp => ⟨g, rfl, ?_⟩⟩
    have hlt := (List.getElem?_eq_some_iff.1 hp).1
    refine (h.cellAt i (by omega)).trans ?_
    unfold intRow
    rw [List.getElem?_map, hp]; rfl
theorem int_info : (Try.prog.info? 3).map (fun i => (i.zero, i.size, i.bytes)) = some (some (.int .i64 0), 1, 8) := by kernel_rfl
theorem int_own_ge {w : World} {B n : Nat} {v : Value} {xs : List Value} (h : w.ownsRow B 3 1 v n xs) : ∀ k, v.ownBlock = some k → B ≤ k := by
  rcases h.2 with ⟨rfl, _⟩ | ⟨g, cap, cur, rfl, hg, _⟩
  · intro k hk; cases hk
  · intro k hk; cases hk; exact hg
/-- What Places gives. -/
def PlacesGive (L : List MPiece) (w : World) (e : Ending) (w' : World) : Prop := ∃ v, e = .returned v ∧ w'.ownsRow w.heap.size 3 1 v (placesL L).length (intRow (placesL L)) ∧ Below w.heap.size w w'
theorem placesL_app (L M : List MPiece) : placesL (L ++ M) = placesL L ++ placesL M := by
  induction L with
  | nil => rfl
  | cons x L ih => simp [placesL, ih]
theorem one_cell (W : World) (v : Value) (b : Nat) (T : TypeId) (hb : W.heap.size = b) : ∀ (j : Nat) (u : Value), [v][j]? = some u → (W.alloc (.cells #[v] T)).cell? ((⟨b, 0, none⟩ : Addr).add j) = some u := by
  subst hb
  intro j u hj
  match j, hj with
  | 0, hj =>
    simp at hj
    subst hj
    have e : ((⟨W.heap.size, 0, none⟩ : Addr).add 0) = ⟨W.heap.size, 0, none⟩ := by unfold Addr.add; split <;> simp_all
    rw [e]
    simp only [World.cell?]
    rw [heap_alloc_new]
    rfl
  | j + 1, hj => simp at hj
theorem int_own_keep {w w' : World} {B n : Nat} {v : Value} {xs : List Value} (h : w.ownsRow B 3 1 v n xs) (hb : Below w.heap.size w w') : w'.ownsRow B 3 1 v n xs :=
  h.kept (grown_below (row := none) hb) (by by_cases e : v.ownBlock = none; exact .inl e; exact .inr e)
theorem refPlaces_any (A : Option Addr) (c : Nat) (L : List MPiece) (w : World) (hA : PcsAt w A L) (hG : GoodL L) (hc : L.length ≤ c) (hcm : c ≤ maxLen) :
    Calls Try.prog 42 #[.slice A L.length c] w (PlacesGive L w) := by
  obtain ⟨i0, hi0, hz0, hz1, hz2⟩ := info_parts int_info
  obtain ⟨n, hn⟩ : ∃ n, L.length = n := ⟨_, rfl⟩
  have HN := Lib.hid hn
  have HA := Lib.hid hA
  have HG := Lib.hid hG
  have hnx : (n : Int) ≤ 9223372036854775807 := by unfold maxLen at hcm; omega
  rw [hn]
  have HP := Lib.hid (show ∀ v W, W.ownsRow w.heap.size 3 1 v (placesL L).length (intRow (placesL L)) → Below w.heap.size w W → PlacesGive L w (.returned v) W from fun v W a b => ⟨v, rfl, a, b⟩)
  generalize PlacesGive L w = PP at *
  clear hn hA hG hc hcm
  go_enter Try.func42, Try.ntmps42
  go_wp2
  go_loopw [3, 4] (fun vo vi wr => ∃ i : Nat, vi = .int .i64 i ∧ i ≤ n ∧ Hid (wr.ownsRow w.heap.size 3 1 vo (placesL (L.take i)).length (intRow (placesL (L.take i))) ∧ Below w.heap.size w wr)) (fun _ vi _ => n - (intOf vi).toNat)
  case atStart => exact ⟨0, rfl, Nat.zero_le _, Lib.hid ⟨⟨rfl, .inl ⟨rfl, rfl⟩⟩, Below.refl _ w⟩⟩
  case round =>
    obtain ⟨i, rfl, hi, HI⟩ := hrel
    by_cases hlt : i < n
    · obtain ⟨x, hx⟩ : ∃ x, L[i]? = some x := ⟨_, List.getElem?_eq_getElem (by rw [HN.out]; exact hlt)⟩
      obtain ⟨g, o, hAe, hg, t0, t1⟩ := (HA.out.later HI.out.2) i x hx
      have hfit := HG.out.1 x (List.mem_of_getElem? hx)
      have hw2 := widthL_take_le L (i + 1)
      have hw1 := widthL_take L i x hx
      have hG2 := HG.out.2
      have hpl : (placesL (L.take i)).length = widthL (L.take i) := placesL_len _
      obtain ⟨P, hP⟩ : ∃ P : Nat, x.pos = P := ⟨x.pos.toNat, by have := hfit.2.1; omega⟩
      obtain ⟨l, hl⟩ : ∃ l : Nat, x.len = l := ⟨x.len.toNat, by have := hfit.1; omega⟩
      have hxp : x.p = P := by unfold MPiece.p; omega
      have hxl : x.l = l := by unfold MPiece.l; omega
      have hP64 : (P : Int) ≤ 64 := by have := hfit.2.2; have := hfit.1; omega
      have hl64 : (l : Int) ≤ 64 := by have := hfit.2.2; have := hfit.2.1; omega
      have hwid : widthL (L.take i) + l ≤ 64 := by omega
      have HX := Lib.hid (And.intro hx (And.intro hxp (And.intro hxl (And.intro hpl hwid))))
      have HCL := Lib.hid (fun W (h : Below w.heap.size w W) => (show W.cell? ⟨g, o + i * 2, none⟩ = some (.int .i64 (P : Nat)) ∧ W.cell? ⟨g, o + i * 2 + 1, none⟩ = some (.int .i64 (l : Nat)) from by
        obtain ⟨g', o', e', _, u0, u1⟩ := (HA.out.later h) i x hx
        rw [hAe] at e'
        cases e'
        exact ⟨by rw [u0, hP], by rw [u1, hl]⟩))
      have HLT := Lib.hid hlt
      subst hAe
      clear hx hfit hw2 hw1 hG2 hpl hP hl hxp hxl hwid t0 t1 hg
      go_wp2
      go_loopw [3, 5] (fun vo vb wq => ∃ b : Nat, vb = .int .i64 b ∧ b ≤ l ∧ Hid (wq.ownsRow w.heap.size 3 1 vo ((placesL (L.take i)).length + b) (intRow (placesL (L.take i) ++ (List.range b).map (P + ·))) ∧ Below w.heap.size w wq)) (fun _ vb _ => l - (intOf vb).toNat)
      case atStart => exact ⟨0, rfl, Nat.zero_le _, Lib.hid ⟨by simpa using HI.out.1, HI.out.2⟩⟩
      case round =>
        obtain ⟨b, rfl, hb, HJ⟩ := hrel
        have HC2 := HCL.out _ HJ.out.2
        obtain ⟨d0, d1⟩ := HC2
        by_cases hlb : b < l
        · have hbn : (b : Int) ≤ 64 := by omega
          have hsum : (P : Int) + b = ((P + b : Nat) : Int) := by omega
          obtain ⟨h1, h2, h3, h4, h5⟩ := HX.out
          have HX2 := Lib.hid (And.intro h4 h5)
          have HLB := Lib.hid hlb
          clear h1 h2 h3 h4 h5 hsum
          go_wp2_with (at_builtin; refine Hid.out ?_)
          refine Lib.hid ?_
          have hsz := HJ.out.2.size
          have hb6 : ∀ o : Obj, Below wr.heap.size wr (wr.alloc o) := fun o => (Below.refl _ _).alloc (Nat.le_refl _) _
          refine wpList_append_own _ rfl _ _ 71 rfl w.heap.size 3 i0 (.int .i64 0) 1 8 Try.underlying71 hi0 hz0 hz1 hz2 rfl (by decide) _ ((placesL (L.take i)).length + b) _ rfl (int_own_keep HJ.out.1 (hb6 _)) ⟨_, 0, none⟩ 1 1 [.int .i64 ((P : Int) + b)] rfl rfl (one_cell wr _ _ _ rfl) (by intro u hu; simp at hu; subst hu; rfl) (by have := HX2.out; unfold maxLen; omega) (by have := HX2.out; omega) (by simp; omega) ?_
          intro v6 w6 hown6 hg6 _
          have HO6 : Hid (w6.ownsRow w.heap.size 3 1 v6 ((placesL (L.take i)).length + (b + 1)) (intRow (placesL (L.take i) ++ (List.range (b + 1)).map (P + ·))) ∧ Below w.heap.size w w6) := Lib.hid (by
            refine ⟨?_, (HJ.out.2.alloc hsz _).grown hg6 (by simp; omega) (fun q hq => int_own_ge HJ.out.1 q hq)⟩
            rw [List.range_succ, List.map_append, ← List.append_assoc]
            have e : intRow (placesL (L.take i) ++ (List.range b).map (P + ·) ++ [b].map (P + ·)) = intRow (placesL (L.take i) ++ (List.range b).map (P + ·)) ++ [.int .i64 ((P : Int) + b)] := by
              unfold intRow; rw [List.map_append]; simp
            rw [e]
            exact hown6)
          clear hown6 hg6 hb6 hsz
          go_wp2
          go_roundw
          case rel => exact ⟨b + 1, by first | rfl | go_num, by have := HLB.out; omega, HO6⟩
          case measure => simp only [intOf]; have := HLB.out; omega
        · obtain rfl : b = l := by omega
          have HE : Hid (wr.ownsRow w.heap.size 3 1 u3 (placesL (L.take (i + 1))).length (intRow (placesL (L.take (i + 1)))) ∧ Below w.heap.size w wr) := Lib.hid (by
            obtain ⟨h1, h2, h3, h4, h5⟩ := HX.out
            have e : placesL (L.take (i + 1)) = placesL (L.take i) ++ (List.range b).map (P + ·) := by
              rw [List.take_add_one, h1]
              simp only [Option.toList]
              rw [placesL_app]
              simp only [placesL, List.append_nil]
              rw [h2, h3]
            rw [e, List.length_append, List.length_map, List.length_range]
            exact HJ.out)
          go_wp2
          go_roundw
          case rel => exact ⟨i + 1, by first | rfl | go_num, by have := HLT.out; omega, HE⟩
          case measure => simp only [intOf]; have := HLT.out; omega
    · obtain rfl : i = n := by omega
      have h1 := HI.out
      rw [List.take_of_length_le (by rw [HN.out]; exact Nat.le_refl _)] at h1
      have H1 := Lib.hid h1
      clear h1
      go_wp2
      exact HP.out _ _ H1.out.1 H1.out.2
end Go.Proofs.Ytjbapjgagiaefaa
