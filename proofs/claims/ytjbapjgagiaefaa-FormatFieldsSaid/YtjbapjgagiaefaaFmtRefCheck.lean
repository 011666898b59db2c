/- The reference's Check of layer 9. -/
import Derived.Test.YtjbapjgagiaefaaFmtRefPlaces
import Derived.Test.YtjbapjgagiaefaaFmtWord
namespace Go.Proofs.Ytjbapjgagiaefaa
open Go.RowKit Go.Instr
set_option linter.unusedVariables false
set_option linter.unusedSimpArgs false
set_option maxRecDepth 100000
set_option maxHeartbeats 1000000

theorem refCheck_any (size : Int) (A : Option Addr) (c : Nat) (L : List MPiece) (w : World) (hA : PcsAt w A L) (hok : PcsOk L) (hc : L.length ≤ c) (hcm : c ≤ maxLen) :
    Calls Try.prog 24 #[.int .i64 size, .slice A L.length c] w fun e w' => e = .returned (.int .i64 (maskR size L).2) ∧ Below w.heap.size w w' := by
  have HI := Lib.hid (fun W => refIn_any size 1 64 W)
  obtain ⟨n, hn⟩ : ∃ n, L.length = n := ⟨_, rfl⟩
  have HN := Lib.hid hn
  have HA := Lib.hid hA
  have HOK := Lib.hid hok
  have hnx : (n : Int) ≤ 9223372036854775807 := by unfold maxLen at hcm; omega
  by_cases hs : 1 ≤ size ∧ size ≤ 64
  case neg =>
    rw [show inB size 1 64 = false by unfold inB; simpa using hs] at HI
    rw [show maskR size L = (0, 2) by unfold maskR; rw [if_neg hs], hn]
    clear hA hok hc hcm hs hn
    go_enter Try.func24, Try.ntmps24
    go_wp2_with (go_at_call 46; (with_reducible refine (HI.out _).mono ?_); rintro e w' ⟨rfl, rfl⟩)
    go_ret
    exact ⟨rfl, Below.refl _ _⟩
  rw [show inB size 1 64 = true by unfold inB; simpa using hs] at HI
  by_cases h4 : L.length ≤ 4
  case neg =>
    rw [show maskR size L = (0, 4) by unfold maskR; rw [if_pos hs, if_neg h4], hn]
    have g4 : decide (4 < n) = true := by simp; omega
    have g4' : decide ((4 : Int) < n) = true := by simp; omega
    clear hA hok hc hcm hs hn h4
    go_enter Try.func24, Try.ntmps24
    go_wp2_with (go_at_call 46; (with_reducible refine (HI.out _).mono ?_); rintro e w' ⟨rfl, rfl⟩)
    go_ret
    exact ⟨rfl, Below.refl _ _⟩
  rw [show maskR size L = maskGo size 0 L by unfold maskR; rw [if_pos hs, if_pos h4]]
  have g4 : decide (4 < n) = false := by simp; omega
  have g4' : decide ((4 : Int) < n) = false := by simp; omega
  obtain ⟨R, hR⟩ : ∃ R, (maskGo size 0 L).2 = R := ⟨_, rfl⟩
  rw [hR, hn]
  have HR := Lib.hid hR
  obtain ⟨hs1, hs2⟩ := hs
  have hn4 : (n : Int) ≤ 4 := by omega
  clear hA hok hc hcm hn h4 hR
  go_enter Try.func24, Try.ntmps24
  go_wp2_with (go_at_call 46; (with_reducible refine (HI.out _).mono ?_); rintro e w' ⟨rfl, rfl⟩)
  go_loopw [5] (fun vi wr => ∃ i : Nat, vi = .int .i64 i ∧ i ≤ n ∧ Below w.heap.size w wr ∧ Hid ((maskGo size (maskN 0 (L.take i)) (L.drop i)).2 = R ∧ ∀ k y, k < i → L[k]? = some y → pcOk size y = true)) (fun vi _ => n - (intOf vi).toNat)
  case atStart => exact ⟨0, rfl, Nat.zero_le _, Below.refl _ w, Lib.hid ⟨by rw [List.take_zero, List.drop_zero]; exact HR.out, fun k y h => absurd h (Nat.not_lt_zero _)⟩⟩
  case round =>
    obtain ⟨i, rfl, hi, hbw, HG⟩ := hrel
    by_cases hlt : i < n
    · obtain ⟨x, hx⟩ : ∃ x, L[i]? = some x := ⟨_, List.getElem?_eq_getElem (by rw [HN.out]; exact hlt)⟩
      obtain ⟨g, o, hAe, hg, t0, t1⟩ := (HA.out.later hbw) i x hx
      have HCA := Lib.hid (fun W (h : Below w.heap.size w W) k y (hy : L[k]? = some y) => (show W.cell? ⟨g, o + k * 2, none⟩ = some (.int .i64 y.pos) ∧ W.cell? ⟨g, o + k * 2 + 1, none⟩ = some (.int .i64 y.len) from by
        obtain ⟨g', o', e', _, u0, u1⟩ := (HA.out.later h) k y hy
        rw [hAe] at e'
        cases e'
        exact ⟨u0, u1⟩))
      subst hAe
      have hxo := HOK.out x (List.mem_of_getElem? hx)
      have HG2 := HG.out.1
      rw [drop_at hx] at HG2
      simp only [maskGo] at HG2
      have hsn : maskN 0 (L.take (i + 1)) = maskN 0 (L.take i) ||| pcM x := by rw [List.take_add_one, hx]; exact maskN_snoc _ _ _
      have HLT := Lib.hid hlt
      have I1 := Lib.hid (fun W => refIn_any x.len 1 size W)
      have I2 := Lib.hid (fun z W => refIn_any x.pos 0 z W)
      have HX := Lib.hid (And.intro hx (And.intro hsn hxo))
      by_cases h1 : inB x.len 1 size = true
      case neg =>
        have h1' : inB x.len 1 size = false := by simpa using h1
        have hp : ¬ pcOk size x = true := by unfold pcOk; rw [h1']; simp
        rw [if_neg hp] at HG2
        rw [h1'] at I1
        have HGH := Lib.hid HG2
        clear HG2 hsn hx hxo h1 h1' hp hg
        go_wp2
        go_quiet ((go_at_call 46; exact quiet_eq (I1.out _)))
        go_wp2
        go_ret
        exact ⟨by rw [← HGH.out]; rfl, hbw.trans (belDrewN _ _ _)⟩
      have hlb : 1 ≤ x.len ∧ x.len ≤ size := by unfold inB at h1; simpa using h1
      by_cases h2 : inB x.pos 0 (size - x.len) = true
      case neg =>
        have h2' : inB x.pos 0 (size - x.len) = false := by simpa using h2
        have hp : ¬ pcOk size x = true := by unfold pcOk; rw [h2']; simp
        rw [if_neg hp] at HG2
        rw [h1] at I1
        have I3 := Lib.hid (fun W => I2.out (size - x.len) W)
        rw [h2'] at I3
        have HGH := Lib.hid HG2
        obtain ⟨hl1, hl2⟩ := hlb
        have hwr : IntKind.i64.wrap (size - x.len) = size - x.len := IntWalk.i64_in _ (by omega)
        clear HG2 hsn hx hxo h1 h2 h2' hp hg I2
        go_wp2
        go_quiet ((go_at_call 46; first | (with_reducible exact quiet_eq (I1.out _)) | (with_reducible exact quiet_eq (I3.out _))))
        go_wp2
        go_ret
        exact ⟨by rw [← HGH.out]; rfl, hbw.trans (belDrewN _ _ _)⟩
      have hp : pcOk size x = true := by unfold pcOk; rw [h1, h2]; rfl
      rw [if_pos hp] at HG2
      obtain ⟨c1, c2, c3, c4⟩ := pcOk_iff.1 hp
      have hprev := Lib.hid HG.out.2
      have HG3 := Lib.hid HG2
      have HPP := Lib.hid hp
      rw [h1] at I1
      have I3 := Lib.hid (fun W => I2.out (size - x.len) W)
      rw [h2] at I3
      have hwr : IntKind.i64.wrap (size - x.len) = size - x.len := IntWalk.i64_in _ (by omega)
      clear HG2 hsn hx hxo h1 h2 hp hg I2 hlb c4
      go_wp2
      go_quiet ((go_at_call 46; first | (with_reducible exact quiet_eq (I1.out _)) | (with_reducible exact quiet_eq (I3.out _))))
      have hbq := hbw.trans (belDrewN w.heap.size wr nq)
      have c4 : x.pos + x.len ≤ 64 := by have := pcOk_iff.1 HPP.out; omega
      clear t0 t1 hwr
      go_wp2
      go_loopw [6] (fun vk wq => ∃ k : Nat, vk = .int .i64 k ∧ k ≤ i ∧ Below w.heap.size w wq ∧ Hid (∀ k' y, k' < k → L[k']? = some y → ¬ overlap x y)) (fun vk _ => i - (intOf vk).toNat)
      case atStart => exact ⟨0, rfl, Nat.zero_le _, hbq, Lib.hid (fun k y h => absurd h (Nat.not_lt_zero _))⟩
      case round =>
        obtain ⟨k, rfl, hk, hbk, HK⟩ := hrel
        by_cases hki : k < i
        · obtain ⟨y, hy⟩ : ∃ y, L[k]? = some y := ⟨_, List.getElem?_eq_getElem (by rw [HN.out]; omega)⟩
          obtain ⟨u0, u1⟩ := HCA.out _ hbk k y hy
          obtain ⟨t0, t1⟩ := HCA.out _ hbk i x HX.out.1
          have hyo := hprev.out k y hki hy
          obtain ⟨d1, d2, d3, d4⟩ := pcOk_iff.1 hyo
          have d5 : y.pos + y.len ≤ 64 := by omega
          have s1 : IntKind.i64.wrap (x.pos + x.len) = x.pos + x.len := IntWalk.i64_in _ (by omega)
          have s2 : IntKind.i64.wrap (y.pos + y.len) = y.pos + y.len := IntWalk.i64_in _ (by omega)
          have HY := Lib.hid (And.intro hy hyo)
          have HKI := Lib.hid hki
          have HC1 : Hid (overlap x y → R = 8) := Lib.hid (fun ho => by
            have h := HG3.out
            rw [if_neg (clash_of HPP.out hyo hy hki ho)] at h
            exact h.symm)
          have hkin : (k : Int) < n := by omega
          clear hy hyo d4
          by_cases b1 : y.pos < x.pos + x.len
          · by_cases b2 : x.pos < y.pos + y.len
            · have e1 : decide (y.pos < x.pos + x.len) = true := by simpa using b1
              have e2 : decide (x.pos < y.pos + y.len) = true := by simpa using b2
              have HR8 := Lib.hid (HC1.out ⟨b1, b2⟩)
              go_wp2
              go_quiet (fail)
              go_wp2
              go_ret
              exact ⟨by rw [HR8.out]; rfl, hbk.trans (belDrewN _ _ _)⟩
            · have e1 : decide (y.pos < x.pos + x.len) = true := by simpa using b1
              have e2 : decide (x.pos < y.pos + y.len) = false := by simpa using b2
              have HNO : Hid (¬ overlap x y) := Lib.hid (fun h => b2 h.2)
              go_wp2
              go_quiet (fail)
              go_wp2
              go_roundw
              case rel =>
                refine ⟨k + 1, by first | rfl | go_num, by have := HKI.out; omega, hbk.trans (belDrewN _ _ _), Lib.hid (fun k' y' hk' hy' => ?_)⟩
                by_cases e : k' = k
                · subst e; rw [HY.out.1] at hy'; cases hy'; exact HNO.out
                · exact HK.out k' y' (by omega) hy'
              case measure => simp only [intOf]; have := HKI.out; omega
          · have e1 : decide (y.pos < x.pos + x.len) = false := by simpa using b1
            have HNO : Hid (¬ overlap x y) := Lib.hid (fun h => b1 h.1)
            go_wp2
            go_quiet (fail)
            go_wp2
            go_roundw
            case rel =>
              refine ⟨k + 1, by first | rfl | go_num, by have := HKI.out; omega, hbk.trans (belDrewN _ _ _), Lib.hid (fun k' y' hk' hy' => ?_)⟩
              by_cases e : k' = k
              · subst e; rw [HY.out.1] at hy'; cases hy'; exact HNO.out
              · exact HK.out k' y' (by omega) hy'
            case measure => simp only [intOf]; have := HKI.out; omega
        · obtain rfl : k = i := by omega
          have HNEW : Hid ((maskGo size (maskN 0 (L.take (k + 1))) (L.drop (k + 1))).2 = R ∧ ∀ k' y, k' < k + 1 → L[k']? = some y → pcOk size y = true) := Lib.hid (by
            have h := HG3.out
            rw [if_pos (free_of HPP.out fun k' y hk' hy => ⟨hprev.out k' y hk' hy, HK.out k' y hk' hy⟩), ← HX.out.2.1] at h
            refine ⟨h, fun k' y hk' hy => ?_⟩
            by_cases e : k' = k
            · subst e; rw [HX.out.1] at hy; cases hy; exact HPP.out
            · exact hprev.out k' y (by omega) hy)
          go_wp2
          go_roundw
          case rel => exact ⟨k + 1, by first | rfl | go_num, by have := HLT.out; omega, hbk, HNEW⟩
          case measure => simp only [intOf]; have := HLT.out; omega
    · obtain rfl : i = n := by omega
      have HG2 := HG.out.1
      rw [List.drop_of_length_le (by rw [HN.out]; exact Nat.le_refl _)] at HG2
      simp only [maskGo] at HG2
      have HH := Lib.hid HG2
      clear HG2
      go_wp2
      go_ret
      exact ⟨by rw [← HH.out]; rfl, hbw⟩
end Go.Proofs.Ytjbapjgagiaefaa
