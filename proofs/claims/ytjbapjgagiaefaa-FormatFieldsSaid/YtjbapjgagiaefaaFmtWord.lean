/- checkWord and fieldWidth of package format. -/
import Derived.Test.YtjbapjgagiaefaaFmtPlaced
namespace Go.Proofs.Ytjbapjgagiaefaa
open Go.RowKit Go.Instr
set_option linter.unusedVariables false
set_option linter.unusedSimpArgs false
set_option maxRecDepth 100000
set_option maxHeartbeats 2000000

/-- What checkWord says. -/
def cwR (size : Int) (word : Nat) (L : List MPiece) : Int := if (maskR size L).2 = 0 then (if okB size.toNat word = true then 0 else 24) else (maskR size L).2
theorem maskR_ok {size : Int} {L : List MPiece} (h : (maskR size L).2 = 0) : (1 ≤ size ∧ size ≤ 64) ∧ L.length ≤ 4 ∧ GoodM size 0 L ∧ maskR size L = (maskN 0 L, 0) := by
  unfold maskR at *
  split at h
  · rename_i h1
    rw [if_pos h1]
    split at h
    · rename_i h2
      rw [if_pos h2]
      have g := goodM_go (size := size) L 0
      have hg := g.1.1 h
      exact ⟨h1, h2, hg, g.2.1 hg⟩
    · cases h
  · cases h
theorem maskR_bad {size : Int} {L : List MPiece} (h : ¬ (maskR size L).2 = 0) : (maskR size L).1 = 0 ∧ ((maskR size L).2 = 2 ∨ (maskR size L).2 = 4 ∨ (maskR size L).2 = 8) := by
  unfold maskR at *
  split
  · rename_i h1
    rw [if_pos h1] at h
    split
    · rename_i h2
      rw [if_pos h2] at h
      rcases (goodM_go (size := size) L 0).2.2 with g | g
      · exact absurd g h
      · rw [g]; exact ⟨rfl, .inr (.inr rfl)⟩
    · exact ⟨rfl, .inr (.inl rfl)⟩
  · exact ⟨rfl, .inl rfl⟩
theorem goodL_of {size : Int} {L : List MPiece} (hs : 1 ≤ size ∧ size ≤ 64) (h : GoodM size 0 L) : GoodL L := by
  refine ⟨fun x hx => ?_, ?_⟩
  · obtain ⟨c1, c2, c3, c4⟩ := pcOk_iff.1 (h.mem x hx).1
    exact ⟨c1, c3, by omega⟩
  · have := h.width
    omega
theorem checkWord_any (size : Int) (word : Nat) (A : Option Addr) (c : Nat) (L : List MPiece) (w : World) (hA : PcsAt w A L) (hok : PcsOk L) (hc : L.length ≤ c) (hcm : c ≤ maxLen) :
    Calls Try.prog 38 #[.int .i64 size, .int .u64 word, .slice A L.length c] w fun e w' => e = .returned (.int .i64 (cwR size word L)) ∧ Below w.heap.size w w' := by
  have HM := Lib.hid (fun W (h : PcsAt W A L) => check_any size A c L W h hok hc hcm)
  have HA := Lib.hid hA
  obtain ⟨n, hn⟩ : ∃ n, L.length = n := ⟨_, rfl⟩
  by_cases h0 : (maskR size L).2 = 0
  · obtain ⟨⟨h1, h2⟩, _⟩ := maskR_ok h0
    obtain ⟨m, rfl⟩ : ∃ m : Nat, size = m := ⟨size.toNat, by omega⟩
    have HO := Lib.hid (fun W => ok_any m word W (by omega) (by omega))
    have hr : cwR m word L = needR 24 [okB m word] := by
      unfold cwR; rw [if_pos h0, Int.toNat_natCast]
      cases okB m word <;> rfl
    rw [hr]
    rw [h0] at HM
    rw [hn] at HM ⊢
    generalize okB m word = q at *
    clear hA hok hc hcm hn h0 hr
    go_enter Try.func38, Try.ntmps38
    go_wp2_with (first
      | (go_at_call 19; (with_reducible refine (HM.out _ HA.out).mono ?_); rintro e w' ⟨rfl, hb⟩)
      | (go_at_call 34; (with_reducible refine (HO.out _).mono ?_); rintro e w' ⟨rfl, rfl⟩)
      | (go_at_call 31; (with_reducible refine (needB1 24 _ _ _ (by simp)).mono ?_); rintro e w' ⟨rfl, rfl⟩))
    go_ret
    exact ⟨rfl, hb.alloc hb.size _⟩
  · have hr : cwR size word L = (maskR size L).2 := by unfold cwR; rw [if_neg h0]
    have h1 : ((maskR size L).2 != 0) = true := by simpa using h0
    have h2 : ((maskR size L).2 == 0) = false := by simpa using h0
    rw [hr]
    rw [hn] at HM ⊢
    generalize (maskR size L).2 = z at *
    clear hA hok hc hcm hn h0 hr
    go_enter Try.func38, Try.ntmps38
    go_wp2_with (go_at_call 19; (with_reducible refine (HM.out _ HA.out).mono ?_); rintro e w' ⟨rfl, hb⟩)
    go_ret
    exact ⟨rfl, hb⟩
theorem widthL_take : ∀ (L : List MPiece) (i : Nat) (x : MPiece), L[i]? = some x → widthL (L.take (i + 1)) = widthL (L.take i) + x.l
  | y :: L, 0, x, h => by simp at h; subst h; simp [widthL]
  | y :: L, i + 1, x, h => by
    have := widthL_take L i x (by simpa using h)
    simp only [List.take_succ_cons, widthL] at this ⊢
    omega
theorem widthL_take_le : ∀ (L : List MPiece) (i : Nat), widthL (L.take i) ≤ widthL L
  | [], i => by simp
  | y :: L, 0 => by simp [widthL]
  | y :: L, i + 1 => by have := widthL_take_le L i; simp only [List.take_succ_cons, widthL]; omega
theorem fieldWidth_any (A : Option Addr) (c : Nat) (L : List MPiece) (w : World) (hA : PcsAt w A L) (hG : GoodL L) (hc : L.length ≤ c) (hcm : c ≤ maxLen) :
    Calls Try.prog 40 #[.slice A L.length c] w fun e w' => e = .returned (.int .i64 (widthL L : Nat)) ∧ Below w.heap.size w w' := by
  obtain ⟨n, hn⟩ : ∃ n, L.length = n := ⟨_, rfl⟩
  have HN := Lib.hid hn
  have HA := Lib.hid hA
  have HG := Lib.hid hG
  have hnx : (n : Int) ≤ 9223372036854775807 := by unfold maxLen at hcm; omega
  rw [hn]
  obtain ⟨R, hR⟩ : ∃ R, widthL L = R := ⟨_, rfl⟩
  rw [hR]
  have HR := Lib.hid hR
  clear hn hA hG hc hcm hR
  go_enter Try.func40, Try.ntmps40
  go_wp2
  go_loopw [3, 8] (fun vm vi wr => ∃ (m i : Nat), vm = .int .i64 m ∧ vi = .int .i64 i ∧ i ≤ n ∧ m ≤ 64 ∧ Below w.heap.size w wr ∧ Hid (widthL (L.take i) = m)) (fun _ vi _ => n - (intOf vi).toNat)
  case atStart => exact ⟨0, 0, rfl, rfl, Nat.zero_le _, by decide, Below.refl _ w, Lib.hid (by simp [widthL])⟩
  case round =>
    obtain ⟨m, i, rfl, rfl, hi, hm, hbw, HI⟩ := hrel
    by_cases hlt : i < n
    · obtain ⟨x, hx⟩ : ∃ x, L[i]? = some x := ⟨_, List.getElem?_eq_getElem (by rw [HN.out]; exact hlt)⟩
      obtain ⟨g, o, rfl, hg, t0, t1⟩ := (HA.out.later hbw) i x hx
      have hf := HG.out.1 x (List.mem_of_getElem? hx)
      have hw := widthL_take L i x hx
      have hle := widthL_take_le L (i + 1)
      have h64 := HG.out.2
      rw [HI.out] at hw
      have hxl : x.len = (x.l : Nat) := by unfold MPiece.l; have := hf.1; omega
      rw [hxl] at t1
      obtain ⟨k, hk⟩ : ∃ k, x.l = k := ⟨_, rfl⟩
      rw [hk] at t1 hw
      have hmk : m + k ≤ 64 := by omega
      have HW := Lib.hid hw
      have HLT := Lib.hid hlt
      have hcells := piece_cells wr x.pos (k : Nat) wr.heap.size rfl
      clear hx hf hw hle h64 hxl hk hg
      go_wp2
      go_roundw
      case rel => exact ⟨m + k, i + 1, by go_num, by first | rfl | go_num | (congr 1), by have := HLT.out; omega, hmk, hbw.alloc hbw.size _, HW⟩
      case measure => simp only [intOf]; have := HLT.out; omega
    · obtain rfl : i = n := by omega
      have h1 := HI.out
      rw [List.take_of_length_le (by rw [HN.out]; exact Nat.le_refl _), HR.out] at h1
      have H1 := Lib.hid h1
      clear h1
      go_wp2
      go_ret
      exact ⟨by rw [H1.out]; rfl, hbw⟩
end Go.Proofs.Ytjbapjgagiaefaa
