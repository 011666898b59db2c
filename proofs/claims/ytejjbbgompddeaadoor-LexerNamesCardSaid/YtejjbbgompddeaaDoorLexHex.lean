/- Contract of the library's inner ParseUint in base 16 at 64 bits: it gives a number and an error or none; at one to sixteen small hexadecimal digits their value. -/
import Derived.Test.YtejjbbgompddeaaDoorLexClass
import Derived.OwnWalk
import Derived.Lib.AtoiErrMem
namespace Go.Proofs.YtejjbbgompddeaaDoor
open Go.RowKit
set_option linter.unusedVariables false
set_option linter.unusedSimpArgs false

/-- One more digit behind a number. -/
def hexStep (a c : Nat) : Option Nat := if 48 ≤ c ∧ c ≤ 57 then some (a * 16 + (c - 48)) else if 97 ≤ c ∧ c ≤ 102 then some (a * 16 + (c - 87)) else none
def hexAcc : Nat → List UInt8 → Option Nat
  | a, [] => some a
  | a, c :: cs => (hexStep a c.toNat).bind fun b => hexAcc b cs
/-- What the call gives at the bytes bs. -/
def HexGives (bs : List UInt8) (e : Ending) : Prop := ∃ (u : Nat) (err : Value), e = .returned (.tuple #[.int .u64 u, err]) ∧ u < 18446744073709551616 ∧ (err = .nilIface ∨ err = .iface 90 (.int .i64 1) ∨ err = .iface 90 (.int .i64 2)) ∧ ∀ x, 1 ≤ bs.length → bs.length ≤ 16 → hexAcc 0 bs = some x → err = .nilIface ∧ u = x

def lowB (c : Nat) : Nat := c ||| 32
set_option maxRecDepth 100000 in
theorem lowB_bits : ∀ c : Fin 256, bits .or .u8 ((c.val : Nat) : Int) 32 = ((lowB c.val : Nat) : Int) := by decide +kernel
set_option maxRecDepth 100000 in
theorem lowB_hex : ∀ c : Fin 256, lowB c.val ≤ 255 ∧ (97 ≤ c.val ∧ c.val ≤ 102 → lowB c.val = c.val) := by decide +kernel
theorem lower_any (c : Nat) (w : World) (h : c < 256) :
    Calls Tryd.prog 75 #[.int .u8 c] w fun e w' => e = .returned (.int .u8 (lowB c : Nat)) ∧ w = w' := by
  have hb := lowB_bits ⟨c, h⟩
  go_enter Tryd.func75, Tryd.ntmps75
  go_wp2
  go_ret
  exact ⟨rfl, rfl⟩

theorem lower_95 (w : World) : Calls Tryd.prog 75 #[.int .u8 95] w fun e w' => e = .returned (.int .u8 127) ∧ w = w' := lower_any 95 w (by decide)
/-- How far the digits read so far tell the rest. -/
def HexTie (bs : List UInt8) (k acc : Nat) : Prop := ∀ x, bs.length ≤ 16 → hexAcc 0 bs = some x → hexAcc acc (bs.drop k) = some x ∧ acc < 16 ^ k
theorem HexTie.step {bs : List UInt8} {k acc b : Nat} {c : UInt8} (h : HexTie bs k acc) (hd : bs.drop k = c :: bs.drop (k + 1)) (hs : hexStep acc c.toNat = some b) (hb : b < acc * 16 + 16) : HexTie bs (k + 1) b := by
  intro x hl hx
  obtain ⟨h1, h2⟩ := h x hl hx
  rw [hd] at h1
  simp only [hexAcc, hs, Option.bind] at h1
  exact ⟨h1, by rw [Nat.pow_succ]; omega⟩
theorem HexTie.none {bs : List UInt8} {k acc : Nat} {c : UInt8} (h : HexTie bs k acc) (hd : bs.drop k = c :: bs.drop (k + 1)) (hs : hexStep acc c.toNat = none) (x : Nat) (hl : bs.length ≤ 16) (hx : hexAcc 0 bs = some x) : False := by
  obtain ⟨h1, h2⟩ := h x hl hx
  rw [hd] at h1
  simp [hexAcc, hs] at h1
theorem HexTie.over {bs : List UInt8} {k acc : Nat} (h : HexTie bs k acc) (hk : k < bs.length) (hc : 1152921504606846976 ≤ acc) (x : Nat) (hl : bs.length ≤ 16) (hx : hexAcc 0 bs = some x) : False := by
  obtain ⟨h1, h2⟩ := h x hl hx
  have : 16 ^ k ≤ 16 ^ 15 := Nat.pow_le_pow_right (by decide) (by omega)
  have : (16 : Nat) ^ 15 = 1152921504606846976 := by decide
  omega

set_option maxHeartbeats 4000000 in
set_option maxRecDepth 100000 in
theorem hex_any (t : ByteArray) (w : World) (hmax : t.size ≤ 1000000) :
    Calls Tryd.prog 64 #[.string t, .int .i64 16, .int .i64 64] w fun e w' => HexGives t.data.toList e ∧ Below w.heap.size w w' := by
  by_cases hne : t.size = 0
  · obtain rfl : t = ⟨#[]⟩ := by
      cases t with | mk a => congr 1; exact Array.eq_empty_of_size_eq_zero hne
    go_enter Tryd.func64, Tryd.ntmps64
    go_wp2
    go_ret2
    exact ⟨⟨0, _, rfl, by decide, Or.inr (Or.inr rfl), fun x h => absurd h (by decide)⟩, Below.refl _ _⟩
  have hemp : t.toList.isEmpty = false := by
    rw [← decide_eq_emptyBytes]
    exact decide_eq_false (fun h => hne (by rw [h]; rfl))
  have hcv := Lib.run_convert_string_bytes (P := Tryd.prog) w 9 32 5 t (u := .string) rfl rfl rfl
  have hB : ∀ j, j < t.size → (Lib.bytesWorld w 5 t).cell? ⟨w.heap.size, j, none⟩ = some (.int .u8 (t.data.toList.getD j 0).toNat) := fun j hj => Lib.bytesWorld_cell w 5 t j hj
  have HW := Lib.hid (Lib.bytesWorld_below w 5 t)
  generalize Lib.bytesWorld w 5 t = W1 at *
  have hLn : t.data.toList.length = t.size := by rw [Lib.size_eq]
  generalize t.data.toList = bs at *
  have hmv : IntKind.u64.wrap (IntKind.u64.wrap 18446744073709551616 - 1) = 18446744073709551615 := by decide
  go_enter Tryd.func64, Tryd.ntmps64
  go_wp2
  go_loop [12, 13, 101] (fun vu vn vi => ∃ (k acc : Nat) (a : Int), vu = .bool false ∧ vn = .int .u64 a ∧ vi = .int .i64 k ∧ k ≤ t.size ∧ Hid (a = (acc : Int) ∧ acc < 18446744073709551616 ∧ HexTie bs k acc))
    (fun _ _ vi => t.size - (intOf vi).toNat)
  case atStart => exact ⟨0, 0, 0, rfl, rfl, rfl, by omega, Lib.hid ⟨rfl, by decide, fun x _ h => ⟨by rw [List.drop_zero]; exact h, by decide⟩⟩⟩
  case round =>
    obtain ⟨k, acc, a, rfl, rfl, rfl, hk, hh⟩ := hrel
    obtain ⟨ha, hacc, htie⟩ := hh.out
    clear hh
    have a0 : 0 ≤ a := by omega
    have a1 : a < 18446744073709551616 := by omega
    by_cases hkn : k < t.size
    · have hc := hB k hkn
      have hdrop : bs.drop k = bs[k]'(by omega) :: bs.drop (k + 1) := List.drop_eq_getElem_cons (by omega)
      have hget : bs.getD k 0 = bs[k]'(by omega) := by simp [List.getD, List.getElem?_eq_getElem (show k < bs.length by omega)]
      rw [hget] at hc
      generalize bs[k]'(by omega) = c at hc hdrop
      have hc256 : c.toNat < 256 := c.toNat_lt
      have hkl : k < bs.length := by omega
      clear hB hget hne hemp
      by_cases h95 : c.toNat = 95
      · have hs : hexStep acc c.toNat = none := by rw [h95]; rfl
        have HO := Lib.hid (htie.none hdrop hs)
        have HL9 := fun W => Lib.hid (lower_95 W)
        rw [h95] at hc
        replace hc : W1.cell? ⟨w.heap.size, k, none⟩ = some (.int .u8 95) := hc
        clear htie hdrop hacc ha hs h95 hc256
        go_wp2_with (go_at_call 75; (with_reducible refine (HL9 _).out.mono ?_); rintro e w' ⟨rfl, rfl⟩)
        go_ret2
        exact ⟨⟨0, _, rfl, by decide, Or.inr (Or.inr rfl), fun x _ hl hx => (HO.out x hl hx).elim⟩, HW.out⟩
      have tu : ((c.toNat : Int) == 95) = false := by simp; omega
      clear h95
      obtain ⟨hq255, hqs⟩ := lowB_hex ⟨c.toNat, hc256⟩
      have HLow := fun W => Lib.hid (lower_any c.toNat W hc256)
      simp only at hq255 hqs
      generalize lowB c.toNat = q at *
      by_cases hdig : 48 ≤ c.toNat ∧ c.toNat ≤ 57
      · obtain ⟨d0, d1⟩ := hdig
        have hs : hexStep acc c.toNat = some (acc * 16 + (c.toNat - 48)) := by unfold hexStep; rw [if_pos ⟨d0, d1⟩]
        by_cases hcut : 1152921504606846976 ≤ acc
        · have icut : 1152921504606846976 ≤ a := by omega
          have HO := Lib.hid (htie.over hkl hcut)
          clear hs hcut htie hdrop hacc ha hq255 hqs
          go_wp2
          go_ret2
          exact ⟨⟨18446744073709551615, _, rfl, by decide, Or.inr (Or.inl rfl), fun x _ hl hx => (HO.out x hl hx).elim⟩, HW.out⟩
        · have HN : Hid (a * 16 + ((c.toNat : Int) - 48) = ((acc * 16 + (c.toNat - 48) : Nat) : Int) ∧ acc * 16 + (c.toNat - 48) < 18446744073709551616 ∧ HexTie bs (k + 1) (acc * 16 + (c.toNat - 48))) := Lib.hid ⟨by omega, by omega, htie.step hdrop hs (by omega)⟩
          have icut : a < 1152921504606846976 := by omega
          have iov : a * 16 + ((c.toNat : Int) - 48) < 18446744073709551616 := by omega
          clear hs hcut htie hdrop hacc ha hq255 hqs
          go_wp2
          refine ⟨⟨k + 1, acc * 16 + (c.toNat - 48), a * 16 + ((c.toNat : Int) - 48), rfl, (by first | rfl | (congr 1; omega)), (by first | rfl | (congr 1; omega)), by omega, HN⟩, by simp [intOf]; omega⟩
      · have hnd : (c.toNat : Int) < 48 ∨ 57 < (c.toNat : Int) := by omega
        by_cases hlet : 97 ≤ q ∧ q ≤ 102
        · obtain ⟨l0, l1⟩ := hlet
          by_cases hcut : 1152921504606846976 ≤ acc
          · have icut : 1152921504606846976 ≤ a := by omega
            have HO := Lib.hid (htie.over hkl hcut)
            clear hcut htie hdrop hacc ha hq255 hqs hdig
            rcases hnd with hnd | hnd <;>
            · go_wp2_with (go_at_call 75; (with_reducible refine (HLow _).out.mono ?_); rintro e w' ⟨rfl, rfl⟩)
              all_goals go_ret2
              all_goals exact ⟨⟨18446744073709551615, _, rfl, by decide, Or.inr (Or.inl rfl), fun x _ hl hx => (HO.out x hl hx).elim⟩, HW.out⟩
          · have ht : HexTie bs (k + 1) (acc * 16 + (q - 87)) := by
              by_cases hr : 97 ≤ c.toNat ∧ c.toNat ≤ 102
              · have hs : hexStep acc c.toNat = some (acc * 16 + (q - 87)) := by unfold hexStep; rw [if_neg hdig, if_pos hr, hqs hr]
                exact htie.step hdrop hs (by omega)
              · have hs : hexStep acc c.toNat = none := by unfold hexStep; rw [if_neg hdig, if_neg hr]
                exact fun x hl hx => (htie.none hdrop hs x hl hx).elim
            have HN : Hid (a * 16 + ((q : Int) - 97 + 10) = ((acc * 16 + (q - 87) : Nat) : Int) ∧ acc * 16 + (q - 87) < 18446744073709551616 ∧ HexTie bs (k + 1) (acc * 16 + (q - 87))) := Lib.hid ⟨by omega, by omega, ht⟩
            have icut : a < 1152921504606846976 := by omega
            have iov : a * 16 + ((q : Int) - 97 + 10) < 18446744073709551616 := by omega
            clear hcut htie hdrop hacc ha hq255 hqs hdig ht
            rcases hnd with hnd | hnd <;>
            · go_wp2_with (go_at_call 75; (with_reducible refine (HLow _).out.mono ?_); rintro e w' ⟨rfl, rfl⟩)
              all_goals refine ⟨⟨k + 1, acc * 16 + (q - 87), a * 16 + ((q : Int) - 97 + 10), rfl, (by first | rfl | (congr 1; omega)), (by first | rfl | (congr 1; omega)), by omega, HN⟩, by simp [intOf]; omega⟩
        · have hs : hexStep acc c.toNat = none := by
            unfold hexStep
            rw [if_neg hdig, if_neg]
            intro hr
            have := hqs hr
            omega
          have HO := Lib.hid (htie.none hdrop hs)
          have hnl : (q : Int) < 97 ∨ (122 < (q : Int)) ∨ (103 ≤ (q : Int) ∧ (q : Int) ≤ 122) := by omega
          clear htie hdrop hacc ha hqs hdig hs hlet
          rcases hnd with hnd | hnd <;> rcases hnl with hnl | hnl | ⟨hn1, hn2⟩ <;>
          · go_wp2_with (go_at_call 75; (with_reducible refine (HLow _).out.mono ?_); rintro e w' ⟨rfl, rfl⟩)
            all_goals go_ret2
            all_goals exact ⟨⟨0, _, rfl, by decide, Or.inr (Or.inr rfl), fun x _ hl hx => (HO.out x hl hx).elim⟩, HW.out⟩
    · have hkk : k = t.size := by omega
      have HT := Lib.hid htie
      have HA := Lib.hid (show a = (acc : Int) ∧ acc < 18446744073709551616 from ⟨ha, hacc⟩)
      clear htie hacc hB hemp hne
      go_wp2
      go_ret2
      refine ⟨⟨acc, .nilIface, rfl, HA.out.2, Or.inl rfl, fun x _ hl hx => ⟨rfl, ?_⟩⟩, HW.out⟩
      have h := (HT.out x hl hx).1
      rw [List.drop_eq_nil_of_le (by omega)] at h
      simpa [hexAcc] using h
end Go.Proofs.YtejjbbgompddeaaDoor
