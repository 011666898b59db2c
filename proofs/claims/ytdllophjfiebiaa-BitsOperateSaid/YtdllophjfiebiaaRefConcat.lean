/- Contracts of the reference's Concat and Extend, for all arguments. -/
import Derived.Test.YtdllophjfiebiaaRefExtract
namespace Go.Proofs.Ytdllophjfiebiaa
open Go.RowKit Go.Sort
set_option linter.unusedVariables false
set_option linter.unusedSimpArgs false

theorem BitsAt.at {w : World} {base g n cap X : Nat} (h : BitsAt w base g n cap X) : ∀ (j : Nat) (u : Value), (bitCells X n)[j]? = some u → w.cell? ((⟨g, 0, none⟩ : Addr).add j) = some u := by
  intro j u hu
  have hj : j < n := by
    have := (List.getElem?_eq_some_iff.1 hu).1
    simpa [bitCells_length] using this
  have ha : (⟨g, 0, none⟩ : Addr).add j = ⟨g, j, none⟩ := by unfold Addr.add; split <;> simp_all
  rw [ha, h.cell j hj, ← hu, bitCells_get X n j hj]
theorem bitCells_one (X n : Nat) : ∀ u ∈ bitCells X n, u.oneCell' = true := by
  intro u hu
  simp only [bitCells, List.mem_map] at hu
  obtain ⟨_, _, rfl⟩ := hu
  rfl
theorem bitCells_join (a b l h : Nat) (hb : b < 2 ^ l) : bitCells b l ++ bitCells a h = bitCells (a * 2 ^ l + b) (l + h) := by
  apply List.ext_getElem?
  intro j
  by_cases hj : j < l
  · rw [List.getElem?_append_left (by rw [bitCells_length]; exact hj), bitCells_get b l j hj, bitCells_get _ _ j (by omega), bt_join _ _ _ _ hb, if_pos hj]
  · rw [List.getElem?_append_right (by rw [bitCells_length]; omega), bitCells_length]
    by_cases hj2 : j < l + h
    · rw [bitCells_get a h _ (by omega), bitCells_get _ _ j hj2, bt_join _ _ _ _ hb, if_neg hj]
    · rw [List.getElem?_eq_none (by rw [bitCells_length]; omega), List.getElem?_eq_none (by rw [bitCells_length]; omega)]

theorem refConcat_ok (h a l b : Nat) (w : World) (h0 : 1 ≤ h) (l0 : 1 ≤ l) (hs : h + l ≤ 64) (ha : a < 2 ^ h) (hb : b < 2 ^ l) :
    Calls Try.prog 20 #[.int .i64 h, .int .u64 a, .int .i64 l, .int .u64 b] w fun e w' => e = .returned (.tuple #[.int .u64 (a * 2 ^ l + b : Nat), .int .i64 0]) ∧ Below w.heap.size w w' := by
  have pa := pow_le h (by omega)
  have pb := pow_le l (by omega)
  have O1 := fun W => refOk_yes h a W h0 (by omega) (by omega)
  have O2 := fun W => refOk_yes l b W l0 (by omega) (by omega)
  rw [(okB_iff _ _).2 ha] at O1
  rw [(okB_iff _ _).2 hb] at O2
  have O1 := fun W => Lib.hid (O1 W)
  have O2 := fun W => Lib.hid (O2 W)
  have B1 := fun W => Lib.hid (bits_any l b W l0 (by omega) (by omega))
  have B2 := fun W => Lib.hid (bits_any h a W h0 (by omega) (by omega))
  have HJ := Lib.hid (bitCells_join a b l h hb)
  have HN := Lib.hid (fun (g cap : Nat) (W : World) (hw : ∀ j, j < l + h → W.cell? ⟨g, 0 + j, none⟩ = some (.int .i64 (bt (a * 2 ^ l + b) j : Nat))) => number_any (l + h) (a * 2 ^ l + b) g 0 cap W (by omega) hw)
  have hlt : a * 2 ^ l + b < 2 ^ (l + h) := by
    have := Nat.mul_le_mul_right (2 ^ l) (show a + 1 ≤ 2 ^ h by omega)
    rw [Nat.add_mul, Nat.one_mul] at this
    rw [Nat.pow_add, Nat.mul_comm (2 ^ l)]
    omega
  have HV := Lib.hid (show md (a * 2 ^ l + b) (l + h) = a * 2 ^ l + b from Nat.mod_eq_of_lt hlt)
  generalize a * 2 ^ l + b = X at *
  rw [HV.out] at HN
  obtain ⟨i0, hi, hz0, hz1, hz2⟩ := info_parts int_info
  clear ha hb pa pb hlt HV
  go_enter Try.func20, Try.ntmps20
  go_wp2_with (first
    | (go_at_call 24; refine (wide_yes _ _ (by omega) (by omega)).mono ?_; rintro e w' ⟨rfl, rfl⟩)
    | (go_at_call 14; (with_reducible refine (O1 _).out.mono ?_); rintro e w' ⟨rfl, rfl⟩)
    | (go_at_call 14; (with_reducible refine (O2 _).out.mono ?_); rintro e w' ⟨rfl, rfl⟩)
    | (go_at_call 26; (with_reducible refine (B1 _).out.mono ?_); rintro e w1 ⟨g1, cap1, rfl, hat, hb1⟩; have HA1 := Lib.hid hat; clear hat)
    | (go_at_call 26; (with_reducible refine (B2 _).out.mono ?_); rintro e w2 ⟨g2, cap2, rfl, hat, hb2⟩; have HA2 := Lib.hid hat; have HA3 := Lib.hid (HA1.out.kept hb2); clear hat)
    | (at_builtin; refine wpList_append_own _ rfl _ _ 48 rfl w.heap.size 3 i0 (.int .i64 0) 1 8 Try.underlying48 hi hz0 hz1 hz2 rfl (by decide) _ _ _ rfl HA3.out ⟨g2, 0, none⟩ h cap2 (bitCells a h) rfl (by rw [bitCells_length, Nat.mul_one]) HA2.out.at (bitCells_one a h) (by unfold maxLen; omega) (by omega) (Nat.le_trans hb1.size hb2.size) ?_; intro v' w3 hown3 hgrow3 _; rw [HJ.out] at hown3; obtain ⟨g3, cap3, hv3⟩ := ownsRow_head hown3 (by omega); subst hv3; have HA4 := Lib.hid (show BitsAt w3 w.heap.size g3 (l + h) cap3 X from hown3); have HG := Lib.hid hgrow3; clear hown3 hgrow3)
    | (go_at_call 29; (with_reducible refine (HN.out _ _ _ (fun j hj => by rw [Nat.zero_add]; exact HA4.out.cell j hj)).mono ?_); rintro e w' ⟨rfl, rfl⟩))
  go_ret2
  refine ⟨rfl, ((hb1.trans (hb2.mono hb1.size))).grown HG.out (Nat.le_trans hb1.size hb2.size) ?_⟩
  intro k hk
  exact (World.ownsRow.lt HA3.out k hk).1

theorem refConcat_any (h : Int) (a : Nat) (l : Int) (b : Nat) (w : World) (ha64 : a < 18446744073709551616) (hb64 : b < 18446744073709551616) :
    Calls Try.prog 20 #[.int .i64 h, .int .u64 a, .int .i64 l, .int .u64 b] w fun e w' => e = .returned (.tuple #[.int .u64 (catR h a l b).1, .int .i64 (catR h a l b).2]) ∧ Below w.heap.size w w' := by
  by_cases hh : h < 1 ∨ 64 < h
  · rw [show catR h a l b = (0, 14) by unfold catR; rw [if_pos hh]]
    have V1 := fun W => Lib.hid (wide_no h W hh)
    clear hh ha64 hb64
    go_enter Try.func20, Try.ntmps20
    go_wp2_with (first
      | (go_at_call 24; (with_reducible refine (V1 _).out.mono ?_); rintro e w' ⟨rfl, rfl⟩))
    go_ret2
    exact ⟨rfl, Below.refl _ _⟩

  · obtain ⟨h, rfl⟩ : ∃ m : Nat, h = m := ⟨h.toNat, by omega⟩
    have h0 : 1 ≤ h := by omega
    have h1 : h ≤ 64 := by omega
    have V1 := fun W => Lib.hid (wide_yes h W (by omega) (by omega))
    by_cases hl : (l < 1 ∨ 64 < l) ∨ 64 < (h : Int) + l
    · rw [show catR h a l b = (0, 14) by unfold catR; rw [if_neg hh, if_pos hl]]
      by_cases hl1 : l < 1 ∨ 64 < l
      · have V2 := fun W => Lib.hid (wide_no l W hl1)
        clear hh ha64 hb64 hl hl1
        go_enter Try.func20, Try.ntmps20
        go_wp2_with (first
          | (go_at_call 24; (with_reducible refine (V1 _).out.mono ?_); rintro e w' ⟨rfl, rfl⟩)
          | (go_at_call 24; (with_reducible refine (V2 _).out.mono ?_); rintro e w' ⟨rfl, rfl⟩))
        go_ret2
        exact ⟨rfl, Below.refl _ _⟩

      · have V2 := fun W => Lib.hid (wide_yes l W (by omega) (by omega))
        have g0 : 1 ≤ l := by omega
        have g1 : l ≤ 64 := by omega
        have t1 : decide (64 < (h : Int) + l) = true := by simp; omega
        clear hh ha64 hb64 hl hl1
        go_enter Try.func20, Try.ntmps20
        go_wp2_with (first
          | (go_at_call 24; (with_reducible refine (V1 _).out.mono ?_); rintro e w' ⟨rfl, rfl⟩)
          | (go_at_call 24; (with_reducible refine (V2 _).out.mono ?_); rintro e w' ⟨rfl, rfl⟩))
        go_ret2
        exact ⟨rfl, Below.refl _ _⟩

    · obtain ⟨l, rfl⟩ : ∃ m : Nat, l = m := ⟨l.toNat, by omega⟩
      have l0 : 1 ≤ l := by omega
      have hs : h + l ≤ 64 := by omega
      have V2 := fun W => Lib.hid (wide_yes l W (by omega) (by omega))
      have t1 : decide (64 < (h : Int) + l) = false := by simp; omega
      have O1 := fun W => refOk_yes h a W h0 h1 ha64
      have O2 := fun W => refOk_yes l b W l0 (by omega) hb64
      by_cases ha : a < 2 ^ h
      · have k1 : ¬ chk1 h a = 8 := by unfold chk1; rw [if_pos ((okB_iff _ _).2 ha)]; decide
        by_cases hb : b < 2 ^ l
        · rw [show catR h a l b = (a * 2 ^ l + b, 0) by unfold catR; rw [if_neg hh, if_neg hl, Int.toNat_natCast, Int.toNat_natCast, if_neg k1, if_neg (by rw [(okB_iff _ _).2 hb]; decide)]]
          exact refConcat_ok h a l b w h0 l0 hs ha hb
        · have k2 : okB l b = false := by simp [okB]; omega
          rw [show catR h a l b = (0, 8) by unfold catR; rw [if_neg hh, if_neg hl, Int.toNat_natCast, Int.toNat_natCast, if_neg k1, if_pos k2]]
          rw [(okB_iff _ _).2 ha] at O1
          rw [k2] at O2
          have O1 := fun W => Lib.hid (O1 W)
          have O2 := fun W => Lib.hid (O2 W)
          clear hh ha64 hb64 hl ha hb k1 k2
          go_enter Try.func20, Try.ntmps20
          go_wp2_with (first
            | (go_at_call 24; (with_reducible refine (V1 _).out.mono ?_); rintro e w' ⟨rfl, rfl⟩)
            | (go_at_call 24; (with_reducible refine (V2 _).out.mono ?_); rintro e w' ⟨rfl, rfl⟩)
            | (go_at_call 14; (with_reducible refine (O1 _).out.mono ?_); rintro e w' ⟨rfl, rfl⟩)
            | (go_at_call 14; (with_reducible refine (O2 _).out.mono ?_); rintro e w' ⟨rfl, rfl⟩))
          go_ret2
          exact ⟨rfl, Below.refl _ _⟩

      · have k1 : okB h a = false := by simp [okB]; omega
        rw [show catR h a l b = (0, 8) by unfold catR; rw [if_neg hh, if_neg hl, Int.toNat_natCast, if_pos (by unfold chk1; rw [k1]; rfl)]]
        rw [k1] at O1
        have O1 := fun W => Lib.hid (O1 W)
        clear hh ha64 hb64 hl ha k1 O2
        go_enter Try.func20, Try.ntmps20
        go_wp2_with (first
          | (go_at_call 24; (with_reducible refine (V1 _).out.mono ?_); rintro e w' ⟨rfl, rfl⟩)
          | (go_at_call 24; (with_reducible refine (V2 _).out.mono ?_); rintro e w' ⟨rfl, rfl⟩)
          | (go_at_call 14; (with_reducible refine (O1 _).out.mono ?_); rintro e w' ⟨rfl, rfl⟩))
        go_ret2
        exact ⟨rfl, Below.refl _ _⟩
end Go.Proofs.Ytdllophjfiebiaa
