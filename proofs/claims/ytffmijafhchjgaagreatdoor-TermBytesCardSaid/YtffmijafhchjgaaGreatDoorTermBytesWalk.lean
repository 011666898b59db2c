/- The walk of TermBytes. -/
import Derived.Test.YtffmijafhchjgaaGreatDoorTermLoads
import Derived.Test.YtffmijafhchjgaaGreatDoorTermBytesPlay
import Derived.Deep.SlicePairs
namespace Go.Proofs.YtffmijafhchjgaaGreatDoor.termBytes
open Go.RowKit
set_option linter.unusedVariables false

theorem full_mask (n : Nat) (h0 : 1 ≤ n) (h1 : n ≤ 64) : ((18446744073709551615 : Int) / 2 ^ (64 - n)) = ((mk n : Nat) : Int) := by
  have hs := pow_split n h1
  have hm := mk_succ n
  have hp := pow_pos' (64 - n)
  have h2 : 18446744073709551615 / 2 ^ (64 - n) = mk n := by
    refine Nat.div_eq_of_lt_le ?_ ?_
    · have : mk n * 2 ^ (64 - n) + 2 ^ (64 - n) = 18446744073709551616 := by rw [← hs, ← hm, Nat.add_mul, Nat.one_mul]
      omega
    · have : (mk n + 1) * 2 ^ (64 - n) = 18446744073709551616 := by rw [hm, hs]
      omega
  rw [← h2, Int.natCast_ediv, Int.natCast_pow]
  rfl
theorem mask_cut (n x : Nat) (h0 : 1 ≤ n) (h1 : n ≤ 64) (hx : x < 18446744073709551616) :
    bits .and .u64 (x : Int) ((18446744073709551615 : Int) / 2 ^ (64 - n)) = ((x % 2 ^ n : Nat) : Int) := by
  rw [full_mask n h0 h1, bits_and_u64_nat x (mk n) hx (mk_lt n h1)]
  unfold mk
  rw [Nat.and_two_pow_sub_one_eq_mod]

theorem byte_go (f : Nat → Nat) (hf : ∀ i, f i < 256) (j k : Nat) (hj : j < k) (hk : k ≤ 8) :
    ((f j : Int) != bits .and .u64 (((part f k : Nat) : Int) / 2 ^ min (IntKind.u64.wrap (wrap64 (8 * (j : Int)))).toNat 64) 255) = false := by
  have h2 := part_64 f hf k hk
  have e2 : min (IntKind.u64.wrap (wrap64 (8 * (j : Int)))).toNat 64 = 8 * j := by rw [wrap64_small _ (by omega) (by omega), IntKind.wrap_u64]; omega
  have e3 : ((part f k : Nat) : Int) / 2 ^ (8 * j) = ((part f k / 2 ^ (8 * j) : Nat) : Int) := by simp
  have e4 : part f k / 2 ^ (8 * j) < 18446744073709551616 := Nat.lt_of_le_of_lt (Nat.div_le_self _ _) h2
  have e5 : bits .and .u64 ((part f k / 2 ^ (8 * j) : Nat) : Int) 255 = ((part f k / 2 ^ (8 * j) % 256 : Nat) : Int) := by
    rw [show (255 : Int) = ((2 ^ 8 - 1 : Nat) : Int) from rfl, bits_and_u64_nat _ _ e4 (by decide), Nat.and_two_pow_sub_one_eq_mod]
  rw [e2, e3, e5, part_byte f hf j k hj]
  simp

set_option maxRecDepth 20000 in
theorem core (p : Option Addr) (n cap : Nat) (A B : Nat → Nat) (ad t wd a : Nat) (w : World) (hm : MemAt w p n A B) (hB : ∀ i, i < n → B i < 256) (ht : t < 18446744073709551616)
    (hwd : wd = ad % 64 + 1) (ha : a = t % 2 ^ wd)
    (hal : Calls Tryz.prog 9 #[] w fun e w' => e = .returned (.bool true) ∧ Below w.heap.size w w') :
    Calls Tryz.prog 4 #[.slice p n cap, .int .u8 ad, .int .u64 t] w fun e w' => e = .returned (.bool true) ∧ Below w.heap.size w w' := by
  have HM := Lib.hid hm
  have HA := Lib.hid hal
  have HB := Lib.hid hB
  clear hm hal hB
  by_cases hn : n ≤ 4200
  · have hn' : decide ((4200 : Int) < (n : Int)) = false := by simp; omega
    have h0 : 1 ≤ wd := by omega
    have h1 : wd ≤ 64 := by omega
    go_enter Tryz.func4, Tryz.ntmps4
    go_wp2_with (go_at_call 9; refine HA.out.mono ?_; rintro e w1 ⟨rfl, hb1⟩)
    have hx : bits .and .u64 (t : Int) ((18446744073709551615 : Int) / 2 ^ (63 - ad % 64)) = (a : Int) := by
      have := mask_cut wd t h0 h1 ht
      rw [← ha, hwd, show 64 - (ad % 64 + 1) = 63 - ad % 64 by omega] at this
      exact this
    have h8 : (ad : Int) % 64 + 1 = (wd : Int) := by omega
    have h63 : 64 - (ad % 64 + 1) = 63 - ad % 64 := by omega
    simp only [hx, h8, h63]
    generalize hwb : (w1.alloc (Obj.cells #[Value.int IntKind.i64 8, Value.int IntKind.i64 16, Value.int IntKind.i64 32, Value.int IntKind.i64 64] 3)) = wb
    have hb2 : Below w.heap.size w wb := by rw [← hwb]; exact hb1.alloc hb1.size _
    have hbs : w1.heap.size < wb.heap.size := by rw [← hwb]; simp
    have hcell : ∀ k, k < 4 → wb.cell? ⟨w1.heap.size, k, none⟩ = some (.int .i64 ((8 * 2 ^ k : Nat) : Int)) := by
      intro k hk
      rw [← hwb]
      clear hwb hx h8 h63
      match k, hk with
      | 0, _ => go_simp
      | 1, _ => go_simp
      | 2, _ => go_simp
      | 3, _ => go_simp
    have halt : a < 2 ^ wd := by rw [ha]; exact Nat.mod_lt _ (pow_pos' wd)
    generalize w1.heap.size = bk at *
    clear hwb hx h8 h63 hwd ha hb1 HA
    have HC := Lib.hid hcell
    have HB2 := Lib.hid hb2
    have HS := Lib.hid hbs
    have HL := Lib.hid halt
    clear hcell hb2 hbs halt ht hn'
    rcases cellsE_two n A B with he | he
    · go_loopw [38] (fun i wr => ∃ k : Nat, i = .int .i64 k ∧ k ≤ 4 ∧ Below wb.heap.size wb wr) (fun i _ => 4 - (intOf i).toNat)
      case atStart => exact ⟨0, rfl, by omega, Below.refl _ _⟩
      case round =>
        obtain ⟨k, rfl, hk, hb⟩ := hrel
        have HW := Lib.hid hb
        clear hb
        by_cases hlt : k < 4
        · obtain ⟨kk, hkk⟩ : ∃ kk, kk = 2 ^ k := ⟨_, rfl⟩
          have hk4 : kk = 1 ∨ kk = 2 ∨ kk = 4 ∨ kk = 8 := by
            rcases (by omega : k = 0 ∨ k = 1 ∨ k = 2 ∨ k = 3) with rfl | rfl | rfl | rfl <;> simp [hkk]
          have c0 := HC.out k hlt
          rw [← hkk, ← HW.out.cell (p := ⟨bk, k, none⟩) HS.out] at c0
          obtain ⟨m, hm8⟩ : ∃ m, m = 8 * kk := ⟨_, rfl⟩
          rw [← hm8] at c0
          have hq : wrap64 ((m : Int) / 8) = (kk : Int) := by rw [wrap64_small _ (by omega) (by omega)]; omega
          have HK := Lib.hid (And.intro hm8 (And.intro hk4 hk))
          clear hm8 hk4 hk hkk
          have hmw := HM.out.below HB2.out
          have HMW := Lib.hid hmw
          clear hmw
          go_wp2_with (first
            | (go_at_call 10; refine (load_any p n cap A B wd a m kk _ (fun _ => rfl) wr hn (HMW.out.below HW.out) h0 h1 HK.out.2.1 HK.out.1 HB.out HL.out he).mono ?_; rintro e w2 ⟨rfl, hb2⟩)
            | (go_at_call 11; refine ((cells_any p n cap A B _ ((HMW.out.below HW.out).below hb2) hn)).mono ?_; rw [he]; rintro e w3 ⟨rfl, hb3⟩))
          obtain ⟨f, hf⟩ : ∃ f : Nat → Nat, f = fun x => bytN A B n (adr wd a x) := ⟨_, rfl⟩
          rw [show (fun x => bytN A B n (adr wd a x)) = f from hf.symm]
          have hfj : ∀ j, f j = bytN A B n (adr wd a j) := fun j => by rw [hf]
          have hf256 : ∀ j, f j < 256 := fun j => by rw [hfj]; exact bytN_lt A B n _ HB.out
          have HF := Lib.hid hfj
          have HF2 := Lib.hid hf256
          have HW3 : Hid (Below wb.heap.size wb w3) := Lib.hid ((HW.out.trans (hb2.mono HW.out.size)).trans (hb3.mono (Nat.le_trans HW.out.size hb2.size)))
          clear hf hfj hf256 hb2 hb3 c0
          go_loopw [13] (fun i wr => ∃ j : Nat, i = .int .i64 j ∧ j ≤ kk ∧ Below wb.heap.size wb wr) (fun i _ => kk - (intOf i).toNat)
          case atStart => exact ⟨0, rfl, by omega, HW3.out⟩
          case round =>
            obtain ⟨j, rfl, hj, hb⟩ := hrel
            have HW4 := Lib.hid hb
            clear hb
            by_cases hjk : j < kk
            · obtain ⟨v, hv⟩ : ∃ v, v = adr wd a j := ⟨_, rfl⟩
              have hadr := adr_val wd a j h1
              rw [← hv, ← full_mask wd h0 h1] at hadr
              have hvl : v < 2 ^ wd := by rw [hv]; exact Nat.mod_lt _ (pow_pos' wd)
              have hb1 : part (fun x => bytN A B n (adr wd v x)) 1 = f j := by
                rw [HF.out, ← hv]
                simp only [part, Nat.zero_add, Nat.mul_zero, Nat.pow_zero, Nat.mul_one, adr, Nat.add_zero]
                rw [Nat.mod_eq_of_lt hvl]
              have HL1 : Hid (∀ W : World, Below wb.heap.size wb W → Calls Tryz.prog 10 #[.slice p n cap, .int .i64 wd, .int .u64 v, .int .i64 8] W fun e w' => e = .returned (.tuple #[.int .u64 (f j), .int .i64 0]) ∧ Below W.heap.size W w') := by
                rw [← hb1]
                exact Lib.hid (fun (W : World) (hb : Below wb.heap.size wb W) => load_any p n cap A B wd v 8 1 _ (fun _ => rfl) W hn (HMW.out.below hb) h0 h1 (Or.inl rfl) rfl HB.out hvl he)
              have huj : IntKind.u64.wrap (j : Int) = (j : Int) := by have := HK.out; rw [IntKind.wrap_u64]; omega
              have hbit := byte_go f HF2.out j kk hjk (by have := HK.out; omega)
              clear hvl hb1 hv
              go_wp2_with (go_at_call 10; with_reducible refine (HL1.out _ HW4.out).mono ?_; rintro e w4 ⟨rfl, hb4⟩)
              go_roundw
              case rel => exact ⟨j + 1, by have := HK.out; first | rfl | (rw [wrap64_small _ (by omega) (by omega)]; rfl), by omega, HW4.out.trans (hb4.mono HW4.out.size)⟩
              case measure => have := HK.out; (try rw [wrap64_small _ (by omega) (by omega)]); simp only [intOf]; omega
            · obtain rfl : j = kk := by omega
              have hk := HK.out.2.2
              go_wp2
              go_roundw
              case rel => exact ⟨k + 1, by first | rfl | (rw [wrap64_small _ (by omega) (by omega)]; rfl), by omega, HW4.out⟩
              case measure => (try rw [wrap64_small _ (by omega) (by omega)]); simp only [intOf]; omega
        · obtain rfl : k = 4 := by omega
          go_wp2
          go_ret
          exact ⟨rfl, HB2.out.trans (HW.out.mono HB2.out.size)⟩
    · go_loopw [38] (fun i wr => ∃ k : Nat, i = .int .i64 k ∧ k ≤ 4 ∧ Below wb.heap.size wb wr) (fun i _ => 4 - (intOf i).toNat)
      case atStart => exact ⟨0, rfl, by omega, Below.refl _ _⟩
      case round =>
        obtain ⟨k, rfl, hk, hb⟩ := hrel
        have HW := Lib.hid hb
        clear hb
        by_cases hlt : k < 4
        · have c0 := HC.out k hlt
          rw [← HW.out.cell (p := ⟨bk, k, none⟩) HS.out] at c0
          generalize 8 * 2 ^ k = m at c0
          have hmw := HM.out.below HB2.out
          have HMW := Lib.hid hmw
          clear hmw
          go_wp2_with (first
            | (go_at_call 10; refine (load_bad p n cap A B wd a m wr hn (HMW.out.below HW.out) he).mono ?_; rintro e w2 ⟨rfl, hb2⟩)
            | (go_at_call 11; refine ((cells_any p n cap A B _ ((HMW.out.below HW.out).below hb2) hn)).mono ?_; rw [he]; rintro e w3 ⟨rfl, hb3⟩))
          have HW3 : Hid (Below wb.heap.size wb w3) := Lib.hid ((HW.out.trans (hb2.mono HW.out.size)).trans (hb3.mono (Nat.le_trans HW.out.size hb2.size)))
          go_roundw
          case rel => exact ⟨k + 1, by first | rfl | (rw [wrap64_small _ (by omega) (by omega)]; rfl), by omega, HW3.out⟩
          case measure => (try rw [wrap64_small _ (by omega) (by omega)]); simp only [intOf]; omega
        · obtain rfl : k = 4 := by omega
          go_wp2
          go_ret
          exact ⟨rfl, HB2.out.trans (HW.out.mono HB2.out.size)⟩
  · have hn' : decide ((4200 : Int) < (n : Int)) = true := by simp; omega
    go_enter Tryz.func4, Tryz.ntmps4
    go_wp2_with (go_at_call 9; refine HA.out.mono ?_; rintro e w1 ⟨rfl, hb1⟩)
    go_ret
    exact ⟨rfl, hb1⟩

set_option maxRecDepth 100000
open Go.ChangeShapes Go.WideShapes Go.Deep in
/-- A slice of cells that came in, as the contracts want it. -/
theorem open_cells {H : Type} {enc : TypeId × Value → H} {W : World} {base : Nat} {v0 : Value} {d0 : DataW H} {p0 : List MemPlace} (ok : Value.okWide Tryz.prog W .any base 34 v0)
    (h : DataW.Trod enc Tryz.prog W 0 (fun _ => true) true 34 v0 d0 p0) :
    ∃ (p : Option Addr) (n cap : Nat) (A B : Nat → Nat), v0 = .slice p n cap ∧ MemAt W p n A B ∧ ∀ i, i < n → B i < 256 := by
  obtain ⟨a, len, cap, rfl⟩ := okWide_slice Tryz.underlying34 ok
  obtain ⟨fuel, h⟩ := h
  have hc : (Value.slice a len cap).cells.toList = [.slice a len cap] := rfl
  rw [hc] at h
  rcases open_slice_pairs Tryz.underlying34 Tryz.underlying53 (by kernel_rfl) rfl rfl (by kernel_rfl) (by kernel_rfl) h with ⟨h1, _⟩ | ⟨a', len', cap', m, k, V0, V1, D0, D1, P0, P1, h1, _, hl, _, hm, _, hall⟩
  · simp only [List.cons.injEq, Value.slice.injEq, and_true] at h1
    obtain ⟨rfl, rfl, rfl⟩ := h1
    exact ⟨none, 0, 0, fun _ => 0, fun _ => 0, rfl, fun i hi => absurd hi (by omega), fun i hi => absurd hi (by omega)⟩
  · simp only [List.cons.injEq, Value.slice.injEq, and_true] at h1
    obtain ⟨rfl, rfl, rfl⟩ := h1
    simp only [if_true] at hm
    have each : ∀ i, i < len → ∃ x : Nat × Nat, V0 i = .int .u64 (x.1 : Int) ∧ V1 i = .int .u8 (x.2 : Int) ∧ x.2 < 256 := fun i hi => by
      obtain ⟨_, _, t0, t1⟩ := hall i (by omega)
      obtain ⟨z0, e0, _, w0⟩ := DataW.trod_int Tryz.underlying25 t0
      obtain ⟨z1, e1, _, w1⟩ := DataW.trod_int Tryz.underlying5 t1
      simp only [List.cons.injEq, and_true] at e0 e1
      simp [Lit.wf, IntKind.min, IntKind.max, IntKind.bits, IntKind.signed] at w0 w1
      exact ⟨(z0.toNat, z1.toNat), by rw [e0, Int.toNat_of_nonneg w0.1], by rw [e1, Int.toNat_of_nonneg w1.1], by omega⟩
    obtain ⟨X, hX⟩ := choose_lt each
    refine ⟨some a', len, cap, fun i => (X i).1, fun i => (X i).2, rfl, fun i hi => ?_, fun i hi => (hX i hi).2.2⟩
    obtain ⟨c0, c1, _, _⟩ := hall i (by omega)
    obtain ⟨b, o, spot⟩ := a'
    have hspot : spot = none := by simpa [Addr.add] using World.cell?_spot (hall 0 (by omega)).1
    subst hspot
    rw [(hX i hi).1, add_plain] at c0
    rw [(hX i hi).2.1, add_plain] at c1
    have hlt : b < W.heap.size := Nat.lt_of_not_le fun hle => by
      have hn : W.heap[b]? = none := by simp [hle]
      simp [World.cell?, hn] at c0
    exact ⟨b, o, rfl, hlt, c0, c1⟩

theorem walk {H : Type} {enc : TypeId × Value → H} {W : World} {base : Nat} (v0 : Value) {d0 : DataW H} {p0 : List MemPlace} (a1 a2 : Int) (ok : Value.okWide Tryz.prog W .any base 34 v0)
    (h : DataW.Trod enc Tryz.prog W 0 (fun _ => true) true 34 v0 d0 p0) (w1 : (Lit.int .u8 a1).wf = true) (w2 : (Lit.int .u64 a2).wf = true) (hL : laidMetH Tryz.prog Rows.termBytesRow.laid W) :
    Calls Tryz.prog 4 #[v0, .int .u8 a1, .int .u64 a2] W fun e w' => e = .returned (.bool true) ∧ Below W.heap.size W w' := by
  obtain ⟨p, n, cap, A, B, rfl, hm, hB⟩ := open_cells ok h
  simp [Lit.wf, IntKind.min, IntKind.max, IntKind.bits, IntKind.signed] at w1 w2
  obtain ⟨ad, rfl⟩ : ∃ m : Nat, a1 = m := ⟨a1.toNat, by omega⟩
  obtain ⟨t, rfl⟩ : ∃ m : Nat, a2 = m := ⟨a2.toNat, by omega⟩
  exact core p n cap A B ad t _ _ W hm hB (by omega) rfl rfl (alive_walk W hL)
end Go.Proofs.YtffmijafhchjgaaGreatDoor.termBytes
