/- Contract of Parse of package bits at a string that is no text. -/
import Derived.Test.YtffmijafhchjgaaDoorBitsParseAny
namespace Go.Proofs.YtffmijafhchjgaaDoor
open Go.RowKit Go.Sort
set_option linter.unusedVariables false

/-- The library's two errors are what they were made. -/
def ErrsAt (w : World) : Prop := (∃ te pe, w.cell? ⟨1, 0, none⟩ = some (.iface te pe)) ∧ (∃ te pe, w.cell? ⟨2, 0, none⟩ = some (.iface te pe)) ∧ 1 < w.heap.size ∧ 2 < w.heap.size
theorem ErrsAt.below {w w' : World} (h : ErrsAt w) (hb : Below w.heap.size w w') : ErrsAt w' := by
  obtain ⟨⟨a, b, h1⟩, ⟨c, d, h2⟩, h3, h4⟩ := h
  have := hb.size
  exact ⟨⟨a, b, by rw [hb.cell (p := ⟨1, 0, none⟩) h3]; exact h1⟩, ⟨c, d, by rw [hb.cell (p := ⟨2, 0, none⟩) h4]; exact h2⟩, by omega, by omega⟩
/-- Some error, or none. -/
def ErrOr (v : Value) : Prop := v = .nilIface ∨ ∃ t x, v = .iface t x

theorem atoi_all (s : ByteArray) (w : World) (hm : s.size ≤ 1000) (he : ErrsAt w) :
    Calls Tryd.prog 22 #[.string s] w fun e w' => (∃ (z : Int) (v : Value), e = .returned (.tuple #[.int .i64 z, v]) ∧ ErrOr v) ∧ Below w.heap.size w w' := by
  obtain ⟨⟨t1, p1, h1⟩, ⟨t2, p2, h2⟩, _, _⟩ := he
  cases h : Lib.atoiAll s.data.toList with
  | ok v =>
    refine (Tryd.strconv_Atoi_ok s (by omega) v h w).mono fun e w' ⟨he, hw⟩ => ⟨⟨v, _, he, Or.inl rfl⟩, ?_⟩
    rcases hw with rfl | ⟨t, rfl⟩
    · exact Below.refl _ _
    · exact Lib.bytesWorld_below _ _ _
  | «syntax» => exact (Tryd.strconv_Atoi_syntax s (by omega) h _ w h1 (Or.inr ⟨_, _, rfl⟩)).mono fun e w' ⟨N, he, _, _, hb⟩ => ⟨⟨_, _, he, Or.inr ⟨_, _, rfl⟩⟩, hb⟩
  | range => exact (Tryd.strconv_Atoi_range s (by omega) h _ w h2 (Or.inr ⟨_, _, rfl⟩)).mono fun e w' ⟨N, he, _, _, hb⟩ => ⟨⟨_, _, he, Or.inr ⟨_, _, rfl⟩⟩, hb⟩

theorem toError_all (fn s : ByteArray) (k : Int) (w : World) (hm : s.size ≤ 1000) (he : ErrsAt w) (hk : k = 1 ∨ k = 2) :
    Calls Tryd.prog 37 #[.string fn, .string s, .int .i64 16, .int .i64 64, .iface 68 (.int .i64 k)] w fun e w' => (∃ t x, e = .returned (.iface t x)) ∧ Below w.heap.size w w' := by
  obtain ⟨⟨t1, p1, h1⟩, ⟨t2, p2, h2⟩, _, _⟩ := he
  rcases hk with rfl | rfl
  · exact (Tryd.strconv_toError_range fn s 16 64 _ w (by omega) h2 (Or.inr ⟨_, _, rfl⟩)).mono fun e w' ⟨N, he, _, _, hb⟩ => ⟨⟨_, _, he⟩, hb⟩
  · exact (Tryd.strconv_toError_syntax fn s 16 64 _ w (by omega) h1 (Or.inr ⟨_, _, rfl⟩)).mono fun e w' ⟨N, he, _, _, hb⟩ => ⟨⟨_, _, he⟩, hb⟩

theorem neq_error (t : TypeId) (x : Value) (w : World) : Sem.run Tryd.prog (binOp BinOp.neq 52 (Value.iface t x) Value.nilIface) w = .ok (.bool true) w := by kernel_rfl

theorem neq_guard (p q : Operand) (t : TypeId) (x : Value) (w : World) : Sem.run Tryd.prog (eqGuard BinOp.neq 52 p q (Value.iface t x) Value.nilIface) w = .ok () w := rfl

theorem nil_guard (k : Tmp) (w : World) : Sem.run Tryd.prog (eqGuard BinOp.neq 52 (.tmp k) (.const .nilIface) Value.nilIface Value.nilIface) w = .ok () w := rfl
theorem neq_nil (w : World) : Sem.run Tryd.prog (binOp BinOp.neq 52 Value.nilIface Value.nilIface) w = .ok (.bool false) w := by kernel_rfl

set_option maxRecDepth 100000 in
theorem parseUint_all (s : ByteArray) (w : World) (hm : s.size ≤ 1000) (he : ErrsAt w) :
    Calls Tryd.prog 23 #[.string s, .int .i64 16, .int .i64 64] w fun e w' => (∃ (u : Nat) (v : Value), e = .returned (.tuple #[.int .u64 u, v]) ∧ u < 18446744073709551616 ∧ ErrOr v) ∧ Below w.heap.size w w' := by
  have HX := Lib.hid (fun W => hex_any s W hm)
  have HT := Lib.hid (fun (W : World) (fn : ByteArray) (k : Int) (hE : ErrsAt W) (hk : k = 1 ∨ k = 2) => toError_all fn s k W hm hE hk)
  have HE := Lib.hid he
  have hn := neq_error
  have hg := neq_guard
  clear hm he
  go_enter Tryd.func23, Tryd.ntmps23
  go_wp2_with (go_at_call 38; ((with_reducible refine (HX.out _).mono ?_); rintro e w1 ⟨⟨u, err, rfl, hu, herr, hrest⟩, hb1⟩; have HB := Lib.hid hb1; have HU := Lib.hid hu; have HR := Lib.hid herr; clear hb1 hu herr hrest))
  rcases HR.out with rfl | rfl | rfl
  · go_wp2
    go_ret2
    exact ⟨⟨u, _, rfl, HU.out, Or.inl rfl⟩, HB.out⟩
  · go_wp2_with (go_at_call 37; (with_reducible refine (HT.out _ _ _ (HE.out.below HB.out) (Or.inl rfl)).mono ?_); rintro e w2 ⟨⟨t, x, rfl⟩, hb2⟩)
    go_ret2
    exact ⟨⟨u, _, rfl, HU.out, Or.inr ⟨_, _, rfl⟩⟩, HB.out.trans (hb2.mono HB.out.size)⟩
  · go_wp2_with (go_at_call 37; (with_reducible refine (HT.out _ _ _ (HE.out.below HB.out) (Or.inr rfl)).mono ?_); rintro e w2 ⟨⟨t, x, rfl⟩, hb2⟩)
    go_ret2
    exact ⟨⟨u, _, rfl, HU.out, Or.inr ⟨_, _, rfl⟩⟩, HB.out.trans (hb2.mono HB.out.size)⟩

set_option maxRecDepth 100000 in
/-- Parse at a string that is the text of no valid bit vector. -/
theorem parse_other (s : ByteArray) (w : World) (hm : s.size ≤ 1000) (he : ErrsAt w) (hs : ∀ n x, 1 ≤ n → n ≤ 64 → x < 2 ^ n → s ≠ textB n x) :
    Calls Tryd.prog 7 #[.string s] w fun e w' => e = .returned (.tuple #[.int .i64 0, .int .u64 0, .int .i64 12]) ∧ Below w.heap.size w w' := by
  have HC := Lib.hid (fun W => scut_some s W hm)
  have HE := Lib.hid he
  have HS := Lib.hid hs
  clear hm he hs
  go_enter Tryd.func7, Tryd.ntmps7
  go_wp2_with (first
    | (go_at_call 21; (with_reducible refine (HC.out _).mono ?_); rintro e w1 ⟨⟨a, b, q, rfl, ha, hb⟩, hb1⟩; have HA := Lib.hid (fun (W : World) (hE : ErrsAt W) => atoi_all a W ha hE); have HP := Lib.hid (fun (W : World) (hE : ErrsAt W) => parseUint_all b W hb hE); have HB1 := Lib.hid hb1; clear ha hb hb1)
    | (go_at_call 22; (with_reducible refine (HA.out _ (HE.out.below HB1.out)).mono ?_); rintro e w2 ⟨⟨z, v1, rfl, hv1⟩, hb2⟩; have HB2 := Lib.hid (HB1.out.trans (hb2.mono HB1.out.size)); have HV1 := Lib.hid hv1; clear hb2 hv1)
    | (go_at_call 23; (with_reducible refine (HP.out _ (HE.out.below HB2.out)).mono ?_); rintro e w3 ⟨⟨u, v2, rfl, hu, hv2⟩, hb3⟩; have HB3 := Lib.hid (HB2.out.trans (hb3.mono HB2.out.size)); have HU := Lib.hid hu; have HV2 := Lib.hid hv2; clear hb3 hu hv2))
  rcases HV1.out with rfl | ⟨t1, x1, rfl⟩
  · rw [nil_guard]
    simp only [Result.andThen]
    rw [neq_nil]
    rw [Oper.upon_value]
    go_wp2
    rcases HV2.out with rfl | ⟨t2, x2, rfl⟩
    · have HT := Lib.hid (fun W => textP_any z u W)
      rw [nil_guard]
      simp only [Result.andThen]
      rw [neq_nil]
      rw [Oper.upon_value]
      by_cases h : z < 1 ∨ 64 < z
      · rw [show textR z u = (⟨#[]⟩, 14) by unfold textR; rw [if_pos h]] at HT
        clear h
        go_wp2_with (go_at_call 5; (with_reducible refine (HT.out _).mono ?_); rintro e w4 ⟨rfl, hb4⟩)
        go_ret3
        exact ⟨rfl, HB3.out.trans (hb4.mono HB3.out.size)⟩
      · obtain ⟨n, rfl⟩ : ∃ m : Nat, z = m := ⟨z.toNat, by omega⟩
        cases ho : okB n u with
        | false =>
          rw [show textR n u = (⟨#[]⟩, 8) by unfold textR; rw [if_neg h, Int.toNat_natCast, if_neg (by rw [ho]; decide)]] at HT
          clear h ho
          go_wp2_with (go_at_call 5; (with_reducible refine (HT.out _).mono ?_); rintro e w4 ⟨rfl, hb4⟩)
          go_ret3
          exact ⟨rfl, HB3.out.trans (hb4.mono HB3.out.size)⟩
        | true =>
          rw [show textR n u = (textB n u, 0) by unfold textR; rw [if_neg h, Int.toNat_natCast, if_pos ho]] at HT
          have hne : ((textB n u).toList == s.toList) = false := by
            rw [← beq_toListBytes]
            cases hq : (textB n u == s) with
            | false => rfl
            | true =>
              rw [beq_toListBytes] at hq
              have e2 : (textB n u).toList = s.toList := by simpa using hq
              rw [ByteArray.toList_eq, ByteArray.toList_eq] at e2
              exact absurd (ba_eq e2).symm (HS.out n u (by omega) (by omega) ((okB_iff n u).1 ho))
          generalize textB n u = tx at *
          clear h ho
          go_wp2_with (go_at_call 5; (with_reducible refine (HT.out _).mono ?_); rintro e w4 ⟨rfl, hb4⟩)
          go_ret3
          exact ⟨rfl, HB3.out.trans (hb4.mono HB3.out.size)⟩
    · rw [neq_guard]
      simp only [Result.andThen]
      rw [neq_error]
      rw [Oper.upon_value]
      go_wp2
      go_ret3
      exact ⟨rfl, HB3.out⟩
  · rw [neq_guard]
    simp only [Result.andThen]
    rw [neq_error]
    rw [Oper.upon_value]
    go_wp2
    go_ret3
    exact ⟨rfl, HB3.out⟩
end Go.Proofs.YtffmijafhchjgaaDoor
