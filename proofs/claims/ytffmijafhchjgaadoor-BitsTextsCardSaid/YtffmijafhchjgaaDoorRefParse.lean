/- Contract of the reference's Parse. -/
import Derived.Test.YtffmijafhchjgaaDoorRefText
import Derived.Test.YtffmijafhchjgaaDoorBitsParseAll
namespace Go.Proofs.YtffmijafhchjgaaDoor
open Go.RowKit Go.Sort
set_option linter.unusedVariables false

/-- What the reference takes a byte for. -/
def hv (c : Nat) : Nat := if 97 ≤ c ∧ c ≤ 102 then c - 97 + 10 else if 48 ≤ c ∧ c ≤ 57 then c - 48 else 0
def hacc (l : List UInt8) : Nat := l.foldl (fun a c => (a * 16 + hv c.toNat) % 18446744073709551616) 0
theorem hacc_lt (l : List UInt8) : hacc l < 18446744073709551616 := by
  unfold hacc
  rcases List.eq_nil_or_concat l with rfl | ⟨a, b, rfl⟩
  · decide
  · rw [List.concat_eq_append, List.foldl_append]
    exact Nat.mod_lt _ (by decide)
theorem hacc_snoc (l : List UInt8) (c : UInt8) : hacc (l ++ [c]) = (hacc l * 16 + hv c.toNat) % 18446744073709551616 := by
  unfold hacc
  rw [List.foldl_append]
  rfl
theorem hv_dig : ∀ d : Fin 16, hv (UInt8.ofNat (hexD d.val)).toNat = d.val := by decide +kernel
theorem hacc_text (x : Nat) : ∀ m a, a * 16 ^ m + x % 16 ^ m < 18446744073709551616 → (hexL m x).foldl (fun a c => (a * 16 + hv c.toNat) % 18446744073709551616) a = a * 16 ^ m + x % 16 ^ m
  | 0, a, h => by simp [hexL, Nat.mod_one]
  | m + 1, a, h => by
    have e : (a * 16 + x / 16 ^ m % 16) * 16 ^ m + x % 16 ^ m = a * 16 ^ (m + 1) + x % 16 ^ (m + 1) := by
      rw [Nat.mod_pow_succ, Nat.pow_succ, Nat.add_mul]
      have e1 : a * 16 * 16 ^ m = a * (16 ^ m * 16) := by rw [Nat.mul_assoc, Nat.mul_comm 16]
      have e2 : x / 16 ^ m % 16 * 16 ^ m = 16 ^ m * (x / 16 ^ m % 16) := Nat.mul_comm _ _
      omega
    have hp : 0 < 16 ^ m := Nat.pow_pos (by decide)
    have hlt : a * 16 + x / 16 ^ m % 16 < 18446744073709551616 := by
      have := Nat.le_mul_of_pos_right (a * 16 + x / 16 ^ m % 16) hp
      omega
    rw [hexL_succ, List.foldl_cons, digAt, hv_dig ⟨x / 16 ^ m % 16, Nat.mod_lt _ (by decide)⟩, Nat.mod_eq_of_lt hlt, hacc_text x m _ (by rw [e]; exact h), e]

theorem text_size (n x : Nat) : (textB n x).size = (decB n).size + 1 + (n + 3) / 4 := by
  rw [textB, ByteArray.size_append, ByteArray.size_append, hexB_size]
  rfl
theorem text_tail (n x : Nat) (h1 : n ≤ 64) : (textB n x).data.toList.drop ((textB n x).size - (n + 3) / 4) = hexL ((n + 3) / 4) x := by
  have e : (textB n x).data.toList = (decB n).data.toList ++ 58 :: hexL ((n + 3) / 4) x := by simp [textB, hexB]
  have hl : (decB n).data.toList.length = (decB n).size := rfl
  rw [text_size, e, List.drop_append, List.drop_of_length_le (by omega), List.nil_append, hl, show (decB n).size + 1 + (n + 3) / 4 - (n + 3) / 4 - (decB n).size = 1 by omega]
  rfl
theorem text_value (n x : Nat) (h1 : n ≤ 64) (hx : x < 2 ^ n) : hacc ((textB n x).data.toList.drop ((textB n x).size - (n + 3) / 4)) = x := by
  have h16 : x < 16 ^ ((n + 3) / 4) := Nat.lt_of_lt_of_le hx (by
    rw [show (16 : Nat) = 2 ^ 4 from rfl, ← Nat.pow_mul]
    exact Nat.pow_le_pow_right (by decide) (by omega))
  have hx64 := Nat.lt_of_lt_of_le hx (pow_le n h1)
  rw [text_tail n x h1, hacc, hacc_text x _ 0 (by rw [Nat.mod_eq_of_lt h16]; omega), Nat.mod_eq_of_lt h16]
  omega
theorem dec_one : ∀ a b : Fin 65, decB a.val = decB b.val → a = b := by decide +kernel
theorem text_one (n k x y : Nat) (hn : n ≤ 64) (hk : k ≤ 64) (hx : x < 2 ^ n) (hy : y < 2 ^ k) (h : textB n x = textB k y) : n = k ∧ x = y := by
  obtain ⟨_, i1, e1, _⟩ := cut_parts (textB n x) (decB n) (hexB ((n + 3) / 4) x) rfl (fun y hy => by simpa using List.all_eq_true.1 (decB_plain ⟨n, by omega⟩) y hy)
  obtain ⟨_, i2, e2, _⟩ := cut_parts (textB k y) (decB k) (hexB ((k + 3) / 4) y) rfl (fun y hy => by simpa using List.all_eq_true.1 (decB_plain ⟨k, by omega⟩) y hy)
  rw [h, i2] at i1
  rw [h, ← (by omega : (decB k).size = (decB n).size), e2] at e1
  have hnk : n = k := (congrArg Fin.val (dec_one ⟨k, by omega⟩ ⟨n, by omega⟩ e1)).symm
  subst hnk
  have v1 := text_value n x hn hx
  rw [h, text_value n y hn hy] at v1
  exact ⟨rfl, v1.symm⟩

/-- What Parse ought to find. -/
def Found (s : ByteArray) (rn rx : Nat) (re : Int) : Prop :=
  (1 ≤ rn ∧ rn ≤ 64 ∧ rx < 2 ^ rn ∧ s = textB rn rx ∧ re = 0) ∨ (rn = 0 ∧ rx = 0 ∧ re = 12 ∧ ∀ n x, 1 ≤ n → n ≤ 64 → x < 2 ^ n → s ≠ textB n x)

set_option maxRecDepth 100000 in
theorem refParse_short (s : ByteArray) (L rn rx : Nat) (re : Int) (w : World) (hL : s.size = L) (hl : L ≤ 20) (hf : Found s rn rx re) :
    Calls Tryd.prog 8 #[.string s] w fun e w' => e = .returned (.tuple #[.int .i64 rn, .int .u64 rx, .int .i64 re]) ∧ Below w.heap.size w w' := by
  have HF := Lib.hid hf
  have HT : Hid (∀ (W : World) (q : Nat), 1 ≤ q → q ≤ 64 → Calls Tryd.prog 6 #[.int .i64 q, .int .u64 0] W fun e w' => e = .returned (.tuple #[.string (textB q 0), .int .i64 0]) ∧ Below W.heap.size W w') := Lib.hid (fun (W : World) (q : Nat) (a : 1 ≤ q) (b : q ≤ 64) => refText_ok q 0 W a b (pow_pos' q))
  clear hf
  go_enter Tryd.func8, Tryd.ntmps8
  go_wp2
  go_loopw [5] (fun vk wr => ∃ q : Nat, vk = .int .i64 q ∧ 1 ≤ q ∧ q ≤ 65 ∧ Hid (re = 0 → q ≤ rn) ∧ Below w.heap.size w wr) (fun vk _ => 65 - (intOf vk).toNat)
  case atStart => exact ⟨1, rfl, by omega, by omega, Lib.hid (fun h => by rcases HF.out with h1 | h1 <;> omega), Below.refl _ _⟩
  case round =>
    obtain ⟨q, rfl, hq0, hq1, HQ, hB⟩ := hrel
    have HB := Lib.hid hB
    clear hB
    by_cases hlt : q ≤ 64
    · obtain ⟨t0, ht0⟩ : ∃ t, t = textB q 0 := ⟨_, rfl⟩
      have HT0 : Hid (∀ W : World, Calls Tryd.prog 6 #[.int .i64 q, .int .u64 0] W fun e w' => e = .returned (.tuple #[.string t0, .int .i64 0]) ∧ Below W.heap.size W w') := by rw [ht0]; exact Lib.hid (fun W => HT.out W q hq0 hlt)
      have hz : t0.size = (decB q).size + 1 + (q + 3) / 4 := by rw [ht0]; exact text_size q 0
      have HZ := Lib.hid hz
      clear ht0 hz
      by_cases hzL : t0.size = L
      · obtain ⟨b, hb⟩ : ∃ b, b = L - (q + 3) / 4 := ⟨_, rfl⟩
        have hbz : (L : Int) - ((q : Int) + 3) / 4 = (b : Int) := by have := HZ.out; omega
        have hbL : b ≤ L := by omega
        have HBb := Lib.hid hb
        clear hb
        go_wp2_with (go_at_call 6; (with_reducible refine (HT0.out _).mono ?_); rintro e w1 ⟨rfl, hb1⟩)
        have HB1 := Lib.hid (HB.out.trans (hb1.mono HB.out.size))
        clear hb1
        go_loopw [9, 10] (fun vx vi wr => ∃ p a : Nat, vx = .int .u64 a ∧ vi = .int .i64 p ∧ b ≤ p ∧ p ≤ L ∧ Hid (a = hacc ((s.data.toList.drop b).take (p - b))) ∧ Below w.heap.size w wr) (fun _ vi _ => L - (intOf vi).toNat)
        case atStart => exact ⟨b, 0, rfl, rfl, by omega, by omega, by rw [Nat.sub_self]; rfl, HB1.out⟩
        case round =>
          obtain ⟨p, a, rfl, rfl, hp0, hp1, HP, hB2⟩ := hrel
          have HB2 := Lib.hid hB2
          clear hB2
          by_cases hpl : p < L
          · obtain ⟨c, hc⟩ : ∃ c : UInt8, s[p]'(by omega) = c := ⟨_, rfl⟩
            have hn : hacc ((s.data.toList.drop b).take (p + 1 - b)) = (a * 16 + hv c.toNat) % 18446744073709551616 := by
              have hg : (s.data.toList.drop b)[p - b]? = some c := by
                rw [List.getElem?_drop, show b + (p - b) = p by omega, Lib.data_getElem? s p (by omega), hc]
              rw [show p + 1 - b = (p - b) + 1 by omega, List.take_add_one, hg, Option.toList_some, hacc_snoc, ← HP.out]
            have HN := Lib.hid hn
            clear hn
            go_wp2
            all_goals
              go_roundw
              case rel =>
                refine ⟨p + 1, _, ?_, by first | rfl | (rw [wrap64_small _ (by omega) (by omega)]; rfl), by omega, by omega, Lib.hid rfl, HB2.out⟩
                have e := HN.out
                unfold hv at e
                rw [e]
                congr 1
                simp only [IntKind.wrap_u64]
                split <;> (try split) <;> omega
              case measure => (try rw [wrap64_small _ (by omega) (by omega)]); simp only [intOf]; omega
          · obtain rfl : p = L := by omega
            have hav : re = 0 → rn = q → rx < 2 ^ q ∧ s = textB q rx ∧ a = rx := by
              intro h0 h1
              rcases HF.out with ⟨_, _, hx, hs, _⟩ | ⟨_, _, h2, _⟩
              · subst h1
                refine ⟨hx, hs, ?_⟩
                have e := HP.out
                rw [List.take_of_length_le (by rw [List.length_drop]; have : s.data.toList.length = s.size := rfl; omega), HBb.out, ← hL, hs, text_value _ _ hlt hx] at e
                exact e
              · omega
            have ha64 : a < 18446744073709551616 := by rw [HP.out]; exact hacc_lt _
            have HTA := Lib.hid (fun W => refText_any q a W hq0 hlt ha64)
            have HAV := Lib.hid hav
            clear hav ha64
            cases ho : okB q a with
            | false =>
              rw [show textR q a = (⟨#[]⟩, 8) by unfold textR; rw [if_neg (by omega), Int.toNat_natCast, if_neg (by rw [ho]; decide)]] at HTA
              have HOF := Lib.hid ho
              clear ho
              go_wp2_with (go_at_call 6; (with_reducible refine (HTA.out _).mono ?_); rintro e w2 ⟨rfl, hb2⟩)
              go_roundw
              case rel =>
                refine ⟨q + 1, by first | rfl | (rw [wrap64_small _ (by omega) (by omega)]; rfl), by omega, by omega, Lib.hid fun h0 => ?_, HB2.out.trans (hb2.mono HB2.out.size)⟩
                have h1 := HQ.out h0
                by_cases h2 : rn = q
                · obtain ⟨hx, _, rfl⟩ := HAV.out h0 h2
                  have := (okB_iff q a).2 hx
                  rw [HOF.out] at this
                  cases this
                · omega
              case measure => (try rw [wrap64_small _ (by omega) (by omega)]); simp only [intOf]; omega
            | true =>
              rw [show textR q a = (textB q a, 0) by unfold textR; rw [if_neg (by omega), Int.toNat_natCast, if_pos ho]] at HTA
              have HOF := Lib.hid ((okB_iff q a).1 ho)
              clear ho
              obtain ⟨t, ht⟩ : ∃ t, t = textB q a := ⟨_, rfl⟩
              rw [← ht] at HTA
              have HTT := Lib.hid ht
              clear ht
              cases hts : (t.toList == s.toList) with
              | true =>
                have e2 : t = s := by
                  have e2 : t.toList = s.toList := by simpa using hts
                  rw [ByteArray.toList_eq, ByteArray.toList_eq] at e2
                  exact ba_eq e2
                have HE2 := Lib.hid e2
                clear e2
                go_wp2_with (go_at_call 6; (with_reducible refine (HTA.out _).mono ?_); rintro e w2 ⟨rfl, hb2⟩)
                go_ret3
                refine ⟨?_, HB2.out.trans (hb2.mono HB2.out.size)⟩
                have e3 : s = textB q a := by rw [← HE2.out]; exact HTT.out
                rcases HF.out with ⟨_, hr2, hx, hs, h0⟩ | ⟨_, _, _, hno⟩
                · obtain ⟨h1, h2⟩ := text_one rn q rx a hr2 hlt hx HOF.out (hs.symm.trans e3)
                  subst h1; subst h2; subst h0
                  rfl
                · exact absurd e3 (hno q a hq0 hlt HOF.out)
              | false =>
                have hne : t ≠ s := by rintro rfl; simp at hts
                have HNE := Lib.hid hne
                clear hne
                go_wp2_with (go_at_call 6; (with_reducible refine (HTA.out _).mono ?_); rintro e w2 ⟨rfl, hb2⟩)
                go_roundw
                case rel =>
                  refine ⟨q + 1, by first | rfl | (rw [wrap64_small _ (by omega) (by omega)]; rfl), by omega, by omega, Lib.hid fun h0 => ?_, HB2.out.trans (hb2.mono HB2.out.size)⟩
                  have h1 := HQ.out h0
                  by_cases h2 : rn = q
                  · obtain ⟨hx, hs, rfl⟩ := HAV.out h0 h2
                    exact absurd (HTT.out.trans hs.symm) HNE.out
                  · omega
                case measure => (try rw [wrap64_small _ (by omega) (by omega)]); simp only [intOf]; omega
      · have hne : ((t0.size : Int) != (L : Int)) = true := by simp; omega
        have HZL := Lib.hid hzL
        clear hzL
        go_wp2_with (go_at_call 6; (with_reducible refine (HT0.out _).mono ?_); rintro e w1 ⟨rfl, hb1⟩)
        go_roundw
        case rel =>
          refine ⟨q + 1, by first | rfl | (rw [wrap64_small _ (by omega) (by omega)]; rfl), by omega, by omega, Lib.hid fun h0 => ?_, HB.out.trans (hb1.mono HB.out.size)⟩
          have h1 := HQ.out h0
          by_cases h2 : rn = q
          · rcases HF.out with ⟨_, _, _, hs, _⟩ | ⟨_, _, h3, _⟩
            · refine absurd ?_ HZL.out
              rw [HZ.out, ← hL, hs, text_size, h2]
            · omega
          · omega
        case measure => (try rw [wrap64_small _ (by omega) (by omega)]); simp only [intOf]; omega
    · obtain rfl : q = 65 := by omega
      go_wp2
      go_ret3
      refine ⟨?_, HB.out⟩
      rcases HF.out with ⟨_, h2, _, _, h0⟩ | ⟨rfl, rfl, rfl, _⟩
      · have := HQ.out h0
        omega
      · rfl

set_option maxRecDepth 100000 in
theorem refParse_any (s : ByteArray) (rn rx : Nat) (re : Int) (w : World) (hm : s.size ≤ 1000) (hf : Found s rn rx re) :
    Calls Tryd.prog 8 #[.string s] w fun e w' => e = .returned (.tuple #[.int .i64 rn, .int .u64 rx, .int .i64 re]) ∧ Below w.heap.size w w' := by
  by_cases hl : s.size ≤ 20
  · exact refParse_short s s.size rn rx re w rfl hl hf
  · rcases hf with ⟨_, _, _, hs, _⟩ | ⟨rfl, rfl, rfl, _⟩
    · have e1 := text_size rn rx
      have e2 := decB_size rn
      rw [← hs] at e1
      omega
    · have hl' : decide ((20 : Int) < (s.size : Int)) = true := by simp; omega
      clear hl
      go_enter Tryd.func8, Tryd.ntmps8
      go_wp2
      go_ret3
      exact ⟨rfl, Below.refl _ _⟩

theorem parse_any (s : ByteArray) (rn rx : Nat) (re : Int) (w : World) (hm : s.size ≤ 1000) (he : ErrsAt w) (hf : Found s rn rx re) :
    Calls Tryd.prog 7 #[.string s] w fun e w' => e = .returned (.tuple #[.int .i64 rn, .int .u64 rx, .int .i64 re]) ∧ Below w.heap.size w w' := by
  rcases hf with ⟨h0, h1, hx, rfl, rfl⟩ | ⟨rfl, rfl, rfl, hs⟩
  · exact parse_text rn rx w h0 h1 hx
  · exact parse_other s w hm he hs
end Go.Proofs.YtffmijafhchjgaaDoor
