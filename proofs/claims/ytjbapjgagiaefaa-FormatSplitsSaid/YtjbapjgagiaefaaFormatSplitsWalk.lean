/- The walk of FormatSplits. -/
import Derived.Test.YtjbapjgagiaefaaFormatPutsWalk
import Derived.Test.YtjbapjgagiaefaaFmtSrc
namespace Go.Proofs.Ytjbapjgagiaefaa.formatSplits
open Go.RowKit Go.Instr Go.Sort Go.ChangeShapes Go.Proofs.Ytjbapjgagiaefaa.formatPuts
set_option linter.unusedVariables false
set_option linter.unusedSimpArgs false
set_option maxRecDepth 100000
set_option maxHeartbeats 4000000

theorem getN_append (w : Nat) : ∀ L M : List MPiece, getN w (L ++ M) = getN w L + 2 ^ widthL L * getN w M
  | [], M => by simp [getN, widthL]
  | x :: L, M => by
    simp only [List.cons_append, getN, widthL]
    rw [getN_append w L M, Nat.pow_add, Nat.mul_add, ← Nat.mul_assoc, Nat.add_assoc]
/-- A piece cut in two. -/
def lo (x : MPiece) (m : Int) : MPiece := ⟨x.pos, m⟩
def hi (x : MPiece) (m : Int) : MPiece := ⟨x.pos + m, x.len - m⟩
structure Cut (x : MPiece) (m : Int) : Prop where
  len : 1 ≤ x.len
  pos : 0 ≤ x.pos
  a : 1 ≤ m
  b : m < x.len
theorem Cut.nats {x : MPiece} {m : Int} (h : Cut x m) : (lo x m).p = x.p ∧ (hi x m).p = x.p + (lo x m).l ∧ (lo x m).l + (hi x m).l = x.l := by
  obtain ⟨a, b, c, d⟩ := h
  refine ⟨rfl, ?_, ?_⟩
  · show (x.pos + m).toNat = x.pos.toNat + m.toNat; omega
  · show m.toNat + (x.len - m).toNat = x.len.toNat; omega
theorem cut_get {x : MPiece} {m : Int} (h : Cut x m) (w : Nat) (L : List MPiece) : getN w (lo x m :: hi x m :: L) = getN w (x :: L) := by
  obtain ⟨e1, e2, e3⟩ := h.nats
  simp only [getN]
  rw [e1, e2, ← e3]
  generalize (lo x m).l = a
  generalize (hi x m).l = b
  rw [Nat.pow_add 2 a b, Nat.mod_mul, Nat.div_div_eq_div_mul, ← Nat.pow_add, Nat.mul_add, Nat.mul_assoc]
  omega
theorem cut_has {x : MPiece} {m : Int} (h : Cut x m) (j : Nat) : ((lo x m).has j || (hi x m).has j) = x.has j ∧ ¬ ((lo x m).has j = true ∧ (hi x m).has j = true) := by
  obtain ⟨e1, e2, e3⟩ := h.nats
  constructor
  · rw [Bool.eq_iff_iff, Bool.or_eq_true, has_iff, has_iff, has_iff]; omega
  · rw [has_iff, has_iff]; omega
theorem cut_good {size : Int} {x : MPiece} {m : Int} (h : Cut x m) : ∀ (T : List MPiece) (R : List MPiece) (k : Nat), GoodM size k (T ++ x :: R) → GoodM size k (T ++ lo x m :: hi x m :: R)
  | y :: T, R, k, g => ⟨g.1, g.2.1, cut_good h T R _ g.2.2⟩
  | [], R, k, g => by
    obtain ⟨g1, g2, g3⟩ := g
    obtain ⟨c1, c2, c3, c4⟩ := pcOk_iff.1 g1
    obtain ⟨a, b, c, d⟩ := h
    have hh := fun j => cut_has (x := x) (m := m) ⟨a, b, c, d⟩ j
    refine ⟨pcOk_iff.2 ?_, ?_, pcOk_iff.2 ?_, ?_, ?_⟩
    · unfold lo; simp only; omega
    · refine and_zero.2 fun j ⟨u, v⟩ => and_zero.1 g2 j ⟨u, ?_⟩
      rw [pcM_bit] at v ⊢
      rw [← (hh j).1, v]; rfl
    · unfold hi; simp only; omega
    · refine and_zero.2 fun j ⟨u, v⟩ => ?_
      rw [Nat.testBit_or, Bool.or_eq_true] at u
      rw [pcM_bit] at v
      rcases u with u | u
      · refine and_zero.1 g2 j ⟨u, ?_⟩
        rw [pcM_bit, ← (hh j).1, v]; simp
      · rw [pcM_bit] at u
        exact (hh j).2 ⟨u, v⟩
    · refine g3.sub fun j hj => ?_
      rw [Nat.testBit_or, Nat.testBit_or, pcM_bit, pcM_bit, Bool.or_assoc, (hh j).1] at hj
      rw [Nat.testBit_or, pcM_bit]
      exact hj
theorem list_at {L : List MPiece} {k : Nat} {x : MPiece} (h : L[k]? = some x) : L = L.take k ++ x :: L.drop (k + 1) := by
  rw [← drop_at h, List.take_append_drop]
theorem and63 (k : Nat) (h : k < 64) : bits .and .i64 (k : Int) 63 = (k : Int) := by
  have : ∀ i : Fin 64, bits .and .i64 ((i.1 : Nat) : Int) 63 = ((i.1 : Nat) : Int) := by decide
  exact this ⟨k, h⟩
theorem four_cells (W : World) (x y : MPiece) (b : Nat) (T : TypeId) (hb : W.heap.size = b) : ∀ (j : Nat) (u : Value), (pcC x ++ pcC y)[j]? = some u → (W.alloc (.cells #[.int .i64 x.pos, .int .i64 x.len, .int .i64 y.pos, .int .i64 y.len] T)).cell? ((⟨b, 0, none⟩ : Addr).add j) = some u := by
  subst hb
  intro j u hj
  have e : ((⟨W.heap.size, 0, none⟩ : Addr).add j) = ⟨W.heap.size, j, none⟩ := by unfold Addr.add; split <;> simp_all
  rw [e]
  simp only [World.cell?]
  rw [heap_alloc_new]
  match j, hj with
  | 0, hj => exact hj
  | 1, hj => exact hj
  | 2, hj => exact hj
  | 3, hj => exact hj
  | j + 4, hj => simp [pcC] at hj
/-- One piece of a good layout is a good layout. -/
theorem one_good {size : Int} {L : List MPiece} (h : GoodM size 0 L) {i : Nat} {x : MPiece} (hx : L[i]? = some x) : GoodM size 0 [x] :=
  ⟨(h.mem x (List.mem_of_getElem? hx)).1, by simp, trivial⟩
theorem mask_of_good {size : Int} {L : List MPiece} (hs : 1 ≤ size ∧ size ≤ 64) (hl : L.length ≤ 4) (h : GoodM size 0 L) : (maskR size L).2 = 0 := by
  unfold maskR
  rw [if_pos hs, if_pos hl]
  exact (goodM_go L 0).1.2 h
theorem cw_of_good {size : Int} {word : Nat} {L : List MPiece} (hs : 1 ≤ size ∧ size ≤ 64) (hl : L.length ≤ 4) (h : GoodM size 0 L) (hw : word < 2 ^ size.toNat) : cwR size word L = 0 := by
  unfold cwR
  rw [if_pos (mask_of_good hs hl h), if_pos ((okB_iff _ _).2 hw)]
/-- The layout with a piece cut in two. -/
def cutL (L : List MPiece) (k : Nat) (x : MPiece) (m : Int) : List MPiece := L.take k ++ lo x m :: hi x m :: L.drop (k + 1)
theorem cutL_len {L : List MPiece} {k : Nat} {x : MPiece} {m : Int} (h : L[k]? = some x) : (cutL L k x m).length = L.length + 1 := by
  have := (List.getElem?_eq_some_iff.1 h).1
  unfold cutL
  simp only [List.length_append, List.length_cons, List.length_take, List.length_drop]
  omega
theorem own_get {w : World} {B n : Nat} {v : Value} {L : List MPiece} (h : w.ownsRow B 33 2 v n (pcRow L)) (hn : L.length = n) (h0 : 0 < n) : ∃ g cap, v = .slice (some ⟨g, 0, none⟩) n cap ∧ PcsAt w (some ⟨g, 0, none⟩) L ∧ n ≤ cap ∧ cap ≤ maxLen := by
  subst hn
  rcases h.2 with ⟨_, e⟩ | ⟨g, cap, cur, rfl, _, hh, h3, h4, _⟩
  · omega
  · exact ⟨g, cap, rfl, pcsAt_own h, h3, h4⟩
theorem core (size : Int) (word : Nat) (A : Option Addr) (c : Nat) (L : List MPiece) (which many : Int) (w : World) (hA : PcsAt w A L) (hok : PcsOk L) (hc : L.length ≤ c) (hcm : c ≤ maxLen) (hword : word < 18446744073709551616) (hwh : -9223372036854775808 ≤ which ∧ which ≤ 9223372036854775807) (hmn : -9223372036854775808 ≤ many ∧ many ≤ 9223372036854775807) :
    Calls Try.prog 8 #[.int .i64 size, .int .u64 word, .slice A L.length c, .int .i64 which, .int .i64 many] w fun e w' => e = .returned (.bool true) ∧ Below w.heap.size w w' := by
  have HA := Lib.hid (lift_below (w := w) (fun W => formatBack.alive_walk W))
  have G1 := Lib.hid (lift_pcs hA (fun W h => get_any size word A c L W h hok hc hcm hword))
  have hr0 := Below.refl w.heap.size w
  obtain ⟨n, hn⟩ : ∃ n, L.length = n := ⟨_, rfl⟩
  have HN := Lib.hid hn
  by_cases h3 : 3 < n
  · rw [hn]
    have g1 : decide (3 < n) = true := by simpa using h3
    have g1' : decide ((3 : Int) < n) = true := by simp; omega
    clear G1 hA hok hc hcm hword hn
    go_enter Try.func8, Try.ntmps8
    go_wp2_with (go_at_call 20; (with_reducible refine (HA.out _ (by assumption)).mono ?_); rintro e w1 ⟨rfl, hb1⟩)
    go_ret
    exact ⟨rfl, by assumption⟩
  have g1 : decide (3 < n) = false := by simp; omega
  have g1' : decide ((3 : Int) < n) = false := by simp; omega
  by_cases hcw : cwR size word L = 0
  case neg =>
    rw [show getR size word L = (0, cwR size word L) by unfold getR; rw [if_neg hcw]] at G1
    have z1 : (cwR size word L != 0) = true := by simpa using hcw
    generalize cwR size word L = z at *
    rw [hn] at G1 ⊢
    clear hA hok hc hcm hword hn hcw h3
    go_enter Try.func8, Try.ntmps8
    go_wp2_with (first
      | (go_at_call 20; (with_reducible refine (HA.out _ (by assumption)).mono ?_); rintro e w1 ⟨rfl, hb1⟩)
      | (go_at_call 17; (with_reducible refine (G1.out _ (by assumption)).mono ?_); rintro e w2 ⟨rfl, hb2⟩))
    go_ret
    exact ⟨rfl, by assumption⟩
  obtain ⟨hm1, hwsz⟩ := cwR_ok hcw
  obtain ⟨hs, hl4, hgood, _⟩ := maskR_ok hm1
  have hGL := goodL_of hs hgood
  rw [show getR size word L = (getN word L, 0) by unfold getR; rw [if_pos hcw]] at G1
  obtain ⟨F, hF⟩ : ∃ F, getN word L = F := ⟨_, rfl⟩
  rw [hF] at G1
  have HF := Lib.hid hF
  have GP0 : ∀ (W : World) (hb : Below w.heap.size w W) (i : Nat) (x : MPiece) (g o : Nat) (e : A = some ⟨g, o, none⟩) (hx : L[i]? = some x), Calls Try.prog 17 #[.int .i64 size, .int .u64 word, .slice (some ⟨g, o + i * 2, none⟩) 1 (c - i)] W fun e w' => e = .returned (.tuple #[.int .u64 ((word / 2 ^ x.p % 2 ^ x.l : Nat) : Int), .int .i64 0]) ∧ Below w.heap.size w w' := by
    intro W hb i x g o e hx
    have hlt := (List.getElem?_eq_some_iff.1 hx).1
    refine (get_any size word (some ⟨g, o + i * 2, none⟩) (c - i) [x] W ?_ (fun y hy => by simp at hy; subst hy; exact hok y (List.mem_of_getElem? hx)) (by simp; omega) (by unfold maxLen at *; omega) hword).mono ?_
    · have h := (hA.later hb)
      rw [e] at h
      have h2 := h.part i 1
      rwa [show (L.drop i).take 1 = [x] by rw [drop_at hx]; rfl] at h2
    · intro e w' ⟨a, b⟩
      refine ⟨?_, hb.trans (b.mono hb.size)⟩
      rw [a, show getR size word [x] = (word / 2 ^ x.p % 2 ^ x.l, 0) by
        unfold getR; rw [if_pos (cw_of_good hs (by simp) (one_good hgood hx) hwsz)]; simp [getN]]
  have GP := Lib.hid GP0
  clear GP0
  have HAL := Lib.hid (fun W (h : Below w.heap.size w W) => hA.later h)
  have HALL := Lib.hid (And.intro hs (And.intro hgood (And.intro hwsz (And.intro hGL (And.intro hok (And.intro hc (And.intro hcm (And.intro hword h3))))))))
  have hn3 : (n : Int) ≤ 3 := by omega
  have hnc : (n : Int) ≤ c := by omega
  have hcx : (c : Int) ≤ 9223372036854775807 := by unfold maxLen at hcm; omega
  rw [hn] at G1 ⊢
  clear hA hok hc hcm hword hn hcw h3 hm1 hwsz hs hl4 hgood hGL hF
  go_enter Try.func8, Try.ntmps8
  go_wp2_with (first
    | (go_at_call 20; (with_reducible refine (HA.out _ (by assumption)).mono ?_); rintro e w1 ⟨rfl, hb1⟩)
    | (go_at_call 17; (with_reducible refine (G1.out _ (by assumption)).mono ?_); rintro e w2 ⟨rfl, hb2⟩))
  go_loopw [14, 15, 16] (fun vs va vi wr => ∃ s a i : Nat, vs = .int .u64 s ∧ va = .int .i64 a ∧ vi = .int .i64 i ∧ i ≤ n ∧ a ≤ 64 ∧ Below w.heap.size w wr ∧ Hid (s = getN word (L.take i) ∧ a = widthL (L.take i))) (fun _ _ vi _ => n - (intOf vi).toNat)
  case atStart => exact ⟨0, 0, 0, rfl, rfl, rfl, Nat.zero_le _, by decide, by assumption, Lib.hid (by simp [getN, widthL])⟩
  case round =>
    obtain ⟨s, a, i, rfl, rfl, rfl, hi, ha64, hbw, HI⟩ := hrel
    by_cases hlt : i < n
    · obtain ⟨x, hx⟩ : ∃ x, L[i]? = some x := ⟨_, List.getElem?_eq_getElem (by rw [HN.out]; exact hlt)⟩
      obtain ⟨g, o, hAe, hg, t0, t1⟩ := (HAL.out wr hbw) i x hx
      have GPi := Lib.hid (fun W (h : Below w.heap.size w W) => GP.out W h i x g o hAe hx)
      subst hAe
      obtain ⟨h1, h2, h3, h4, h5, h6, h7, h8, h9⟩ := HALL.out
      have hfit := h4.1 x (List.mem_of_getElem? hx)
      have hw1 := widthL_take L i x hx
      have hw2 := widthL_take_le L (i + 1)
      have hxl : x.len = (x.l : Nat) := by unfold MPiece.l; have := hfit.1; omega
      have hg1 : getN word (L.take (i + 1)) = s + 2 ^ a * (word / 2 ^ x.p % 2 ^ x.l) := by
        rw [List.take_add_one, hx, getN_append, HI.out.1, HI.out.2]; simp [getN]
      have hglt := getN_lt word (L.take (i + 1))
      have hp := pow_le (widthL (L.take (i + 1))) (by have := h4.2; omega)
      rw [hg1] at hglt
      obtain ⟨q, hq⟩ : ∃ q, word / 2 ^ x.p % 2 ^ x.l = q := ⟨_, rfl⟩
      rw [hq] at hg1 hglt GPi
      have hmul : q * 2 ^ a = 2 ^ a * q := Nat.mul_comm _ _
      have hl1 : 1 ≤ x.l := by unfold MPiece.l; have := hfit.1; omega
      have ha63 : a < 64 := by have := h4.2; have := HI.out.2; omega
      have v1 := and63 a ha63
      have v2 : IntKind.u64.wrap (a : Int) = (a : Nat) := by rw [IntKind.wrap_u64]; omega
      have v3 := shl_wrap q a (2 ^ a * q) hmul.symm (by omega)
      have v4 : IntKind.u64.wrap ((s : Int) + ((2 ^ a * q : Nat) : Int)) = ((s + 2 ^ a * q : Nat) : Int) := by rw [IntKind.wrap_u64, ← Int.natCast_add]; omega
      rw [hxl] at t1
      have hsum : a + x.l ≤ 64 := by have := h4.2; have := HI.out.2; omega
      obtain ⟨k, hk⟩ : ∃ k, x.l = k := ⟨_, rfl⟩
      rw [hk] at t1 hw1 hsum
      rw [HI.out.2.symm] at hw1
      have HE := Lib.hid (And.intro hg1 hw1)
      have hic : ¬ c = i := by omega
      have hicz : (i : Int) + 1 ≤ c := by omega
      have HLT := Lib.hid hlt
      have HC1 := Lib.hid (fun W (h : Below w.heap.size w W) => (show W.cell? ⟨g, o + i * 2 + 1, none⟩ = some (.int .i64 (k : Nat)) from by
        obtain ⟨g', o', e', _, _, u1⟩ := HAL.out W h i x hx
        cases e'
        rw [u1, hxl, hk]))
      obtain ⟨T, hT⟩ : ∃ T, 2 ^ a * q = T := ⟨_, rfl⟩
      rw [hT] at v3 v4 HE
      clear h1 h2 h3 h4 h5 h6 h7 h8 h9 hfit hw1 hw2 hxl hg1 hglt hp hmul hq hl1 hk hT hx hg
      go_wp2_with (go_at_call 17; (with_reducible refine (GPi.out _ (by assumption)).mono ?_); rintro e w2 ⟨rfl, hb2⟩; have t2 := HC1.out _ hb2)
      go_roundw
      case rel => exact ⟨s + T, a + k, i + 1, by first | rfl | go_num, by first | rfl | go_num, by first | rfl | go_num, by have := HLT.out; omega, hsum, by assumption, Lib.hid ⟨by rw [HE.out.1], by rw [HE.out.2]⟩⟩
      case measure => simp only [intOf]; have := HLT.out; omega
    · obtain rfl : i = n := by omega
      have hs0 : s = F := by rw [HI.out.1, List.take_of_length_le (by rw [HN.out]; exact Nat.le_refl _)]; exact HF.out
      subst hs0
      clear HI hi ha64 hlt
      have hcase : (decide (which < 0) = true) ∨ (decide (which < 0) = false ∧ decide ((i : Int) ≤ which) = true) ∨ (∃ k : Nat, k < i ∧ which = k) := by
        by_cases h1 : which < 0
        · left; simpa using h1
        · by_cases h2 : (i : Int) ≤ which
          · right; left; exact ⟨by simp; omega, by simpa using h2⟩
          · right; right; exact ⟨which.toNat, by omega, by omega⟩
      rcases hcase with h1 | ⟨h1, h2⟩ | ⟨k, hk, rfl⟩
      · go_wp2
        go_ret
        exact ⟨rfl, hbw⟩
      · go_wp2
        go_ret
        exact ⟨rfl, hbw⟩
      obtain ⟨x, hx⟩ : ∃ x, L[k]? = some x := ⟨_, List.getElem?_eq_getElem (by rw [HN.out]; exact hk)⟩
      obtain ⟨g, o, hAe, hg, t0, t1⟩ := (HAL.out wr hbw) k x hx
      subst hAe
      have k1 : (0 : Int) ≤ k := by omega
      have k2 : (k : Int) < i := by omega
      have hcase : (decide (many < 1) = true) ∨ (decide (many < 1) = false ∧ decide (x.len ≤ many) = true) ∨ (1 ≤ many ∧ many < x.len) := by
        by_cases h1 : many < 1
        · left; simpa using h1
        · by_cases h2 : x.len ≤ many
          · right; left; exact ⟨by simp; omega, by simpa using h2⟩
          · right; right; omega
      rcases hcase with h1 | ⟨h1, h2⟩ | ⟨h1, h2⟩
      · have HX := Lib.hid hx
        clear hx
        go_wp2
        go_ret
        exact ⟨rfl, hbw⟩
      · have HX := Lib.hid hx
        clear hx
        go_wp2
        go_ret
        exact ⟨rfl, hbw⟩
      · obtain ⟨h71, h72, h73, h74, h75, h76, h77, h78, h79⟩ := HALL.out
        obtain ⟨i0, hi0, hz0, hz1, hz2⟩ := info_parts pc_info
        have hfit := h74.1 x (List.mem_of_getElem? hx)
        have hbits := h75 x (List.mem_of_getElem? hx)
        have hcut : Cut x many := ⟨hfit.1, hfit.2.1, h1, h2⟩
        have hi3 : i ≤ 3 := by omega
        have hlen : L.length = i := HN.out
        have hkc : k + 1 ≤ c := by omega
        have hcm2 : c ≤ maxLen := h77
        obtain ⟨W1, hW1⟩ : ∃ W1, W1 = wr.alloc (.cells #[.int .i64 x.pos, .int .i64 x.len] 33) := ⟨_, rfl⟩
        have hb1 : Below w.heap.size w W1 := by rw [hW1]; exact hbw.alloc hbw.size _
        have hW1s : W1.heap.size = wr.heap.size + 1 := by rw [hW1]; simp
        have hpc := piece_cells wr x.pos x.len wr.heap.size rfl
        rw [← hW1] at hpc
        have htk : (L.take k).length = k := by rw [List.length_take]; omega
        clear hlen
        have hsrc1 : SrcAt W1 (some ⟨g, o, none⟩) k 2 (pcF (L.take k)) := by
          have h := srcAt_pcs ((HAL.out W1 hb1).part 0 k)
          simp only [Nat.zero_mul, Nat.add_zero, List.drop_zero] at h
          rwa [htk] at h
        have HX := Lib.hid (And.intro hx (And.intro hcut (And.intro hbits (And.intro hfit hW1))))
        have HS1 := Lib.hid hsrc1
        have HB1 := Lib.hid (And.intro hb1 (And.intro hW1s htk))
        have HPC := Lib.hid hpc
        have b1 : 0 ≤ x.pos := hfit.2.1
        have b2 : x.pos + x.len ≤ 64 := hfit.2.2
        clear hx hfit hbits hcut hsrc1 hb1 hpc h71 h72 h73 h74 h75 h76 h78 h79 hW1s htk
        go_wp2_with (at_builtin; refine Hid.out ?_)
        refine Lib.hid ?_
        rw [← HX.out.2.2.2.2]
        refine wpList_append_src rfl _ _ 34 rfl wr.heap.size 33 i0 (.agg #[.int .i64 0, .int .i64 0]) 2 16 Try.underlying34 hi0 hz0 hz1 hz2 rfl (by decide) (.slice none 0 0) 0 [] rfl ⟨rfl, .inl ⟨rfl, rfl⟩⟩ (some ⟨g, o, none⟩) k c (pcF (L.take k)) rfl HS1.out (pcF_one _) (by unfold maxLen; omega) (by omega) (by have := HB1.out.2.1; omega) ?_
        intro v5 w5 hown5 hg5
        have hrow5 : (List.range (k * 2)).map (pcF (L.take k)) = pcRow (L.take k) := by
          have := pcF_all (L.take k)
          rwa [HB1.out.2.2] at this
        rw [List.nil_append, Nat.zero_add, hrow5] at hown5
        have HB5 : Hid (Below W1.heap.size W1 w5) := Lib.hid ((Below.refl _ W1).grown hg5 (Nat.le_refl _) (fun q hq => by cases hq))
        have HO5 := Lib.hid hown5
        have e0 : w5.cell? ⟨wr.heap.size, 0, none⟩ = some (.int .i64 x.pos) := by
          rw [HB5.out.cell (p := ⟨wr.heap.size, 0, none⟩) (by have := HB1.out.2.1; show wr.heap.size < _; omega)]; exact HPC.out.1
        have e1 : w5.cell? ⟨wr.heap.size, 1, none⟩ = some (.int .i64 x.len) := by
          rw [HB5.out.cell (p := ⟨wr.heap.size, 1, none⟩) (by have := HB1.out.2.1; show wr.heap.size < _; omega)]; exact HPC.out.2
        clear hown5 hg5 hrow5
        go_wp2_with (at_builtin; refine Hid.out ?_)
        refine Lib.hid ?_
        have hb6 : Below w5.heap.size w5 (w5.alloc (.cells #[.int .i64 (lo x many).pos, .int .i64 (lo x many).len, .int .i64 (hi x many).pos, .int .i64 (hi x many).len] 33)) := (Below.refl _ _).alloc (Nat.le_refl _) _
        have h5s := HB5.out.size
        refine wpList_append_own _ rfl _ _ 34 rfl wr.heap.size 33 i0 (.agg #[.int .i64 0, .int .i64 0]) 2 16 Try.underlying34 hi0 hz0 hz1 hz2 rfl (by decide) v5 k (pcRow (L.take k)) rfl (pc_own_keep HO5.out hb6) ⟨_, 0, none⟩ 2 2 (pcC (lo x many) ++ pcC (hi x many)) rfl rfl (four_cells w5 (lo x many) (hi x many) _ _ rfl) (by intro u hu; simp [pcC] at hu; rcases hu with rfl | rfl | rfl | rfl <;> rfl) (by unfold maxLen; omega) (by omega) (by have := HB1.out.2.1; simp; omega) ?_
        intro v6 w6 hown6 hg6 _
        have HB6 : Hid (Below wr.heap.size wr w6) := Lib.hid (((((Below.refl wr.heap.size wr).trans (by rw [HX.out.2.2.2.2] at HB5; exact ((Below.refl _ wr).alloc (Nat.le_refl _) _).trans (HB5.out.mono (by simp)))).trans (hb6.mono (by have := HB1.out.2.1; omega))).grown hg6 (by have := HB1.out.2.1; simp; omega) (fun q hq => pc_own_ge HO5.out q hq)))
        have HO6 := Lib.hid hown6
        clear hown6 hg6 hb6
        have HSR : Hid (∀ A3 m3, (m3 = 0 ∨ (A3 = some ⟨g, o + (k + 1) * 2, none⟩ ∧ m3 = i - (k + 1))) → SrcAt w6 A3 m3 2 (pcF (L.drop (k + 1)))) := Lib.hid (fun A3 m3 h => by
          rcases h with rfl | ⟨rfl, rfl⟩
          · intro h; exact absurd h (Nat.lt_irrefl 0)
          · have h := srcAt_pcs ((HAL.out w6 (hbw.trans (HB6.out.mono hbw.size))).part (k + 1) (i - (k + 1)))
            have e : (L.drop (k + 1)).take (i - (k + 1)) = L.drop (k + 1) := by
              rw [List.take_of_length_le]; rw [List.length_drop, HN.out]; exact Nat.le_refl _
            have el : (L.drop (k + 1)).length = i - (k + 1) := by rw [List.length_drop, HN.out]
            rw [e, el] at h
            exact h)
        by_cases hck : c = k + 1
        all_goals
          go_wp2_with (at_builtin; refine Hid.out ?_)
          refine Lib.hid ?_
          refine wpList_append_src rfl _ _ 34 rfl wr.heap.size 33 i0 (.agg #[.int .i64 0, .int .i64 0]) 2 16 Try.underlying34 hi0 hz0 hz1 hz2 rfl (by decide) v6 (k + 2) _ rfl HO6.out _ _ _ (pcF (L.drop (k + 1))) rfl (HSR.out _ _ (by first | (right; exact ⟨rfl, by omega⟩) | (left; omega))) (pcF_one _) (by unfold maxLen; omega) (by omega) (by have := HB6.out.size; omega) ?_
          intro v7 w7 hown7 hg7
          have hrow7 : pcRow (L.take k) ++ (pcC (lo x many) ++ pcC (hi x many)) ++ (List.range ((i - (k + 1)) * 2)).map (pcF (L.drop (k + 1))) = pcRow (cutL L k x many) := by
            have el : (L.drop (k + 1)).length = i - (k + 1) := by rw [List.length_drop, HN.out]
            rw [← el, pcF_all]
            unfold cutL
            rw [pcRow_app]
            simp [pcRow]
          rw [hrow7, show k + 2 + (i - (k + 1)) = i + 1 by omega] at hown7
          have hML : (cutL L k x many).length = i + 1 := by rw [cutL_len HX.out.1, HN.out]
          obtain ⟨g7, cap7, rfl, hP7, hc7, hcm7⟩ := own_get hown7 hML (by omega)
          have hB7 : Below w.heap.size w w7 := (hbw.trans (HB6.out.mono hbw.size)).grown hg7 (by have := hbw.size; have := HB6.out.size; omega) (fun q hq => Nat.le_trans hbw.size (pc_own_ge HO6.out q hq))
          have HG7 : Hid (Calls Try.prog 17 #[.int .i64 size, .int .u64 word, .slice (some ⟨g7, 0, none⟩) (i + 1) cap7] w7 fun e w' => e = .returned (.tuple #[.int .u64 (s : Nat), .int .i64 0]) ∧ Below w.heap.size w w') := Lib.hid (by
            obtain ⟨h71, h72, h73, h74, h75, h76, h77, h78, h79⟩ := HALL.out
            have hgood : GoodM size 0 (cutL L k x many) := by
              unfold cutL
              refine cut_good HX.out.2.1 _ _ _ ?_
              rw [← list_at HX.out.1]; exact h72
            have hget : getN word (cutL L k x many) = s := by
              unfold cutL
              rw [getN_append, cut_get HX.out.2.1, ← getN_append, ← list_at HX.out.1]; exact HF.out
            have hokM : PcsOk (cutL L k x many) := by
              intro y hy
              unfold cutL at hy
              have hb := HX.out.2.2.1
              rcases List.mem_append.1 hy with hy | hy
              · exact h75 y (List.mem_of_mem_take hy)
              · rcases List.mem_cons.1 hy with rfl | hy
                · exact ⟨hb.1, hmn⟩
                · rcases List.mem_cons.1 hy with rfl | hy
                  · unfold hi; simp only; omega
                  · exact h75 y (List.mem_of_mem_drop hy)
            have h := get_any size word (some ⟨g7, 0, none⟩) cap7 (cutL L k x many) w7 hP7 hokM (by omega) hcm7 h78
            rw [hML, show getR size word (cutL L k x many) = (s, 0) by unfold getR; rw [if_pos (cw_of_good h71 (by omega) hgood h73), hget]] at h
            exact h.mono fun e w' ⟨a, b⟩ => ⟨a, hB7.trans (b.mono hB7.size)⟩)
          clear hown7 hg7 hrow7 hML hP7 hc7 hcm7
          go_wp2_with (go_at_call 17; (with_reducible refine HG7.out.mono ?_); rintro e w8 ⟨rfl, hb8⟩)
          go_ret
          exact ⟨by simp, hb8⟩
theorem walk {H : Type} {enc : TypeId × Value → H} {base : Nat} {W : World} {d2 : DataW H} {p2 : List MemPlace} (a0 a1 : Int) (v2 : Value) (a3 a4 : Int) (w0 : (Lit.int .i64 a0).wf = true) (w1 : (Lit.int .u64 a1).wf = true) (ok2 : Value.okWide Try.prog W .any base 34 v2) (h2 : DataW.Trod enc Try.prog W 0 (fun _ => true) true 34 v2 d2 p2) (w3 : (Lit.int .i64 a3).wf = true) (w4 : (Lit.int .i64 a4).wf = true) :
    Calls Try.prog 8 #[.int .i64 a0, .int .u64 a1, v2, .int .i64 a3, .int .i64 a4] W fun e w' => e = .returned (.bool true) ∧ Below W.heap.size W w' := by
  obtain ⟨x, rfl, hx⟩ := nat_u64 w1
  obtain ⟨A, c, L, rfl, hA, hok, hc, hcm⟩ := open_pieces ok2 h2
  exact core a0 x A c L a3 a4 W hA hok hc hcm hx (int_i64 w3) (int_i64 w4)
end Go.Proofs.Ytjbapjgagiaefaa.formatSplits
