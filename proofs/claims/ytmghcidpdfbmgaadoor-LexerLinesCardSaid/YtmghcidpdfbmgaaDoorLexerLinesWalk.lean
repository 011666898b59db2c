/- The walk of LexerLines: the lines put together again. -/
import Derived.Test.YtmghcidpdfbmgaaDoorLexLines
import Derived.Test.YtmghcidpdfbmgaaDoorLexIsTok
import Derived.Test.YtmghcidpdfbmgaaDoorLexBackMore
import Derived.Test.YtmghcidpdfbmgaaDoorLexLaid
import Derived.Test.YtmghcidpdfbmgaaDoorLexerCoversPlay
namespace Go.Proofs.YtmghcidpdfbmgaaDoor.lexerLines
open Go.Play Go.RowKit Go.Instr
set_option linter.unusedVariables false
set_option linter.unusedSimpArgs false

/-- Where a line begins. -/
def startAt : List (List Raw) → Nat → Nat
  | _, 0 => 0
  | [], _ + 1 => 0
  | l :: ls, i + 1 => l.length + 1 + startAt ls i
theorem startAt_zero : ∀ ls : List (List Raw), startAt ls 0 = 0
  | [] => rfl
  | _ :: _ => rfl
theorem startAt_step : ∀ (ls : List (List Raw)) (i : Nat) (l : List Raw), ls[i]? = some l → startAt ls (i + 1) = startAt ls i + l.length + 1
  | [], i, l, h => by simp at h
  | m :: ls, 0, l, h => by
    simp at h
    subst h
    show m.length + 1 + startAt ls 0 = startAt (m :: ls) 0 + m.length + 1
    simp [startAt]
  | m :: ls, i + 1, l, h => by
    have ih := startAt_step ls i l (by simpa using h)
    show m.length + 1 + startAt ls (i + 1) = m.length + 1 + startAt ls i + l.length + 1
    omega
theorem lnF_at : ∀ (L cur : List Raw), (∀ y ∈ cur, y.k ≠ 5) → ∀ (i : Nat) (l : List Raw), (lnF cur L)[i]? = some l →
    (∀ (k : Nat) (y : Raw), l[k]? = some y → (cur ++ L)[startAt (lnF cur L) i + k]? = some y ∧ y.k ≠ 5) ∧
    (i + 1 < (lnF cur L).length → ∃ s : Raw, (cur ++ L)[startAt (lnF cur L) i + l.length]? = some s ∧ s.k = 5) ∧
    (i + 1 = (lnF cur L).length → startAt (lnF cur L) i + l.length = (cur ++ L).length)
  | [], cur, hc, i, l, h => by
    have e : lnF cur [] = [cur] := rfl
    rw [e] at h ⊢
    cases i with
    | succ i => simp at h
    | zero =>
      simp at h
      subst h
      refine ⟨fun k y hk => ?_, fun h => by simp at h, fun _ => by simp [startAt]⟩
      rw [List.append_nil]
      exact ⟨by simpa [startAt] using hk, hc y (List.mem_of_getElem? hk)⟩
  | y :: L, cur, hc, i, l, h => by
    by_cases h5 : y.k = 5
    · have e : lnF cur (y :: L) = cur :: lnF [] L := by show (if y.k = 5 then _ else _) = _; rw [if_pos h5]
      rw [e] at h ⊢
      cases i with
      | zero =>
        simp at h
        subst h
        refine ⟨fun k z hk => ?_, fun _ => ⟨y, ?_, h5⟩, fun h => ?_⟩
        · have hkl : k < cur.length := (List.getElem?_eq_some_iff.1 hk).1
          refine ⟨?_, hc z (List.mem_of_getElem? hk)⟩
          show (cur ++ y :: L)[0 + k]? = _
          rw [Nat.zero_add, List.getElem?_append_left hkl]; exact hk
        · show (cur ++ y :: L)[0 + cur.length]? = _
          rw [Nat.zero_add, List.getElem?_append_right (Nat.le_refl _), Nat.sub_self]; rfl
        · have := (lnF_len L []).1
          have e2 : (cur :: lnF [] L).length = (lnF [] L).length + 1 := rfl
          omega
      | succ i =>
        have h' : (lnF [] L)[i]? = some l := by simpa using h
        obtain ⟨h1, h2, h3⟩ := lnF_at L [] (by simp) i l h'
        have hs : ∀ q, (cur ++ y :: L)[startAt (cur :: lnF [] L) (i + 1) + q]? = L[startAt (lnF [] L) i + q]? := fun q => by
          show (cur ++ y :: L)[cur.length + 1 + startAt (lnF [] L) i + q]? = _
          rw [List.getElem?_append_right (by omega), show cur.length + 1 + startAt (lnF [] L) i + q - cur.length = (startAt (lnF [] L) i + q) + 1 by omega]
          simp
        simp only [List.nil_append] at h1 h2 h3
        refine ⟨fun k z hk => ?_, fun hl => ?_, fun hl => ?_⟩
        · rw [hs]; exact h1 k z hk
        · obtain ⟨s, hs1, hs2⟩ := h2 (by simpa using hl)
          exact ⟨s, by rw [hs]; exact hs1, hs2⟩
        · have := h3 (by simpa using hl)
          show cur.length + 1 + startAt (lnF [] L) i + l.length = _
          rw [List.length_append, List.length_cons]; omega
    · have e : lnF cur (y :: L) = lnF (cur ++ [y]) L := by show (if y.k = 5 then _ else _) = _; rw [if_neg h5]
      rw [e] at h ⊢
      have hx : cur ++ y :: L = (cur ++ [y]) ++ L := by simp
      rw [hx]
      exact lnF_at L (cur ++ [y]) (fun z hz => by
        rcases List.mem_append.1 hz with hz | hz
        · exact hc z hz
        · rw [List.mem_singleton.1 hz]; exact h5) i l h

theorem rawRow_get : ∀ (L : List Raw) (i : Nat) (y : Raw), L[i]? = some y → (rawRow L)[i * 4]? = some (.int .u8 y.k) ∧ (rawRow L)[i * 4 + 1]? = some (.string y.t) ∧ (rawRow L)[i * 4 + 2]? = some (.int .i64 y.n) ∧ (rawRow L)[i * 4 + 3]? = some (.int .i64 y.p)
  | [], i, y, h => by simp at h
  | z :: L, 0, y, h => by
    simp at h
    subst h
    exact ⟨rfl, rfl, rfl, rfl⟩
  | z :: L, i + 1, y, h => by
    have ih := rawRow_get L i y (by simpa using h)
    have e : rawRow (z :: L) = rawC z ++ rawRow L := rfl
    have hl : (rawC z).length = 4 := rfl
    rw [e]
    refine ⟨?_, ?_, ?_, ?_⟩
    · rw [List.getElem?_append_right (by omega), hl, show (i + 1) * 4 - 4 = i * 4 by omega]; exact ih.1
    · rw [List.getElem?_append_right (by omega), hl, show (i + 1) * 4 + 1 - 4 = i * 4 + 1 by omega]; exact ih.2.1
    · rw [List.getElem?_append_right (by omega), hl, show (i + 1) * 4 + 2 - 4 = i * 4 + 2 by omega]; exact ih.2.2.1
    · rw [List.getElem?_append_right (by omega), hl, show (i + 1) * 4 + 3 - 4 = i * 4 + 3 by omega]; exact ih.2.2.2
theorem rawAt_own {w : World} {B : Nat} {v : Value} {L : List Raw} (h : w.ownsRow B 29 4 v L.length (rawRow L)) : ∃ A c, v = .slice A L.length c ∧ RawAt w A L := by
  rcases h.2 with ⟨rfl, hn⟩ | ⟨g, cap, cur, rfl, hg, hh, r⟩
  · obtain rfl := List.eq_nil_of_length_eq_zero hn
    exact ⟨none, 0, rfl, fun i y hy => by simp at hy⟩
  · refine ⟨_, cap, rfl, fun i y hy => ?_⟩
    have hi : i < L.length := (List.getElem?_eq_some_iff.1 hy).1
    obtain ⟨c0, c1, c2, c3⟩ := rawRow_get L i y hy
    exact ⟨g, 0, rfl, lt_of_block hh, by rw [Nat.zero_add]; exact (h.cellAt (i * 4) (by omega)).trans c0, by rw [Nat.zero_add]; exact (h.cellAt (i * 4 + 1) (by omega)).trans c1, by rw [Nat.zero_add]; exact (h.cellAt (i * 4 + 2) (by omega)).trans c2, by rw [Nat.zero_add]; exact (h.cellAt (i * 4 + 3) (by omega)).trans c3⟩
/-- What Lines gave, as the law's loops read it. -/
def GotRows (w : World) (A : Option Addr) (ls : List (List Raw)) : Prop := ∀ (i : Nat) (l : List Raw), ls[i]? = some l → ∃ g Ai ci, A = some ⟨g, 0, none⟩ ∧ g < w.heap.size ∧ w.cell? ⟨g, i, none⟩ = some (.slice Ai l.length ci) ∧ RawAt w Ai l
theorem gotRows {w : World} {B : Nat} {v : Value} {ls : List (List Raw)} {vals : List Value} (h : w.ownsRow B 23 1 v ls.length vals) (hr : RowsOf w B ls vals) : ∃ A c, v = .slice A ls.length c ∧ GotRows w A ls := by
  rcases h.2 with ⟨rfl, hn⟩ | ⟨g, cap, cur, rfl, hg, hh, r⟩
  · obtain rfl := List.eq_nil_of_length_eq_zero hn
    exact ⟨none, 0, rfl, fun i l hl => by simp at hl⟩
  · refine ⟨_, cap, rfl, fun i l hl => ?_⟩
    have hi : i < ls.length := (List.getElem?_eq_some_iff.1 hl).1
    obtain ⟨u, hu, ho⟩ := hr.2 i l hl
    obtain ⟨Ai, ci, rfl, hraw⟩ := rawAt_own ho
    exact ⟨g, Ai, ci, rfl, lt_of_block hh, (h.cellAt i (by omega)).trans hu, hraw⟩
theorem GotRows.below {w w' : World} {A : Option Addr} {ls : List (List Raw)} (h : GotRows w A ls) (hb : Below w.heap.size w w') : GotRows w' A ls := by
  intro i l hl
  obtain ⟨g, Ai, ci, e, hg, hc, hr⟩ := h i l hl
  exact ⟨g, Ai, ci, e, Nat.lt_of_lt_of_le hg hb.size, by rw [hb.cell hg]; exact hc, hr.below hb⟩
theorem eqT_self (k n p : Int) (T : ByteArray) : eqT k k n n p p T T = true := by unfold eqT; simp

set_option maxHeartbeats 8000000 in
set_option maxRecDepth 100000 in
theorem core (A : Option Addr) (c : Nat) (L : List Raw) (w : World) (hR : RawAt w A L) (hc : L.length ≤ c) (hcm : c ≤ maxLen) (hA : ∀ Y, Below w.heap.size w Y → Calls Tryd.prog 6 #[] Y fun e w' => e = .returned (.bool true) ∧ Below Y.heap.size Y w') :
    Calls Tryd.prog 5 #[.slice A L.length c] w fun e w' => e = .returned (.bool true) ∧ Below w.heap.size w w' := by
  have HA := Lib.hid (hA w (Below.refl _ _))
  have HG := Lib.hid (fun W (hb : Below w.heap.size w W) => great_any A c L W (hR.below hb))
  cases hgr : greatR L with
  | true =>
    rw [hgr] at HG
    clear hA hR hgr hc hcm
    go_enter Tryd.func5, Tryd.ntmps5
    go_wp2_with (first
      | (go_at_call 6; (with_reducible refine HA.out.mono ?_); rintro e w1 ⟨rfl, hb1⟩; have HB1 := Lib.hid hb1; clear hb1)
      | (go_at_call 10; (with_reducible refine (HG.out _ HB1.out).mono ?_); rintro e w2 ⟨rfl, rfl⟩))
    go_ret
    exact ⟨rfl, HB1.out⟩
  | false =>
  rw [hgr] at HG
  obtain ⟨hf1, hf2⟩ := great_fit hgr
  have HLN := Lib.hid (fun W (hb : Below w.heap.size w W) => lines_any A c L W (hR.below hb) ⟨hf1, hf2⟩ hc hcm)
  have HRA := Lib.hid hR
  obtain ⟨ls, hls⟩ : ∃ ls, lnF [] L = ls := ⟨_, rfl⟩
  have hat := lnF_at L [] (by simp)
  have hln := lnF_len L []
  rw [hls] at hat hln
  simp only [List.nil_append] at hat
  obtain ⟨n, hn⟩ : ∃ n, L.length = n := ⟨_, rfl⟩
  obtain ⟨m, hm⟩ : ∃ m, ls.length = m := ⟨_, rfl⟩
  rw [hn, hm] at hln
  rw [hn] at hf1
  have HAT := Lib.hid hat
  have HNM := Lib.hid (And.intro hn hm)
  have hn1 : (n : Int) ≤ 20100 := by omega
  have hm1 : (m : Int) ≤ 20101 := by omega
  have hm2 : (0 : Int) < (m : Int) := by omega
  have hnq : ∀ (k n p : Int) (T : ByteArray) (W : World), Sem.run Tryd.prog (binOp BinOp.neq 29 (.agg #[.int .u8 k, .string T, .int .i64 n, .int .i64 p]) (.agg #[.int .u8 k, .string T, .int .i64 n, .int .i64 p])) W = .ok (.bool false) W := fun k n p T W => by
    have := tok_neq k k n n p p T T W
    rw [eqT_self] at this
    exact this
  have HLS := Lib.hid (show ∀ W, Below w.heap.size w W → Calls Tryd.prog 13 #[.slice A n c] W fun e w' => ∃ B v vals, e = .returned v ∧ w'.ownsRow B 23 1 v ls.length vals ∧ RowsOf w' B ls vals ∧ Below W.heap.size W w' from fun W hb => by
    have h := HLN.out W hb
    rw [hn] at h
    refine h.mono ?_
    rintro e w' ⟨v, vals, h1, h2, h3, h4⟩
    rw [hls] at h2 h3
    exact ⟨_, v, vals, h1, h2, h3, h4⟩)
  rw [hn] at HG ⊢
  clear hA hR hgr hf1 hf2 hc hcm hat hln hn hls HLN
  go_enter Tryd.func5, Tryd.ntmps5
  go_wp2_with (first
    | (go_at_call 6; (with_reducible refine HA.out.mono ?_); rintro e w1 ⟨rfl, hb1⟩; have HB1 := Lib.hid hb1; clear hb1)
    | (go_at_call 10; (with_reducible refine (HG.out _ HB1.out).mono ?_); rintro e w2 ⟨rfl, rfl⟩)
    | (go_at_call 13; (with_reducible refine (HLS.out _ HB1.out).mono ?_); rintro e w3 ⟨Bl, vl, vals, rfl, hown, hrows, hb3⟩; have HB3 := Lib.hid (HB1.out.trans (hb3.mono HB1.out.size)); obtain ⟨Al, cl, rfl, hgot⟩ := gotRows hown hrows; rw [hm]; have HGOT := Lib.hid hgot; clear hb3 hown hrows hgot))
  -- LOOPS
  go_loopw [5, 6] (fun va vi wr => ∃ a i : Nat, va = .int .i64 a ∧ vi = .int .i64 i ∧ i ≤ m ∧ Hid ((i = 0 ∧ a = 0) ∨ (1 ≤ i ∧ a + 1 = startAt ls i)) ∧ Hid (Below w3.heap.size w3 wr)) (fun _ vi _ => m - (intOf vi).toNat)
  case atStart => exact ⟨0, 0, rfl, rfl, Nat.zero_le _, Lib.hid (.inl ⟨rfl, rfl⟩), Lib.hid (Below.refl _ _)⟩
  case round =>
    obtain ⟨a, i, rfl, rfl, hi, HI, HBW⟩ := hrel
    by_cases him : i < m
    · obtain ⟨l, hl⟩ : ∃ l, ls[i]? = some l := ⟨_, List.getElem?_eq_getElem (by rw [HNM.out.2]; exact him)⟩
      have hbnd : startAt ls i + l.length ≤ n := by
        obtain ⟨_, h2, h3⟩ := HAT.out i l hl
        rcases Nat.lt_or_ge (i + 1) ls.length with h | h
        · obtain ⟨s, hs, _⟩ := h2 h
          have := (List.getElem?_eq_some_iff.1 hs).1
          have := HNM.out.1
          omega
        · have := h3 (by have := HNM.out.2; omega)
          have := HNM.out.1
          omega
      obtain ⟨st, hst⟩ : ∃ st, startAt ls i = st := ⟨_, rfl⟩
      obtain ⟨q, hq⟩ : ∃ q, l.length = q := ⟨_, rfl⟩
      rw [hst, hq] at hbnd
      have HL := Lib.hid hl
      have HSTE := Lib.hid hst
      have HQ := Lib.hid hq
      have HIM := Lib.hid him
      obtain ⟨gl0, Ai0, ci0, eA0, hgl0, hcl0, _⟩ := (HGOT.out.below HBW.out) i l hl
      cases eA0
      have zq : (st : Int) + (q : Int) ≤ (n : Int) := by omega
      have gim : (i : Int) < (m : Int) := by omega
      rcases HI.out with ⟨h0, ha⟩ | ⟨h0, ha⟩
      · have HST : Hid (st = 0) := Lib.hid (by rw [← hst, h0]; exact startAt_zero ls)
        have g0 : ¬ (0 : Int) < (i : Int) := by omega
        subst ha
        clear hl hst hq him h0 hi hbnd hgl0 hcl0
        go_wp2
        go_loopw [5, 7] (fun va vk wr => ∃ k : Nat, va = .int .i64 ((st + k : Nat) : Int) ∧ vk = .int .i64 k ∧ k ≤ q ∧ Hid (Below w3.heap.size w3 wr)) (fun _ vk _ => q - (intOf vk).toNat)
        case atStart => exact ⟨0, by rw [Nat.add_zero, HST.out]; rfl, rfl, Nat.zero_le _, HBW⟩
        case round =>
          obtain ⟨k, rfl, rfl, hk, HBK⟩ := hrel
          obtain ⟨gl, Ai, ci, eA, hgl, hcl, hraw⟩ := (HGOT.out.below HBK.out) i l HL.out
          cases eA
          rw [HQ.out] at hcl
          by_cases hkq : k < q
          · obtain ⟨y, hy⟩ : ∃ y, l[k]? = some y := ⟨_, List.getElem?_eq_getElem (by rw [HQ.out]; exact hkq)⟩
            obtain ⟨hyL, hy5⟩ := (HAT.out i l HL.out).1 k y hy
            rw [HSTE.out] at hyL
            obtain ⟨gi, oi, rfl, hgi, t0, t1, t2, t3⟩ := hraw k y hy
            obtain ⟨gr, or', e0, hgr, u0, u1, u2, u3⟩ := (HRA.out.below (HB3.out.trans (HBK.out.mono HB3.out.size))) (st + k) y hyL
            cases e0
            have hin : st + k < n := by have := (List.getElem?_eq_some_iff.1 hyL).1; have := HNM.out.1; omega
            obtain ⟨p, hp⟩ : ∃ p, y.k = p := ⟨_, rfl⟩
            obtain ⟨T, hT⟩ : ∃ T, y.t = T := ⟨_, rfl⟩
            obtain ⟨z, hz⟩ : ∃ z, y.n = z := ⟨_, rfl⟩
            obtain ⟨v, hv⟩ : ∃ v, y.p = v := ⟨_, rfl⟩
            rw [hp] at t0 u0 hy5
            rw [hT] at t1 u1
            rw [hz] at t2 u2
            rw [hv] at t3 u3
            obtain ⟨at', hat'⟩ : ∃ at', st + k = at' := ⟨_, rfl⟩
            rw [hat'] at u0 u1 u2 u3 hin ⊢
            have b5 : (p == 5) = false := by simpa using hy5
            have gn : ¬ (n : Int) ≤ (at' : Int) := by omega
            have gq : (k : Int) < (q : Int) := by omega
            have HKQ := Lib.hid (And.intro hkq hat')
            clear hy hyL hy5 hp hT hz hv hkq hraw hat' hk
            go_wp2
            all_goals try (go_quiet (fail))
            all_goals try go_wp2
            go_roundw
            case rel => exact ⟨k + 1, by have := HKQ.out.2; first | rfl | go_num | (congr 1; omega), by first | rfl | go_num | (congr 1), by have := HKQ.out.1; omega, by first | exact HBK | exact Lib.hid (HBK.out.trans (drewN_below _ _ |>.mono HBK.out.size))⟩
            case measure => simp only [intOf]; have := HKQ.out.1; omega
          · obtain rfl : k = q := by omega
            have gq : ¬ (k : Int) < (k : Int) := by omega
            clear hraw
            go_wp2
            go_roundw
            case rel => exact ⟨st + k, i + 1, by first | rfl | go_num | (congr 1), by first | rfl | go_num | (congr 1), by have := HIM.out; omega, Lib.hid (.inr ⟨by omega, by rw [startAt_step ls i l HL.out, HSTE.out, HQ.out]⟩), HBK⟩
            case measure => simp only [intOf]; have := HIM.out; omega
      · obtain ⟨l', hl'⟩ : ∃ l', ls[i - 1]? = some l' := ⟨_, List.getElem?_eq_getElem (by rw [HNM.out.2]; omega)⟩
        have hstep := startAt_step ls (i - 1) l' hl'
        rw [show i - 1 + 1 = i by omega] at hstep
        obtain ⟨s, hs, hs5⟩ := (HAT.out (i - 1) l' hl').2.1 (by have := HNM.out.2; omega)
        rw [show startAt ls (i - 1) + l'.length = a by omega] at hs
        obtain ⟨gr0, or0, e0, hgr0, u0, _⟩ := (HRA.out.below (HB3.out.trans (HBW.out.mono HB3.out.size))) a s hs
        cases e0
        rw [hs5] at u0
        have han : a < n := by have := (List.getElem?_eq_some_iff.1 hs).1; have := HNM.out.1; omega
        have HST : Hid (a + 1 = st) := Lib.hid (by rw [← hst]; exact ha)
        have g0 : (0 : Int) < (i : Int) := by omega
        have gn : ¬ (n : Int) ≤ (a : Int) := by omega
        clear hl hst hq him h0 hi hbnd hl' hstep hs hs5 ha hgl0 hcl0
        go_wp2
        all_goals try (go_quiet (fail))
        all_goals try go_wp2
        go_loopw [5, 7] (fun va vk wr => ∃ k : Nat, va = .int .i64 ((st + k : Nat) : Int) ∧ vk = .int .i64 k ∧ k ≤ q ∧ Hid (Below w3.heap.size w3 wr)) (fun _ vk _ => q - (intOf vk).toNat)
        case atStart => exact ⟨0, by first | (rw [Nat.add_zero, ← HST.out]; first | rfl | go_num | (congr 1)) | (congr 1; have := HST.out; omega), rfl, Nat.zero_le _, HBW⟩
        case round =>
          obtain ⟨k, rfl, rfl, hk, HBK⟩ := hrel
          obtain ⟨gl, Ai, ci, eA, hgl, hcl, hraw⟩ := (HGOT.out.below HBK.out) i l HL.out
          cases eA
          rw [HQ.out] at hcl
          by_cases hkq : k < q
          · obtain ⟨y, hy⟩ : ∃ y, l[k]? = some y := ⟨_, List.getElem?_eq_getElem (by rw [HQ.out]; exact hkq)⟩
            obtain ⟨hyL, hy5⟩ := (HAT.out i l HL.out).1 k y hy
            rw [HSTE.out] at hyL
            obtain ⟨gi, oi, rfl, hgi, t0, t1, t2, t3⟩ := hraw k y hy
            obtain ⟨gr, or', e0, hgr, u0, u1, u2, u3⟩ := (HRA.out.below (HB3.out.trans (HBK.out.mono HB3.out.size))) (st + k) y hyL
            cases e0
            have hin : st + k < n := by have := (List.getElem?_eq_some_iff.1 hyL).1; have := HNM.out.1; omega
            obtain ⟨p, hp⟩ : ∃ p, y.k = p := ⟨_, rfl⟩
            obtain ⟨T, hT⟩ : ∃ T, y.t = T := ⟨_, rfl⟩
            obtain ⟨z, hz⟩ : ∃ z, y.n = z := ⟨_, rfl⟩
            obtain ⟨v, hv⟩ : ∃ v, y.p = v := ⟨_, rfl⟩
            rw [hp] at t0 u0 hy5
            rw [hT] at t1 u1
            rw [hz] at t2 u2
            rw [hv] at t3 u3
            obtain ⟨at', hat'⟩ : ∃ at', st + k = at' := ⟨_, rfl⟩
            rw [hat'] at u0 u1 u2 u3 hin ⊢
            have b5 : (p == 5) = false := by simpa using hy5
            have gn : ¬ (n : Int) ≤ (at' : Int) := by omega
            have gq : (k : Int) < (q : Int) := by omega
            have HKQ := Lib.hid (And.intro hkq hat')
            clear hy hyL hy5 hp hT hz hv hkq hraw hat' hk
            go_wp2
            all_goals try (go_quiet (fail))
            all_goals try go_wp2
            go_roundw
            case rel => exact ⟨k + 1, by have := HKQ.out.2; first | rfl | go_num | (congr 1; omega), by first | rfl | go_num | (congr 1), by have := HKQ.out.1; omega, by first | exact HBK | exact Lib.hid (HBK.out.trans (drewN_below _ _ |>.mono HBK.out.size))⟩
            case measure => simp only [intOf]; have := HKQ.out.1; omega
          · obtain rfl : k = q := by omega
            have gq : ¬ (k : Int) < (k : Int) := by omega
            clear hraw
            go_wp2
            go_roundw
            case rel => exact ⟨st + k, i + 1, by first | rfl | go_num | (congr 1), by first | rfl | go_num | (congr 1), by have := HIM.out; omega, Lib.hid (.inr ⟨by omega, by rw [startAt_step ls i l HL.out, HSTE.out, HQ.out]⟩), HBK⟩
            case measure => simp only [intOf]; have := HIM.out; omega
    · obtain rfl : m = i := by omega
      have gim : ¬ (m : Int) < (m : Int) := by omega
      have haN : a = n := by
        rcases HI.out with ⟨h0, ha⟩ | ⟨h0, ha⟩
        · omega
        · obtain ⟨l', hl'⟩ : ∃ l', ls[m - 1]? = some l' := ⟨_, List.getElem?_eq_getElem (by rw [HNM.out.2]; omega)⟩
          have hstep := startAt_step ls (m - 1) l' hl'
          rw [show m - 1 + 1 = m by omega] at hstep
          have := (HAT.out (m - 1) l' hl').2.2 (by have := HNM.out.2; omega)
          have := HNM.out.1
          omega
      subst haN
      have gee : ((a : Int) == (a : Int)) = true := by simp
      clear hi him HI
      go_wp2
      all_goals try (go_quiet (fail))
      all_goals try go_wp2
      go_ret
      have hm3 : 0 < m := by omega
      have hlast : Below w.heap.size w wr := HB3.out.trans (HBW.out.mono HB3.out.size)
      first
        | exact ⟨rfl, hlast⟩
        | exact ⟨by simp [hm3], hlast⟩

set_option maxRecDepth 100000 in
theorem walk (v0 : Value) {W : World} {H : Type} {enc : TypeId × Value → H} {base : Nat} {d0 : DataW H} {p0 : List MemPlace} (ok0 : Value.okWide Tryd.prog W .any base 23 v0)
    (h0 : DataW.Trod enc Tryd.prog W 0 (fun _ => true) true 23 v0 d0 p0) (hL : laidMetH Tryd.prog Rows.lexerLinesRow.laid W) :
    Calls Tryd.prog 5 #[v0] W fun e w' => e = .returned (.bool true) ∧ Below W.heap.size W w' := by
  obtain ⟨A, c, L, rfl, hR, hk, hc, hcm⟩ := open_raw ok0 h0
  exact core A c L W hR hc hcm (fun Y hb => lexerCovers.alive_later W Y hb hL)
end Go.Proofs.YtmghcidpdfbmgaaDoor.lexerLines
