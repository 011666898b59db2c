/- Print of package lexer. -/
import Derived.Test.YtejjbbgompddeaaDoorLexIsTok
import Derived.Test.YtejjbbgompddeaaDoorLexBuilder
import Derived.Test.YtejjbbgompddeaaDoorLexLex
namespace Go.Proofs.YtejjbbgompddeaaDoor
open Go.RowKit Go.Instr
set_option linter.unusedVariables false
set_option linter.unusedSimpArgs false

theorem bld_below {w w' : World} {B b : Nat} {bs : List Value} (h : Lib.IsBuilderF 52 5 B b bs w) (hb : Below w.heap.size w w') : Lib.IsBuilderF 52 5 B b bs w' := by
  have key : ∀ p, Lib.BuilderAtF 52 5 B b p bs w → Lib.BuilderAtF 52 5 B b p bs w' := by
    rintro p ⟨hB, v, hbk, hown, hne⟩
    exact ⟨hB, v, (hb.block b (lt_of_block hbk)).trans hbk, hown.kept (grown_below (row := none) hb) (by by_cases e : v.ownBlock = none; exact .inl e; exact .inr e), hne⟩
  exact h.elim (fun x => .inl (key _ x)) (fun x => .inr (key _ x))
theorem isLine_is (k n p : Int) (T : ByteArray) (q : Bool) (h : (k == 5) = q) (w : World) :
    Calls Tryd.prog 22 #[.agg #[.int .u8 k, .string T, .int .i64 n, .int .i64 p]] w fun e w' => e = .returned (.bool q) ∧ Below w.heap.size w w' := by
  rw [← h]; exact isLine_any k n p T w
theorem box_cells {W : World} {g : Nat} {k n p : Int} {T : ByteArray} (h : W.heap[g]? = some (.cells #[.int .u8 k, .string T, .int .i64 n, .int .i64 p] 29 (0, 0))) :
    W.cell? ⟨g, 0, none⟩ = some (.int .u8 k) ∧ W.cell? ⟨g, 1, none⟩ = some (.string T) ∧ W.cell? ⟨g, 2, none⟩ = some (.int .i64 n) ∧ W.cell? ⟨g, 3, none⟩ = some (.int .i64 p) ∧ g < W.heap.size :=
  ⟨by simp [World.cell?, h], by simp [World.cell?, h], by simp [World.cell?, h], by simp [World.cell?, h], lt_of_block h⟩

/-! ## What Print gives -/
theorem prF_append : ∀ (b : Bool) (L M : List Tk), prF b (L ++ M) = prF b L ++ prF (lastB b L) M
  | b, [], M => rfl
  | b, x :: L, M => by
    show sepL b x ++ (wr x ++ prF (x.k == 5) (L ++ M)) = (sepL b x ++ (wr x ++ prF (x.k == 5) L)) ++ prF (lastB (x.k == 5) L) M
    rw [prF_append (x.k == 5) L M]; simp
/-- The text of the first i tokens. -/
def prT (L : List Raw) (i : Nat) : List UInt8 := prF true ((L.take i).map rawTk)
def lastT (L : List Raw) (i : Nat) : Bool := lastB true ((L.take i).map rawTk)
theorem prT_step {L : List Raw} {i : Nat} {y : Raw} (h : L[i]? = some y) : prT L (i + 1) = prT L i ++ sepL (lastT L i) (rawTk y) ++ wr (rawTk y) := by
  unfold prT lastT
  rw [List.take_add_one, h, Option.toList_some, List.map_append, List.map_cons, List.map_nil, prF_snoc, List.append_assoc]
theorem lastT_prev {L : List Raw} {i : Nat} {z : Raw} (h0 : 1 ≤ i) (h : L[i - 1]? = some z) : lastT L i = ((rawTk z).k == 5) := by
  obtain ⟨j, rfl⟩ : ∃ j, i = j + 1 := ⟨i - 1, by omega⟩
  rw [Nat.add_sub_cancel] at h
  unfold lastT
  rw [List.take_add_one, h, Option.toList_some, List.map_append, List.map_cons, List.map_nil, lastB_snoc]
theorem prT_all (L : List Raw) {n : Nat} (h : L.length = n) : prT L n = prF true (L.map rawTk) := by unfold prT; rw [List.take_of_length_le (by omega)]
theorem prT_le (L : List Raw) (i : Nat) : (prT L i).length ≤ (prF true (L.map rawTk)).length := by
  unfold prT
  conv => rhs; rw [← List.take_append_drop i L, List.map_append, prF_append]
  rw [List.length_append]; omega
theorem kind5 {y : Raw} (hy : 0 ≤ y.k) : ((rawTk y).k == 5) = (y.k == 5) := by
  rw [Bool.eq_iff_iff]
  simp only [beq_iff_eq]
  unfold rawTk
  simp only
  omega
def printR (L : List Raw) : ByteArray × Nat :=
  if 20000 < L.length then (⟨#[]⟩, 4)
  else if (L.all fun y => tokB (rawTk y)) = false then (⟨#[]⟩, 8)
  else if 65536 < (prF true (L.map rawTk)).length then (⟨#[]⟩, 4)
  else (⟨(prF true (L.map rawTk)).toArray⟩, 0)
theorem printR_bad {L : List Raw} {i : Nat} {y : Raw} (hL : ¬ 20000 < L.length) (h : L[i]? = some y) (hb : tokB (rawTk y) = false) : printR L = (⟨#[]⟩, 8) := by
  unfold printR
  rw [if_neg hL, if_pos]
  rw [List.all_eq_false]
  exact ⟨y, List.mem_of_getElem? h, by simp [hb]⟩
theorem printR_long {L : List Raw} {i : Nat} (hL : ¬ 20000 < L.length) (ha : (L.all fun y => tokB (rawTk y)) = true) (h : 65536 < (prT L i).length) : printR L = (⟨#[]⟩, 4) := by
  unfold printR
  rw [if_neg hL, if_neg (by rw [ha]; decide), if_pos (Nat.lt_of_lt_of_le h (prT_le L i))]
theorem printR_ok {L : List Raw} {n : Nat} (hn : L.length = n) (hL : ¬ 20000 < L.length) (ha : (L.all fun y => tokB (rawTk y)) = true) (h : (prT L n).length ≤ 65536) : printR L = (⟨(prT L n).toArray⟩, 0) := by
  unfold printR
  rw [prT_all L hn] at h ⊢
  rw [if_neg hL, if_neg (by rw [ha]; decide), if_neg (by omega)]

/-- Between two rounds of the second loop. -/
def PrAt (w : World) (b : Nat) (c : List UInt8) (W : World) : Prop := Below w.heap.size w W ∧ Lib.IsBuilderF 52 5 b b (Lib.byteCells c) W ∧ w.heap.size ≤ b
theorem PrAt.below {w : World} {b : Nat} {c : List UInt8} {W W' : World} (h : PrAt w b c W) (hb : Below W.heap.size W W') : PrAt w b c W' := ⟨h.1.trans (hb.mono h.1.size), bld_below h.2.1 hb, h.2.2⟩
theorem PrAt.wrote {w : World} {b : Nat} {c d : List UInt8} {bs : List Value} {W W' : World} (h : PrAt w b c W) (h' : Lib.BuilderAtF 52 5 b b (.pointer (some ⟨b, 0, none⟩)) bs W') (hb : Below b W W') (e : bs = Lib.byteCells (c ++ d)) : PrAt w b (c ++ d) W' :=
  ⟨h.1.trans (hb.mono h.2.2), by rw [← e]; exact .inr h', h.2.2⟩
theorem PrAt.byte {w : World} {b : Nat} {c : List UInt8} {W : World} (h : PrAt w b c W) (hc : c.length ≤ 65536) : Calls Tryd.prog 23 #[.pointer (some ⟨b, 0, none⟩), .int .u8 32] W fun e w' => e = .returned .nilIface ∧ PrAt w b (c ++ [32]) w' ∧ Lib.OthersKept 5 (some b) W w' := by
  refine (bByte_any b b _ 32 W h.2.1 (by rw [Lib.byteCells_length]; omega) ?_).mono ?_
  · rcases h.2.1 with h | h <;> exact Nat.le_of_lt h.lt
  · rintro e w' ⟨rfl, h1, h2, h3⟩
    exact ⟨rfl, h.wrote h1 h2 (by rw [Lib.byteCells_append]; rfl), h3⟩
theorem PrAt.str {w : World} {b : Nat} {c : List UInt8} {W : World} (h : PrAt w b c W) (S : ByteArray) (hc : c.length ≤ 70000) (hS : S.size ≤ 1000000) : Calls Tryd.prog 24 #[.pointer (some ⟨b, 0, none⟩), .string S] W fun e w' => e = .returned (.tuple #[.int .i64 S.size, .nilIface]) ∧ PrAt w b (c ++ S.data.toList) w' ∧ Lib.OthersKept 5 (some b) W w' := by
  refine (bString_any b b _ S W h.2.1 (by rw [Lib.byteCells_length]; omega) ?_).mono ?_
  · rcases h.2.1 with h | h <;> exact Nat.le_of_lt h.lt
  · rintro e w' ⟨rfl, h1, h2, h3⟩
    exact ⟨rfl, h.wrote h1 h2 (by rw [Lib.byteCells_append, Lib.strCells_eq]), h3⟩
theorem PrAt.len {w : World} {b : Nat} {c : List UInt8} {W : World} (h : PrAt w b c W) (m : Nat) (hm : c.length = m) : Calls Tryd.prog 26 #[.pointer (some ⟨b, 0, none⟩)] W fun e w' => e = .returned (.int .i64 m) ∧ W = w' := by
  refine (Tryd.Builder_Len_f b b _ W h.2.1).mono ?_
  rintro e w' ⟨rfl, rfl⟩
  exact ⟨by rw [Lib.byteCells_length, hm], rfl⟩
theorem PrAt.string {w : World} {b : Nat} {c : List UInt8} {W : World} (h : PrAt w b c W) : Calls Tryd.prog 27 #[.pointer (some ⟨b, 0, none⟩)] W fun e w' => e = .returned (.string ⟨c.toArray⟩) ∧ Below w.heap.size w w' := by
  refine (Tryd.Builder_String_any_f b b c W h.2.1 ?_).mono ?_
  · rcases h.2.1 with h | h <;> exact Nat.le_of_lt h.lt
  · rintro e w' ⟨rfl, _, h2⟩
    exact ⟨rfl, h.1.trans (h2.mono h.2.2)⟩
/-- Between two rounds of the first loop. -/
def ChAt (w : World) (r : Nat) (W : World) : Prop := Below w.heap.size w W ∧ (∃ bs a, RdAt W r bs a (some (r + 1))) ∧ FormsAt W r (r + 1)

set_option maxHeartbeats 8000000 in
set_option maxRecDepth 100000 in
theorem print_any (A : Option Addr) (c : Nat) (L : List Raw) (w : World) (hA : RawAt w A L) (ho : RawOk L) (hs : ∀ y ∈ L, y.t.size ≤ 100000) (hL : LaidAt w) :
    Calls Tryd.prog 10 #[.slice A L.length c] w fun e w' => e = .returned (.tuple #[.string (printR L).1, .int .i64 ((printR L).2 : Nat)]) ∧ Below w.heap.size w w' := by
  have HA := Lib.hid hA
  have HO := Lib.hid (And.intro ho hs)
  have HL := Lib.hid hL
  clear hA ho hs hL
  obtain ⟨n, hn⟩ : ∃ n, L.length = n := ⟨_, rfl⟩
  have HN := Lib.hid hn
  by_cases hbig : 20000 < n
  · have HP := Lib.hid (show printR L = (⟨#[]⟩, 4) by unfold printR; rw [hn, if_pos hbig])
    have g1 : (20000 : Int) < (n : Int) := by omega
    rw [hn]
    clear hbig hn
    go_enter Tryd.func10, Tryd.ntmps10
    go_wp2
    go_ret2
    exact ⟨by rw [HP.out]; rfl, Below.refl _ _⟩
  have g1 : ¬ (20000 : Int) < (n : Int) := by omega
  have g2 : (n : Int) ≤ 20000 := by omega
  have HBG := Lib.hid (show ¬ 20000 < L.length by rw [hn]; exact hbig)
  rw [hn]
  clear hbig hn
  have HNR := Lib.hid (newReader_any w)
  obtain ⟨r, hr⟩ : ∃ r, r = w.heap.size := ⟨_, rfl⟩
  have HRR := Lib.hid hr
  clear hr
  go_enter Tryd.func10, Tryd.ntmps10
  go_wp2_with (go_at_call 17; (with_reducible refine HNR.out.mono ?_); rintro e w1 ⟨rfl, hm⟩; rw [← HRR.out]; have HM := Lib.hid hm; clear hm)
  have HC1 : Hid (ChAt w r w1) := Lib.hid ⟨HM.out.1, ⟨_, _, by rw [HRR.out]; exact HM.out.2.1⟩, by rw [HRR.out]; exact HM.out.2.2⟩
  clear HM
  go_loopw [16] (fun v wr => ∃ i : Nat, v = .int .i64 i ∧ i ≤ n ∧ Hid (ChAt w r wr ∧ (∀ j y, j < i → L[j]? = some y → tokB (rawTk y) = true))) (fun v _ => n - (intOf v).toNat)
  case atStart => exact ⟨0, rfl, Nat.zero_le _, Lib.hid ⟨HC1.out, fun j y hj => by omega⟩⟩
  case round =>
    obtain ⟨i, rfl, hi, HI⟩ := hrel
    by_cases hlt : i < n
    · obtain ⟨y, hy⟩ : ∃ y, L[i]? = some y := ⟨_, List.getElem?_eq_getElem (by rw [HN.out]; exact hlt)⟩
      obtain ⟨g, o, rfl, hg, t0, t1, t2, t3⟩ := (HA.out.below HI.out.1.1) i y hy
      have HY := Lib.hid hy
      have HLT := Lib.hid hlt
      have hym := List.mem_of_getElem? hy
      have HT : Hid (∀ W, Below wr.heap.size wr W → Calls Tryd.prog 21 #[.pointer (some ⟨r, 0, none⟩), .agg #[.int .u8 y.k, .string y.t, .int .i64 y.n, .int .i64 y.p]] W fun e w' => e = .returned (.bool (tokB (rawTk y))) ∧ ChAt w r w') := Lib.hid (fun W hb => by
        obtain ⟨bs, a, hrd⟩ := HI.out.1.2.1
        have hsz := HI.out.1.1.size
        refine (isToken_any r a (r + 1) bs y W (hrd.below hb) (HI.out.1.2.2.below hb) (laidOn_of HL.out (HI.out.1.1.trans (hb.mono hsz)) (by rw [HRR.out]; exact Nat.le_refl _)) (HO.out.1 y hym).1 (HO.out.2 y hym) (by omega)).mono ?_
        rintro e w' ⟨rfl, h2, h3⟩
        exact ⟨rfl, (HI.out.1.1.trans (hb.mono hsz)).trans (below_grown h3 (by rw [HRR.out]; exact Nat.le_refl _) (Nat.le_trans hsz hb.size)), h2, (HI.out.1.2.2.below hb).other h3 (by omega)⟩)
      obtain ⟨Z, hZ⟩ : ∃ Z, tokB (rawTk y) = Z := ⟨_, rfl⟩
      rw [hZ] at HT
      have HZ := Lib.hid hZ
      clear hy hym hZ
      cases Z with
      | false =>
        go_wp2_with (go_at_call 21; (with_reducible refine (HT.out _ ((Below.refl _ _).alloc (Nat.le_refl _) _)).mono ?_); rintro e w2 ⟨rfl, hc2⟩; have HC2 := Lib.hid hc2; clear hc2)
        go_ret2
        exact ⟨by rw [printR_bad HBG.out HY.out HZ.out]; rfl, HC2.out.1⟩
      | true =>
        go_wp2_with (go_at_call 21; (with_reducible refine (HT.out _ ((Below.refl _ _).alloc (Nat.le_refl _) _)).mono ?_); rintro e w2 ⟨rfl, hc2⟩; have HC2 := Lib.hid hc2; clear hc2)
        go_roundw
        case rel =>
          refine ⟨i + 1, by first | rfl | go_num | (congr 1), by have := HLT.out; omega, Lib.hid ⟨HC2.out, fun j z hj hz => ?_⟩⟩
          rcases Nat.lt_or_ge j i with h | h
          · exact HI.out.2 j z h hz
          · obtain rfl : j = i := by omega
            rw [HY.out] at hz
            cases hz
            exact HZ.out
        case measure => simp only [intOf]; have := HLT.out; omega
    · obtain rfl : n = i := by omega
      have HALL : Hid ((L.all fun y => tokB (rawTk y)) = true) := Lib.hid (by
        rw [List.all_eq_true]
        intro y hy
        obtain ⟨j, hj, e⟩ := List.mem_iff_getElem.1 hy
        exact HI.out.2 j y (by rw [← HN.out]; exact hj) (by rw [List.getElem?_eq_getElem hj, e]))
      have HB1 := Lib.hid HI.out.1.1
      clear HI HC1
      obtain ⟨b, hb⟩ : ∃ b, b = wr.heap.size := ⟨_, rfl⟩
      have HBB := Lib.hid hb
      clear hb
      have HP0 : Hid (PrAt w b (prT L 0) (wr.alloc (.cells #[.pointer none, .slice none 0 0] 52))) := Lib.hid (by
        rw [HBB.out]
        refine ⟨HB1.out.alloc HB1.out.size _, ?_, HB1.out.size⟩
        exact Lib.IsBuilderF.of (Lib.fresh_isBuilder 52 5 wr))
      go_wp2
      rw [← HBB.out]
      go_loopw [27] (fun v wz => ∃ i : Nat, v = .int .i64 i ∧ i ≤ n ∧ Hid (PrAt w b (prT L i) wz ∧ (prT L i).length ≤ 65536)) (fun v _ => n - (intOf v).toNat)
      case atStart => exact ⟨0, rfl, Nat.zero_le _, Lib.hid ⟨HP0.out, by simp [prT, prF]⟩⟩
      case round =>
        obtain ⟨i, rfl, hi, HI⟩ := hrel
        by_cases hlt : i < n
        · obtain ⟨y, hy⟩ : ∃ y, L[i]? = some y := ⟨_, List.getElem?_eq_getElem (by rw [HN.out]; exact hlt)⟩
          have HY := Lib.hid hy
          have HLT := Lib.hid hlt
          have hym := List.mem_of_getElem? hy
          have hyk := (HO.out.1 y hym).1
          have hyt := HO.out.2 y hym
          have HWR := Lib.hid (fun W => written_any y.k y.n y.p y.t W (by omega))
          have hSl := wrS_wr (y := y) hyk
          have hSs := wrS_size y.k y.t
          obtain ⟨S, hS⟩ : ∃ S, wrS y.k y.t = S := ⟨_, rfl⟩
          rw [hS] at HWR hSl hSs
          have HSS := Lib.hid (show S.size ≤ 1000000 by omega)
          have hst := prT_step hy
          rw [← hSl] at hst
          have h5 := kind5 hyk
          obtain ⟨g, o, e0, hg, t0, t1, t2, t3⟩ := (HA.out.below HI.out.1.1) i y hy
          obtain ⟨k, hk⟩ : ∃ k, y.k = k := ⟨_, rfl⟩
          obtain ⟨T, hT⟩ : ∃ T, y.t = T := ⟨_, rfl⟩
          obtain ⟨m, hm⟩ : ∃ m, y.n = m := ⟨_, rfl⟩
          obtain ⟨p, hp⟩ : ∃ p, y.p = p := ⟨_, rfl⟩
          rw [hk, hT, hm, hp] at HWR
          rw [hk] at t0 h5
          rw [hT] at t1
          rw [hm] at t2
          rw [hp] at t3
          obtain ⟨tot, htot⟩ : ∃ tot, (prT L (i + 1)).length = tot := ⟨_, rfl⟩
          have HTOT := Lib.hid htot
          have hwz : w.heap.size ≤ b := HI.out.1.2.2
          have hbw : b < wr.heap.size := by rcases HI.out.1.2.1 with h | h <;> exact h.lt
          have HBW := Lib.hid hbw
          have HSL : Hid (∀ q : Bool, lastT L i = q → prT L (i + 1) = prT L i ++ (if (q || (k == 5)) = true then [] else [32]) ++ S.data.toList) := Lib.hid (fun q hq => by rw [hst, hq]; unfold sepL; rw [h5])
          have hlen := HI.out.2
          have HLEN := Lib.hid hlen
          clear hym hyk hyt hSl hSs hS hst h5 hk hT hm hp htot hlen hwz hbw
          by_cases h0 : i = 0
          · have HEQ := Lib.hid (show prT L (i + 1) = prT L i ++ S.data.toList by
              have := HSL.out true (by rw [h0]; rfl)
              simpa using this)
            have g0 : ¬ (0 : Int) < (i : Int) := by omega
            clear h0 hy hlt hi
            subst e0
            by_cases hbt : 65536 < tot
            · have HBT := Lib.hid (show 65536 < (prT L (i + 1)).length by rw [HTOT.out]; exact hbt)
              have g3 : (65536 : Int) < (tot : Int) := by omega
              clear hbt
              go_wp2_with (first
                | (go_at_call 25; (with_reducible refine (HWR.out _).mono ?_); rintro e w4 ⟨rfl, hw4⟩; have HP4 := Lib.hid (HI.out.1.below (show Below wr.heap.size wr w4 by rw [← hw4]; exact ((Below.refl _ _).alloc (Nat.le_refl _) _).alloc (by simp) _)); clear hw4)
                | (go_at_call 24; (with_reducible refine (HP4.out.str S (by have := HLEN.out; omega) HSS.out).mono ?_); rintro e w5 ⟨rfl, hp5, _⟩; have HP5 := Lib.hid (show PrAt w b (prT L (i + 1)) w5 by rw [HEQ.out]; exact hp5); clear hp5)
                | (go_at_call 26; (with_reducible refine (HP5.out.len tot HTOT.out).mono ?_); rintro e w6 ⟨rfl, rfl⟩))
              go_ret2
              exact ⟨by rw [printR_long HBG.out HALL.out HBT.out]; rfl, HP5.out.1⟩
            · have HBT := Lib.hid (show (prT L (i + 1)).length ≤ 65536 by rw [HTOT.out]; omega)
              have g3 : ¬ (65536 : Int) < (tot : Int) := by omega
              clear hbt
              go_wp2_with (first
                | (go_at_call 25; (with_reducible refine (HWR.out _).mono ?_); rintro e w4 ⟨rfl, hw4⟩; have HP4 := Lib.hid (HI.out.1.below (show Below wr.heap.size wr w4 by rw [← hw4]; exact ((Below.refl _ _).alloc (Nat.le_refl _) _).alloc (by simp) _)); clear hw4)
                | (go_at_call 24; (with_reducible refine (HP4.out.str S (by have := HLEN.out; omega) HSS.out).mono ?_); rintro e w5 ⟨rfl, hp5, _⟩; have HP5 := Lib.hid (show PrAt w b (prT L (i + 1)) w5 by rw [HEQ.out]; exact hp5); clear hp5)
                | (go_at_call 26; (with_reducible refine (HP5.out.len tot HTOT.out).mono ?_); rintro e w6 ⟨rfl, rfl⟩))
              go_roundw
              case rel => exact ⟨i + 1, by first | rfl | go_num | (congr 1), by have := HLT.out; omega, Lib.hid ⟨HP5.out, HBT.out⟩⟩
              case measure => simp only [intOf]; have := HLT.out; omega
          · obtain ⟨z, hz⟩ : ∃ z, L[i - 1]? = some z := ⟨_, List.getElem?_eq_getElem (by rw [HN.out]; omega)⟩
            have hzk := (HO.out.1 z (List.mem_of_getElem? hz)).1
            have hlz := lastT_prev (by omega) hz
            rw [kind5 hzk] at hlz
            obtain ⟨g', o', e0', hg', u0, u1, u2, u3⟩ := (HA.out.below HI.out.1.1) (i - 1) z hz
            have g0 : (0 : Int) < (i : Int) := by omega
            have g01 : 1 ≤ i := by omega
            have g02 : i - 1 < n := by omega
            subst e0
            cases e0'
            obtain ⟨q, hq⟩ : ∃ q, (z.k == 5) = q := ⟨_, rfl⟩
            rw [hq] at hlz
            have HZL := Lib.hid (fun W => isLine_is z.k z.n z.p z.t q hq W)
            obtain ⟨s, hs⟩ : ∃ s, (k == 5) = s := ⟨_, rfl⟩
            have HYL := Lib.hid (fun W => isLine_is k m p T s hs W)
            have HEQ0 := HSL.out q hlz
            rw [hs] at HEQ0
            obtain ⟨zk, hzk'⟩ : ∃ zk, z.k = zk := ⟨_, rfl⟩
            obtain ⟨zt, hzt⟩ : ∃ zt, z.t = zt := ⟨_, rfl⟩
            obtain ⟨zn, hzn⟩ : ∃ zn, z.n = zn := ⟨_, rfl⟩
            obtain ⟨zp, hzp⟩ : ∃ zp, z.p = zp := ⟨_, rfl⟩
            rw [hzk', hzt, hzn, hzp] at HZL
            rw [hzk'] at u0
            rw [hzt] at u1
            rw [hzn] at u2
            rw [hzp] at u3
            clear h0 hy hlt hi hz hzk hlz hq hs hzk' hzt hzn hzp
            cases q with
            | true =>
              have HEQ := Lib.hid (show prT L (i + 1) = prT L i ++ S.data.toList by simpa using HEQ0)
              clear HEQ0
              by_cases hbt : 65536 < tot
              · have HBT := Lib.hid (show 65536 < (prT L (i + 1)).length by rw [HTOT.out]; exact hbt)
                have g3 : (65536 : Int) < (tot : Int) := by omega
                clear hbt
                go_wp2_with (first
                  | (go_at_call 22; (with_reducible refine (HZL.out _).mono ?_); rintro e wa ⟨rfl, hba⟩; have HBx := Lib.hid (((Below.refl wr.heap.size wr).alloc (Nat.le_refl _) (.cells #[.int .u8 k, .string T, .int .i64 m, .int .i64 p] 29)).trans (hba.mono (by simp))); have HXx := Lib.hid ((hba.block wr.heap.size (by simp)).trans (MapKept.heap_alloc wr (.cells #[.int .u8 k, .string T, .int .i64 m, .int .i64 p] 29)).1); obtain ⟨b0, b1, b2, b3, bl⟩ := box_cells HXx.out; clear hba)
                  | (go_at_call 25; (with_reducible refine (HWR.out _).mono ?_); rintro e w4 ⟨rfl, hw4⟩; have HP4 := Lib.hid ((HI.out.1.below HBx.out).below (show Below _ _ w4 by rw [← hw4]; exact (Below.refl _ _).alloc (Nat.le_refl _) _)); clear hw4)
                  | (go_at_call 24; (with_reducible refine (HP4.out.str S (by have := HLEN.out; omega) HSS.out).mono ?_); rintro e w5 ⟨rfl, hp5, _⟩; have HP5 := Lib.hid (show PrAt w b (prT L (i + 1)) w5 by rw [HEQ.out]; exact hp5); clear hp5)
                  | (go_at_call 26; (with_reducible refine (HP5.out.len tot HTOT.out).mono ?_); rintro e w6 ⟨rfl, rfl⟩))
                go_ret2
                exact ⟨by rw [printR_long HBG.out HALL.out HBT.out]; rfl, HP5.out.1⟩
              · have HBT := Lib.hid (show (prT L (i + 1)).length ≤ 65536 by rw [HTOT.out]; omega)
                have g3 : ¬ (65536 : Int) < (tot : Int) := by omega
                clear hbt
                go_wp2_with (first
                  | (go_at_call 22; (with_reducible refine (HZL.out _).mono ?_); rintro e wa ⟨rfl, hba⟩; have HBx := Lib.hid (((Below.refl wr.heap.size wr).alloc (Nat.le_refl _) (.cells #[.int .u8 k, .string T, .int .i64 m, .int .i64 p] 29)).trans (hba.mono (by simp))); have HXx := Lib.hid ((hba.block wr.heap.size (by simp)).trans (MapKept.heap_alloc wr (.cells #[.int .u8 k, .string T, .int .i64 m, .int .i64 p] 29)).1); obtain ⟨b0, b1, b2, b3, bl⟩ := box_cells HXx.out; clear hba)
                  | (go_at_call 25; (with_reducible refine (HWR.out _).mono ?_); rintro e w4 ⟨rfl, hw4⟩; have HP4 := Lib.hid ((HI.out.1.below HBx.out).below (show Below _ _ w4 by rw [← hw4]; exact (Below.refl _ _).alloc (Nat.le_refl _) _)); clear hw4)
                  | (go_at_call 24; (with_reducible refine (HP4.out.str S (by have := HLEN.out; omega) HSS.out).mono ?_); rintro e w5 ⟨rfl, hp5, _⟩; have HP5 := Lib.hid (show PrAt w b (prT L (i + 1)) w5 by rw [HEQ.out]; exact hp5); clear hp5)
                  | (go_at_call 26; (with_reducible refine (HP5.out.len tot HTOT.out).mono ?_); rintro e w6 ⟨rfl, rfl⟩))
                go_roundw
                case rel => exact ⟨i + 1, by first | rfl | go_num | (congr 1), by have := HLT.out; omega, Lib.hid ⟨HP5.out, HBT.out⟩⟩
                case measure => simp only [intOf]; have := HLT.out; omega
            | false =>
              cases s with
              | true =>
                have HEQ := Lib.hid (show prT L (i + 1) = prT L i ++ S.data.toList by simpa using HEQ0)
                clear HEQ0
                by_cases hbt : 65536 < tot
                · have HBT := Lib.hid (show 65536 < (prT L (i + 1)).length by rw [HTOT.out]; exact hbt)
                  have g3 : (65536 : Int) < (tot : Int) := by omega
                  clear hbt
                  go_wp2_with (first
                    | (go_at_call 22; (with_reducible refine (HZL.out _).mono ?_); rintro e wa ⟨rfl, hba⟩; have HBa := Lib.hid (((Below.refl wr.heap.size wr).alloc (Nat.le_refl _) (.cells #[.int .u8 k, .string T, .int .i64 m, .int .i64 p] 29)).trans (hba.mono (by simp))); have HXa := Lib.hid ((hba.block wr.heap.size (by simp)).trans (MapKept.heap_alloc wr (.cells #[.int .u8 k, .string T, .int .i64 m, .int .i64 p] 29)).1); obtain ⟨b0, b1, b2, b3, bl⟩ := box_cells HXa.out; clear hba)
                    | (go_at_call 22; (with_reducible refine (HYL.out _).mono ?_); rintro e wb ⟨rfl, hbb⟩; have HBx := Lib.hid (HBa.out.trans (hbb.mono HBa.out.size)); have HXx := Lib.hid ((hbb.block wr.heap.size (lt_of_block HXa.out)).trans HXa.out); obtain ⟨d0, d1, d2, d3, dl⟩ := box_cells HXx.out; clear hbb)
                    | (go_at_call 25; (with_reducible refine (HWR.out _).mono ?_); rintro e w4 ⟨rfl, hw4⟩; have HP4 := Lib.hid ((HI.out.1.below HBx.out).below (show Below _ _ w4 by rw [← hw4]; exact (Below.refl _ _).alloc (Nat.le_refl _) _)); clear hw4)
                    | (go_at_call 24; (with_reducible refine (HP4.out.str S (by have := HLEN.out; omega) HSS.out).mono ?_); rintro e w5 ⟨rfl, hp5, _⟩; have HP5 := Lib.hid (show PrAt w b (prT L (i + 1)) w5 by rw [HEQ.out]; exact hp5); clear hp5)
                    | (go_at_call 26; (with_reducible refine (HP5.out.len tot HTOT.out).mono ?_); rintro e w6 ⟨rfl, rfl⟩))
                  go_ret2
                  exact ⟨by rw [printR_long HBG.out HALL.out HBT.out]; rfl, HP5.out.1⟩
                · have HBT := Lib.hid (show (prT L (i + 1)).length ≤ 65536 by rw [HTOT.out]; omega)
                  have g3 : ¬ (65536 : Int) < (tot : Int) := by omega
                  clear hbt
                  go_wp2_with (first
                    | (go_at_call 22; (with_reducible refine (HZL.out _).mono ?_); rintro e wa ⟨rfl, hba⟩; have HBa := Lib.hid (((Below.refl wr.heap.size wr).alloc (Nat.le_refl _) (.cells #[.int .u8 k, .string T, .int .i64 m, .int .i64 p] 29)).trans (hba.mono (by simp))); have HXa := Lib.hid ((hba.block wr.heap.size (by simp)).trans (MapKept.heap_alloc wr (.cells #[.int .u8 k, .string T, .int .i64 m, .int .i64 p] 29)).1); obtain ⟨b0, b1, b2, b3, bl⟩ := box_cells HXa.out; clear hba)
                    | (go_at_call 22; (with_reducible refine (HYL.out _).mono ?_); rintro e wb ⟨rfl, hbb⟩; have HBx := Lib.hid (HBa.out.trans (hbb.mono HBa.out.size)); have HXx := Lib.hid ((hbb.block wr.heap.size (lt_of_block HXa.out)).trans HXa.out); obtain ⟨d0, d1, d2, d3, dl⟩ := box_cells HXx.out; clear hbb)
                    | (go_at_call 25; (with_reducible refine (HWR.out _).mono ?_); rintro e w4 ⟨rfl, hw4⟩; have HP4 := Lib.hid ((HI.out.1.below HBx.out).below (show Below _ _ w4 by rw [← hw4]; exact (Below.refl _ _).alloc (Nat.le_refl _) _)); clear hw4)
                    | (go_at_call 24; (with_reducible refine (HP4.out.str S (by have := HLEN.out; omega) HSS.out).mono ?_); rintro e w5 ⟨rfl, hp5, _⟩; have HP5 := Lib.hid (show PrAt w b (prT L (i + 1)) w5 by rw [HEQ.out]; exact hp5); clear hp5)
                    | (go_at_call 26; (with_reducible refine (HP5.out.len tot HTOT.out).mono ?_); rintro e w6 ⟨rfl, rfl⟩))
                  go_roundw
                  case rel => exact ⟨i + 1, by first | rfl | go_num | (congr 1), by have := HLT.out; omega, Lib.hid ⟨HP5.out, HBT.out⟩⟩
                  case measure => simp only [intOf]; have := HLT.out; omega
              | false =>
                have HEQ := Lib.hid (show prT L (i + 1) = prT L i ++ [32] ++ S.data.toList by simpa using HEQ0)
                clear HEQ0
                by_cases hbt : 65536 < tot
                · have HBT := Lib.hid (show 65536 < (prT L (i + 1)).length by rw [HTOT.out]; exact hbt)
                  have g3 : (65536 : Int) < (tot : Int) := by omega
                  clear hbt
                  go_wp2_with (first
                    | (go_at_call 22; (with_reducible refine (HZL.out _).mono ?_); rintro e wa ⟨rfl, hba⟩; have HBa := Lib.hid (((Below.refl wr.heap.size wr).alloc (Nat.le_refl _) (.cells #[.int .u8 k, .string T, .int .i64 m, .int .i64 p] 29)).trans (hba.mono (by simp))); have HXa := Lib.hid ((hba.block wr.heap.size (by simp)).trans (MapKept.heap_alloc wr (.cells #[.int .u8 k, .string T, .int .i64 m, .int .i64 p] 29)).1); obtain ⟨b0, b1, b2, b3, bl⟩ := box_cells HXa.out; clear hba)
                    | (go_at_call 22; (with_reducible refine (HYL.out _).mono ?_); rintro e wb ⟨rfl, hbb⟩; have HBx := Lib.hid (HBa.out.trans (hbb.mono HBa.out.size)); have HXx := Lib.hid ((hbb.block wr.heap.size (lt_of_block HXa.out)).trans HXa.out); obtain ⟨d0, d1, d2, d3, dl⟩ := box_cells HXx.out; clear hbb)
                    | (go_at_call 23; (with_reducible refine ((HI.out.1.below HBx.out).byte HLEN.out).mono ?_); rintro e w3 ⟨rfl, hp3, hk3⟩; have HPx := Lib.hid hp3; have HX3 := Lib.hid (hk3 _ _ HXx.out (by have := HBW.out; simp; omega) (by intro c fz e; injection e with e1 e2 e3; exact absurd e2 (by decide))); obtain ⟨q0, q1, q2, q3, ql⟩ := box_cells HX3.out; clear hp3 hk3)
                    | (go_at_call 25; (with_reducible refine (HWR.out _).mono ?_); rintro e w4 ⟨rfl, hw4⟩; have HP4 := Lib.hid (HPx.out.below (show Below w3.heap.size w3 w4 by rw [← hw4]; exact (Below.refl _ _).alloc (Nat.le_refl _) _)); clear hw4)
                    | (go_at_call 24; (with_reducible refine (HP4.out.str S (by have := HLEN.out; rw [List.length_append]; simp; omega) HSS.out).mono ?_); rintro e w5 ⟨rfl, hp5, _⟩; have HP5 := Lib.hid (show PrAt w b (prT L (i + 1)) w5 by rw [HEQ.out]; exact hp5); clear hp5)
                    | (go_at_call 26; (with_reducible refine (HP5.out.len tot HTOT.out).mono ?_); rintro e w6 ⟨rfl, rfl⟩))
                  go_ret2
                  exact ⟨by rw [printR_long HBG.out HALL.out HBT.out]; rfl, HP5.out.1⟩
                · have HBT := Lib.hid (show (prT L (i + 1)).length ≤ 65536 by rw [HTOT.out]; omega)
                  have g3 : ¬ (65536 : Int) < (tot : Int) := by omega
                  clear hbt
                  go_wp2_with (first
                    | (go_at_call 22; (with_reducible refine (HZL.out _).mono ?_); rintro e wa ⟨rfl, hba⟩; have HBa := Lib.hid (((Below.refl wr.heap.size wr).alloc (Nat.le_refl _) (.cells #[.int .u8 k, .string T, .int .i64 m, .int .i64 p] 29)).trans (hba.mono (by simp))); have HXa := Lib.hid ((hba.block wr.heap.size (by simp)).trans (MapKept.heap_alloc wr (.cells #[.int .u8 k, .string T, .int .i64 m, .int .i64 p] 29)).1); obtain ⟨b0, b1, b2, b3, bl⟩ := box_cells HXa.out; clear hba)
                    | (go_at_call 22; (with_reducible refine (HYL.out _).mono ?_); rintro e wb ⟨rfl, hbb⟩; have HBx := Lib.hid (HBa.out.trans (hbb.mono HBa.out.size)); have HXx := Lib.hid ((hbb.block wr.heap.size (lt_of_block HXa.out)).trans HXa.out); obtain ⟨d0, d1, d2, d3, dl⟩ := box_cells HXx.out; clear hbb)
                    | (go_at_call 23; (with_reducible refine ((HI.out.1.below HBx.out).byte HLEN.out).mono ?_); rintro e w3 ⟨rfl, hp3, hk3⟩; have HPx := Lib.hid hp3; have HX3 := Lib.hid (hk3 _ _ HXx.out (by have := HBW.out; simp; omega) (by intro c fz e; injection e with e1 e2 e3; exact absurd e2 (by decide))); obtain ⟨q0, q1, q2, q3, ql⟩ := box_cells HX3.out; clear hp3 hk3)
                    | (go_at_call 25; (with_reducible refine (HWR.out _).mono ?_); rintro e w4 ⟨rfl, hw4⟩; have HP4 := Lib.hid (HPx.out.below (show Below w3.heap.size w3 w4 by rw [← hw4]; exact (Below.refl _ _).alloc (Nat.le_refl _) _)); clear hw4)
                    | (go_at_call 24; (with_reducible refine (HP4.out.str S (by have := HLEN.out; rw [List.length_append]; simp; omega) HSS.out).mono ?_); rintro e w5 ⟨rfl, hp5, _⟩; have HP5 := Lib.hid (show PrAt w b (prT L (i + 1)) w5 by rw [HEQ.out]; exact hp5); clear hp5)
                    | (go_at_call 26; (with_reducible refine (HP5.out.len tot HTOT.out).mono ?_); rintro e w6 ⟨rfl, rfl⟩))
                  go_roundw
                  case rel => exact ⟨i + 1, by first | rfl | go_num | (congr 1), by have := HLT.out; omega, Lib.hid ⟨HP5.out, HBT.out⟩⟩
                  case measure => simp only [intOf]; have := HLT.out; omega
        · obtain rfl : n = i := by omega
          have HE := Lib.hid (printR_ok HN.out HBG.out HALL.out HI.out.2)
          have HST := Lib.hid HI.out.1.string
          clear hi hlt
          go_wp2_with (go_at_call 27; (with_reducible refine HST.out.mono ?_); rintro e w2 ⟨rfl, hb2⟩; have HB2 := Lib.hid hb2; clear hb2)
          go_ret2
          exact ⟨by rw [HE.out]; rfl, HB2.out⟩
end Go.Proofs.YtejjbbgompddeaaDoor
